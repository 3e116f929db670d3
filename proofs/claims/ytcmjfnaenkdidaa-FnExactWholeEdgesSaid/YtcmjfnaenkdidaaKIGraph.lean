/- A graph and an edge that come in, as the walks want them. What the laws over graphs share. What the laws' own marks and looks on edges answer: markEdgeS, heldEdgeS, markGraph, heldGraph. The library's BinarySearchFunc over edges, at the program's compareEdges. The library's Grow (of nothing) and Concat, over edges. The program's GraphOk and HasEdge. -/
import Derived.Test.YtcmjfnaenkdidaaKIns
import Derived.WalkKit
import Derived.ProofKit
import Derived.OpenShut
import Derived.ChangeOld
import Derived.ChangeArms
import Derived.Below
import Derived.Lib.AppendZerosOnto
import Derived.Lib.Walk
import Derived.Lib.SliceRun
import Derived.Laws.AppendOwnNone
namespace Go.Proofs.Ytcmjfnaenkdidaa
open Go.ChangeShapes Go.WideShapes Go.ChangeAt Go.RowKit

theorem cellsLE : Try.prog.cellsOf 86 = 2 := by kernel_rfl
theorem cells3 : Try.prog.cellsOf 3 = 1 := by kernel_rfl

/-- an edge as the machine bears it -/
def FitE (f : EdgeV) : Prop := (Lit.int .i64 f.1).wf = true ∧ (Lit.int .i64 f.2).wf = true

theorem two {α : Type} {l : List α} (h : l.length = 2) : ∃ a b, l = [a, b] := by
  cases l with
  | nil => simp at h
  | cons a l =>
    cases l with
    | nil => simp at h
    | cons b l =>
      cases l with
      | nil => exact ⟨a, b, rfl⟩
      | cons c l => simp at h

theorem open_edge1 {H : Type} {enc : TypeId × Value → H} {W : World} {fuel : Nat} {cs : List Value} {y : DataW H × List MemPlace}
    (h : DataW.trod enc Try.prog W 0 (fun _ => true) true fuel 86 cs = some y) : ∃ f : EdgeV, cs = [.int .i64 f.1, .int .i64 f.2] ∧ FitE f := by
  obtain ⟨xs, n, _, _, hl, hlen, hf⟩ := DataW.trod_struct Try.underlying86 h
  rw [cellsLE] at hl
  obtain ⟨c0, c1, rfl⟩ := two hl
  have h0 : DataW.trod enc Try.prog W 0 (fun _ => true) true n 3 (([c0, c1].drop 0).take (Try.prog.cellsOf 3)) = xs[0]? := hf 0 _ rfl
  have h1 : DataW.trod enc Try.prog W 0 (fun _ => true) true n 3 (([c0, c1].drop 1).take (Try.prog.cellsOf 3)) = xs[1]? := hf 1 _ rfl
  rw [cells3] at h0 h1
  have g : ∀ i, i < 2 → ∃ z, xs[i]? = some z := fun i hi => ⟨xs[i]'(by simp at hlen; omega), List.getElem?_eq_getElem _⟩
  obtain ⟨z0, e0⟩ := g 0 (by omega)
  obtain ⟨z1, e1⟩ := g 1 (by omega)
  rw [e0] at h0
  rw [e1] at h1
  obtain ⟨k0, hk0, _, w0⟩ := DataW.trod_int Try.underlying3 h0
  obtain ⟨k1, hk1, _, w1⟩ := DataW.trod_int Try.underlying3 h1
  simp at hk0 hk1
  subst hk0 hk1
  exact ⟨⟨k0, k1⟩, rfl, w0, w1⟩

theorem open_edgeS {H : Type} {enc : TypeId × Value → H} {W : World} {a : Option Addr} {len cap fuel : Nat} {x : DataW H × List MemPlace}
    (h : DataW.trod enc Try.prog W 0 (fun _ => true) true fuel 45 [.slice a len cap] = some x) : len ≤ maxLen ∧ ∃ fs : List EdgeV, Es W W.heap.size a len fs ∧ ∀ f ∈ fs, FitE f := by
  rcases DataW.trod_slice Try.underlying45 h with ⟨hcs, _⟩ | ⟨ad, l, c, elems, rest, n, _, hcs, _, _, hlc, hm, hel, hei, _, _⟩
  · simp at hcs
    obtain ⟨rfl, rfl, rfl⟩ := hcs
    exact ⟨by unfold maxLen; omega, [], ⟨rfl, .inl rfl⟩, by simp⟩
  · simp at hcs
    obtain ⟨rfl, rfl, rfl⟩ := hcs
    refine ⟨by omega, ?_⟩
    have each : ∀ i, i < len → ∃ f : EdgeV, (W.cell? ((ad.add (i * 2)).add 0) = some (.int .i64 f.1) ∧ W.cell? ((ad.add (i * 2)).add 1) = some (.int .i64 f.2)) ∧ FitE f := by
      intro i hi
      have h1 := hei i hi
      obtain ⟨y, hy⟩ : ∃ y, elems[i]? = some y := ⟨elems[i]'(by omega), List.getElem?_eq_getElem _⟩
      rw [hy, Option.bind_eq_some_iff] at h1
      obtain ⟨cs', hc, ht⟩ := h1
      obtain ⟨f, rfl, hfit⟩ := open_edge1 ht
      rw [cellsLE] at hc
      have hcell := (World.cells?_some hc).2.2
      refine ⟨f, ⟨?_, ?_⟩, hfit⟩
      · simpa using hcell 0 (by omega)
      · simpa using hcell 1 (by omega)
    by_cases h0 : len = 0
    · subst h0
      exact ⟨[], ⟨rfl, .inl rfl⟩, by simp⟩
    · obtain ⟨f0, ⟨hc0, _⟩, _⟩ := each 0 (by omega)
      obtain ⟨b, off, spot⟩ := ad
      have hspot : spot = none := by simpa [Addr.add] using World.cell?_spot hc0
      subst hspot
      have hb : b < W.heap.size := by
        have := World.block_lt_of_cell? W _ hc0
        simpa [Addr.add] using this
      obtain ⟨F, hF⟩ := Classical.axiomOfChoice (fun i : Fin len => each i.1 i.2)
      refine ⟨List.ofFn F, ⟨by simp, .inr ⟨b, off, rfl, hb, fun j f hf => ?_⟩⟩, fun f hf => ?_⟩
      · obtain ⟨hj, rfl⟩ := List.getElem?_eq_some_iff.1 hf
        have hj' : j < len := by simpa using hj
        obtain ⟨⟨c0, c1⟩, _⟩ := hF ⟨j, hj'⟩
        rw [add_plain, add_plain] at c0 c1
        simp only [List.getElem_ofFn]
        exact ⟨c0, c1⟩
      · obtain ⟨i, rfl⟩ := List.mem_ofFn.1 hf
        exact (hF i).2

set_option maxRecDepth 100000 in
/-- an edge that comes in -/
theorem open_edge {H : Type} {enc : TypeId × Value → H} {W : World} {r : Reach} {base : Nat} {v : Value} {d : DataW H} {p : List MemPlace}
    (hv : Value.okWide Try.prog W r base 86 v) (h : DataW.Trod enc Try.prog W 0 (fun _ => true) true 86 v d p) :
    ∃ f : EdgeV, v = .agg #[.int .i64 f.1, .int .i64 f.2] ∧ FitE f := by
  obtain ⟨cs, rfl, hcs⟩ := okWide_struct Try.underlying86 hv
  obtain ⟨fuel, hf⟩ := h
  obtain ⟨f, hcs2, hft⟩ := open_edge1 hf
  refine ⟨f, ?_, hft⟩
  have : (Value.agg cs).cells.toList = [.int .i64 f.1, .int .i64 f.2] := hcs2
  obtain ⟨l⟩ := cs
  simp [Value.cells] at this
  rw [this]

end Go.Proofs.Ytcmjfnaenkdidaa
namespace Go.Proofs.Ytcmjfnaenkdidaa
open Go.RowKit

/-- nothing below has turned since w -/
def Good (w u : World) : Prop := Below w.heap.size w u
theorem Good.refl (w : World) : Good w w := Below.refl _ _
theorem Good.size {w u : World} (h : Good w u) : w.heap.size ≤ u.heap.size := Below.size h
theorem Good.up {w u v : World} (h : Good w u) (hb : Below u.heap.size u v) : Good w v := Below.trans h (hb.mono h.size)
theorem Good.alloc {w u : World} (h : Good w u) (o : Obj) : Good w (u.alloc o) := h.up ((Below.refl _ _).alloc (Nat.le_refl _) _)
theorem Good.drew {w u : World} (h : Good w u) : Good w u.drew := Below.drew h
theorem Good.es {w u : World} (h : Good w u) {a : Option Addr} {n : Nat} {fs : List EdgeV} (hf : Es w w.heap.size a n fs) : Es u u.heap.size a n fs := hf.up h
theorem Good.cell {w u : World} (h : Good w u) {b o : Nat} (hb : b < w.heap.size) : u.cell? ⟨b, o, none⟩ = w.cell? ⟨b, o, none⟩ := Below.cell h hb
end Go.Proofs.Ytcmjfnaenkdidaa
namespace Go.Proofs.Ytcmjfnaenkdidaa
open Go.RowKit

theorem grown_of_below {w w' : World} (h : Below w.heap.size w w') (row : Option Nat) : w.grownBy w' row :=
  ⟨h.os, h.tape, h.output, h.size, fun k hk _ => h.block k hk⟩
theorem grown_trans {a b c : World} {row : Option Nat} (h : a.grownBy b row) (k : b.grownBy c row) : a.grownBy c row :=
  ⟨k.os.trans h.os, k.tape.trans h.tape, k.output.trans h.output, Nat.le_trans h.size k.size, fun i hi hr => (k.block i (Nat.lt_of_lt_of_le hi h.size) hr).trans (h.block i hi hr)⟩

/-- n marked edges from k0 on -/
def marks (k0 n : Nat) : List EdgeV := (List.range n).map fun (t : Nat) => ((k0 : Int) + (t : Int) * 2, (k0 : Int) + (t : Int) * 2 + 1)
theorem marks_snoc (k0 n : Nat) : marks k0 (n + 1) = marks k0 n ++ [((k0 : Int) + (n : Int) * 2, (k0 : Int) + (n : Int) * 2 + 1)] := by simp [marks, List.range_succ]
theorem marks_length (k0 n : Nat) : (marks k0 n).length = n := by simp [marks]
theorem marks_at (k0 n j : Nat) (h : j < n) : (marks k0 n)[j]? = some ((k0 : Int) + (j : Int) * 2, (k0 : Int) + (j : Int) * 2 + 1) := by simp [marks, h]

theorem markEdgeS_zero (a : Option Addr) (c : Nat) (k0 : Int) (w : World) :
    Calls Try.prog 28 #[.slice a 0 c, .int .i64 k0] w fun e w' => e = .returned (.int .i64 k0) ∧ w' = w := by
  go_enter Try.func28, Try.ntmps28
  go_wp2
  refine wp_loop_rounds 1 ?_
  rw [rounds_succ]
  go_wp2
  go_ret
  exact ⟨rfl, rfl⟩

set_option maxRecDepth 100000 in
set_option maxHeartbeats 4000000 in
theorem markEdgeS_any (base g c n k0 : Nat) (fs : List EdgeV) (hn : n ≤ 1048576) (hk1 : k0 ≤ 10000000) (w : World)
    (h : w.ownsRow base 28 2 (.slice (some ⟨g, 0, none⟩) n c) n (ecells fs)) :
    Calls Try.prog 28 #[.slice (some ⟨g, 0, none⟩) n c, .int .i64 (k0 : Int)] w fun e w' => e = .returned (.int .i64 ((k0 : Int) + (n : Int) * 2)) ∧
      w'.ownsRow base 28 2 (.slice (some ⟨g, 0, none⟩) n c) n (ecells (marks k0 n)) ∧ w.grownBy w' (some g) := by
  have HO0 := hideIt h
  clear h
  go_enter Try.func28, Try.ntmps28
  go_wp2
  go_loopw [1, 5] (fun kk i wr => ∃ (j : Nat) (xs : List Value), j ≤ n ∧ i = .int .i64 (j : Int) ∧ kk = .int .i64 ((k0 : Int) + (j : Int) * 2) ∧ Hid (xs.take (j * 2) = ecells (marks k0 j)) ∧
      wr.ownsRow base 28 2 (.slice (some ⟨g, 0, none⟩) n c) n xs ∧ w.grownBy wr (some g)) (fun _ i _ => n - (intOf i).toNat)
  case atStart => exact ⟨0, _, by omega, rfl, by simp, by show _ = _; simp [ecells, marks], HO0.out, ⟨rfl, rfl, rfl, Nat.le_refl _, fun _ _ _ => rfl⟩⟩
  case round =>
    obtain ⟨j, xs, hj, rfl, rfl, hx, hown, hgr⟩ := hrel
    clear HO0
    have hl3 : xs.length = n * 2 := hown.1
    by_cases hlt : j < n
    · have b1 : (0 : Int) ≤ (j : Int) := by omega
      have b2 : (j : Int) < (n : Int) := by omega
      obtain ⟨y0, c0⟩ : ∃ y, wr.cell? ⟨g, j * 2, none⟩ = some y := ⟨_, by rw [hown.cellAt (j * 2) (by omega)]; exact List.getElem?_eq_getElem (by omega)⟩
      obtain ⟨y1, c1⟩ : ∃ y, wr.cell? ⟨g, j * 2 + 1, none⟩ = some y := ⟨_, by rw [hown.cellAt (j * 2 + 1) (by omega)]; exact List.getElem?_eq_getElem (by omega)⟩
      have f0 := hown.frozenAt (j * 2)
      have f1 := hown.frozenAt (j * 2 + 1)
      have hst1 := hown.stored (j * 2) (.int .i64 ((k0 : Int) + (j : Int) * 2))
      have hst2 := hst1.1.stored (j * 2 + 1) (.int .i64 ((k0 : Int) + (j : Int) * 2 + 1))
      have HO2 := hideIt hst2.1
      have HG2 := hideIt (grown_trans (grown_trans hgr hst1.2) hst2.2)
      have HX : Hid (((xs.set (j * 2) (.int .i64 ((k0 : Int) + (j : Int) * 2))).set (j * 2 + 1) (.int .i64 ((k0 : Int) + (j : Int) * 2 + 1))).take ((j + 1) * 2) = ecells (marks k0 (j + 1))) := by
        show _ = _
        rw [show (j + 1) * 2 = j * 2 + 2 by omega, take_set2 _ _ _ _ (by omega), hx.out, marks_snoc, ecells_snoc]
      clear hst1 hst2 hx hown hgr
      go_wp2
      exact ⟨⟨j + 1, _, by omega, by go_num, by go_num, HX, HO2.out, HG2.out⟩, by simp [intOf]; omega⟩
    · obtain rfl : j = n := by omega
      have HX : Hid (xs = ecells (marks k0 j)) := by
        show _ = _
        have := hx.out
        rw [List.take_of_length_le (by omega)] at this
        exact this
      have HO := hideIt hown
      clear hx hown
      go_wp2
      go_ret
      exact ⟨rfl, by rw [← HX.out]; exact HO.out, hgr⟩

set_option maxRecDepth 100000 in
set_option maxHeartbeats 4000000 in
theorem heldEdgeS_any (n k0 : Nat) (a : Option Addr) (c : Nat) (hn : n ≤ 1048576) (hk1 : k0 ≤ 10000000) (w : World) (h : Es w w.heap.size a n (marks k0 n)) :
    Calls Try.prog 36 #[.slice a n c, .int .i64 (k0 : Int)] w fun e w' => e = .returned (.int .i64 ((k0 : Int) + (n : Int) * 2)) ∧ w' = w := by
  obtain ⟨_, hrow⟩ := h
  have HR := hideIt hrow
  clear hrow
  go_enter Try.func36, Try.ntmps36
  go_wp2
  go_loopw [1, 5] (fun kk i wr => ∃ j : Nat, j ≤ n ∧ i = .int .i64 (j : Int) ∧ kk = .int .i64 ((k0 : Int) + (j : Int) * 2) ∧ wr = w) (fun _ i _ => n - (intOf i).toNat)
  case atStart => exact ⟨0, by omega, rfl, by simp, rfl⟩
  case round =>
    obtain ⟨j, hj, rfl, rfl, hw⟩ := hrel
    have hw' := hw.symm
    subst hw'
    clear hw
    by_cases hlt : j < n
    · rcases HR.out with hz | ⟨b, off, rfl, hbl, hc⟩
      · omega
      · obtain ⟨c0, c1⟩ := hc j _ (marks_at k0 n j hlt)
        dsimp only at c0 c1
        have b1 : (0 : Int) ≤ (j : Int) := by omega
        have b2 : (j : Int) < (n : Int) := by omega
        clear hc
        go_wp2
        exact ⟨⟨j + 1, by omega, by go_num, by go_num, by first | trivial | rfl⟩, by simp [intOf]; omega⟩
    · obtain rfl : j = n := by omega
      go_wp2
      go_ret
      exact ⟨rfl, rfl⟩

end Go.Proofs.Ytcmjfnaenkdidaa
namespace Go.Proofs.Ytcmjfnaenkdidaa
open Go.RowKit

end Go.Proofs.Ytcmjfnaenkdidaa
namespace Go.Proofs.Ytcmjfnaenkdidaa
open Go.RowKit

theorem Grow_zero (w : World) : Calls Try.prog 74 #[.slice none 0 0, .int .i64 0] w fun e w' => e = .returned (.slice none 0 0) ∧ w' = w := by
  go_enter Try.func74, Try.ntmps74
  go_wp2
  go_ret
  exact ⟨rfl, rfl⟩

theorem Grow_some (n : Nat) (hn0 : 0 < n) (hn : n ≤ 10000000) (w : World) :
    Calls Try.prog 74 #[.slice none 0 0, .int .i64 (n : Int)] w fun e w' => ∃ a' c', e = .returned (.slice a' 0 c') ∧ w'.ownsRow w.heap.size 28 2 (.slice a' 0 c') 0 [] ∧ Below w.heap.size w w' := by
  obtain ⟨i0, hi, hz0, hz1, hz2⟩ := info_parts infoIE
  have hold : (Builtin.firstCells i0.size 0 (.slice none 0 0)).run Try.prog w.drew = .ok ([] : List Value).toArray w.drew := run_firstCells_none w.drew i0.size 0 0 0
  have hrz : ∀ ty, (Builtin.append_ #[24, 3] ty #[.slice none 0 0, .int .i64 (n : Int)]).run Try.prog w = _ := fun ty =>
    Lib.run_append_grow_zeros w 24 3 ty 28 i0 _ .i64 .i64 Try.underlying24 Try.underlying3 hi hz0 none 0 0 [] hold n hn0 (by rw [hz1]; omega) (by omega) (by omega)
      (by rw [hz2]; omega) (by rw [Nat.zero_add]; exact growslice_fits (by omega) (by rw [hz2]; omega))
  have hGn : 0 + n ≤ grownCap w (0 + n) 0 28 := grownCap_ge w _ _ _
  have hGm : grownCap w (0 + n) 0 28 ≤ maxLen := grownCap_le_maxLen w (0 + n) 0 28 (by unfold maxLen; omega)
  obtain ⟨G, hG⟩ : ∃ G, G = grownCap w (0 + n) 0 28 := ⟨_, rfl⟩
  rw [← hG] at hGn hGm
  have hrz2 : ∀ ty, (Builtin.append_ #[24, 3] ty #[.slice none 0 0, .int .i64 (n : Int)]).run Try.prog w = .ok (.slice (some ⟨w.heap.size, 0, none⟩) n G) (w.drew.alloc (.cells (Builtin.zeroCells #[.int .i64 0, .int .i64 0] n ++ Builtin.zeroCells #[.int .i64 0, .int .i64 0] (G - n)) 28)) := fun ty => by
    rw [hrz ty, ← hG]
    simp [Value.cells]
  have hsz : (Builtin.zeroCells #[.int .i64 0, .int .i64 0] n ++ Builtin.zeroCells #[.int .i64 0, .int .i64 0] (G - n)).size = G * 2 := by
    simp [Builtin.zeroCells]
    omega
  have HO := hideIt (show (w.drew.alloc (.cells (Builtin.zeroCells #[.int .i64 0, .int .i64 0] n ++ Builtin.zeroCells #[.int .i64 0, .int .i64 0] (G - n)) 28)).ownsRow w.heap.size 28 2 (.slice (some ⟨w.heap.size, 0, none⟩) 0 G) 0 [] from
    ⟨rfl, .inr ⟨w.heap.size, G, _, rfl, Nat.le_refl _, heap_alloc_new w.drew _, by omega, hGm, hsz, rfl⟩⟩)
  have HB := hideIt (show Below w.heap.size w (w.drew.alloc (.cells (Builtin.zeroCells #[.int .i64 0, .int .i64 0] n ++ Builtin.zeroCells #[.int .i64 0, .int .i64 0] (G - n)) 28)) from (Below.refl _ _).drew.alloc (Nat.le_refl _) _)
  generalize (w.drew.alloc (.cells (Builtin.zeroCells #[.int .i64 0, .int .i64 0] n ++ Builtin.zeroCells #[.int .i64 0, .int .i64 0] (G - n)) 28)) = W at hrz2 HO HB
  have g1 : (0 : Int) ≤ (G : Int) := by omega
  have d0 : decide ((0 : Int) < (n : Int)) = true := decide_eq_true (by omega)
  have d1 : decide ((n : Int) < 0) = false := decide_eq_false (by omega)
  unfold maxLen at hGm
  clear hrz hold hG hsz
  go_enter Try.func74, Try.ntmps74
  go_wp2_with (at_builtin; refine Lib.wpList_append_run _ rfl _ _ _ _ rfl _ _ rfl rfl _ _ (hrz2 _) ?_)
  all_goals
    go_ret
    exact ⟨_, _, rfl, HO.out, HB.out⟩

theorem own_form {w : World} {B e s n : Nat} {v : Value} {xs : List Value} (h : w.ownsRow B e s v n xs) : ∃ a c, v = .slice a n c := by
  rcases h.2 with ⟨hv, h0⟩ | ⟨g, cap, cur, hv, _⟩
  · subst h0; exact ⟨none, 0, hv⟩
  · exact ⟨_, cap, hv⟩
/-- one of the lists that are put together -/
structure Part where
  a : Option Addr
  m : Nat
  c : Nat
  es : List EdgeV
/-- the lists stand in block b -/
def Parts (w : World) (b : Nat) (ps : List Part) : Prop :=
  b < w.heap.size ∧ ∀ (j : Nat) (p : Part), ps[j]? = some p → w.cell? ⟨b, j, none⟩ = some (.slice p.a p.m p.c) ∧ Es w w.heap.size p.a p.m p.es ∧ (p.a = none → p.m = 0 ∧ p.c = 0)
def pLen (ps : List Part) : Nat := (ps.map fun p => p.m).sum
def pAll (ps : List Part) : List EdgeV := ps.flatMap fun p => p.es
theorem pLen_snoc (ps : List Part) (p : Part) : pLen (ps ++ [p]) = pLen ps + p.m := by simp [pLen]
theorem pAll_snoc (ps : List Part) (p : Part) : pAll (ps ++ [p]) = pAll ps ++ p.es := by simp [pAll]
theorem pLen_take (ps : List Part) (k : Nat) : pLen (ps.take k) ≤ pLen ps := by
  have h := congrArg pLen (List.take_append_drop k ps)
  have e : ∀ a b : List Part, pLen (a ++ b) = pLen a + pLen b := fun a b => by simp [pLen]
  rw [e] at h
  omega
theorem pAll_len {w : World} {b : Nat} {ps : List Part} (h : Parts w b ps) (k : Nat) : (pAll (ps.take k)).length = pLen (ps.take k) := by
  induction k with
  | zero => simp [pAll, pLen]
  | succ k ih =>
    by_cases hk : k < ps.length
    · obtain ⟨p, hp⟩ : ∃ p, ps[k]? = some p := ⟨ps[k], List.getElem?_eq_getElem hk⟩
      rw [take_snocF ps k p hp, pAll_snoc, pLen_snoc, List.length_append, ih, (h.2 k p hp).2.1.1]
    · rw [List.take_of_length_le (by omega), ← List.take_of_length_le (by omega : ps.length ≤ k)]; exact ih

theorem Es.news {w : World} {B b off n : Nat} {es : List EdgeV} (h : Es w B (some ⟨b, off, none⟩) n es) : ∀ j u, (ecells es)[j]? = some u → w.cell? ((⟨b, off, none⟩ : Addr).add j) = some u := by
  intro j u hj
  have hl : j < es.length * 2 := by have := (List.getElem?_eq_some_iff.1 hj).1; rw [ecells_length] at this; exact this
  have hn := h.1
  rcases h.2 with h0 | ⟨b', off', hb, _, hc⟩
  · omega
  · simp at hb
    obtain ⟨rfl, rfl⟩ := hb
    obtain ⟨f, hf⟩ : ∃ f, es[j / 2]? = some f := ⟨es[j / 2]'(by omega), List.getElem?_eq_getElem (by omega)⟩
    obtain ⟨c0, c1⟩ := hc _ f hf
    obtain ⟨d0, d1⟩ := ecells_at es _ f hf
    rw [show ((⟨b, off, none⟩ : Addr).add j) = ⟨b, off + j, none⟩ by by_cases h0 : j = 0 <;> simp [Addr.add, h0]]
    rcases (show j = j / 2 * 2 ∨ j = j / 2 * 2 + 1 by omega) with e | e
    · rw [← e] at d0 c0
      rw [d0] at hj
      rw [c0]
      exact hj
    · rw [← e] at d1
      rw [Nat.add_assoc, ← e] at c1
      rw [d1] at hj
      rw [c1]
      exact hj
theorem ecells_one {es : List EdgeV} : ∀ u ∈ ecells es, u.oneCell' = true := by
  intro u hu
  simp only [ecells, List.mem_flatMap] at hu
  obtain ⟨e, _, he⟩ := hu
  simp [ecell] at he
  rcases he with rfl | rfl <;> rfl

set_option maxRecDepth 100000 in
set_option maxHeartbeats 2000000 in
theorem Concat_any (ps : List Part) (b k0 : Nat) (hk0 : ps.length = k0) (hsm : k0 ≤ 10) (w : World) (h : Parts w b ps) (hlen : pLen ps ≤ 3000000) :
    Calls Try.prog 68 #[.slice (some ⟨b, 0, none⟩) k0 k0] w fun e w' => ∃ a m c, e = .returned (.slice a m c) ∧ w'.ownsRow w.heap.size 28 2 (.slice a m c) m (ecells (pAll ps)) ∧ Below w.heap.size w w' := by
  obtain ⟨i0, hi, hz0, hz1, hz2⟩ := info_parts infoIE
  have HP := hideIt h
  have HL := hideIt hlen
  have HK := hideIt hk0
  have hbw := h.1
  clear h hlen hk0
  have HG : Hid (∀ n : Nat, n ≤ 3000000 → Calls Try.prog 74 #[.slice none 0 0, .int .i64 (n : Int)] w fun e w' => ∃ a' c', e = .returned (.slice a' 0 c') ∧ w'.ownsRow w.heap.size 28 2 (.slice a' 0 c') 0 [] ∧ Below w.heap.size w w') := fun n hn => by
    by_cases h0 : n = 0
    · subst h0
      exact (Grow_zero w).mono fun _ _ ⟨he, hw⟩ => ⟨_, _, he, by rw [hw]; exact World.ownsRow_nil _ _ _ _, by rw [hw]; exact Below.refl _ _⟩
    · exact Grow_some n (by omega) (by omega) w
  go_enter Try.func68, Try.ntmps68
  go_wp2
  go_loopw [3, 11] (fun s i wr => ∃ (k q : Nat), k ≤ k0 ∧ i = .int .i64 (k : Int) ∧ s = .int .i64 (q : Int) ∧ Hid (q = pLen (ps.take k)) ∧ q ≤ 3000000 ∧ wr = w) (fun _ i _ => k0 - (intOf i).toNat)
  case atStart => exact ⟨0, 0, by omega, rfl, rfl, by show _ = _; simp [pLen], by omega, rfl⟩
  case round =>
    obtain ⟨k, q, hk, rfl, rfl, hq, hq1, hw⟩ := hrel
    have hw' := hw.symm
    subst hw'
    clear hw
    by_cases hlt : k < k0
    · obtain ⟨p, hp⟩ : ∃ p, ps[k]? = some p := ⟨ps[k]'(by have := HK.out; omega), List.getElem?_eq_getElem _⟩
      obtain ⟨c0, _, _⟩ := HP.out.2 k p hp
      have HQ : Hid (q + p.m = pLen (ps.take (k + 1))) := by show _ = _; rw [take_snocF ps k p hp, pLen_snoc, hq.out]
      have hqm : q + p.m ≤ 3000000 := by have := HQ.out; have := pLen_take ps (k + 1); have := HL.out; omega
      have b1 : (0 : Int) ≤ (k : Int) := by omega
      have b2 : (k : Int) < (k0 : Int) := by omega
      clear hq hp
      go_wp2
      exact ⟨⟨k + 1, q + p.m, by omega, by go_num, by go_num, HQ, hqm, by first | trivial | rfl⟩, by simp [intOf]; omega⟩
    · obtain rfl : k = k0 := by omega
      have HQ : Hid (q = pLen ps) := by show _ = _; rw [hq.out, List.take_of_length_le (by have := HK.out; omega)]
      clear hq
      have HG1 := hideIt (HG.out q hq1)
      clear HG
      go_wp2_with (go_at_call 74; refine HG1.out.mono ?_; rintro e w1 ⟨a1, c1, rfl, hown1, hb1⟩; refine Hid.out ?_)
      refine (show ∀ {p : Prop}, p → Hid p from fun h => h) ?_
      clear HG1
      have HO1 := hideIt hown1
      clear hown1
      go_wp2
      go_loopw [6, 27] (fun v i wr => ∃ (j m : Nat) (a' : Option Addr) (c' : Nat), j ≤ k ∧ i = .int .i64 (j : Int) ∧ v = .slice a' m c' ∧ Hid (m = pLen (ps.take j)) ∧ wr.ownsRow w.heap.size 28 2 (.slice a' m c') m (ecells (pAll (ps.take j))) ∧ Below w.heap.size w wr) (fun _ i _ => k - (intOf i).toNat)
      case atStart => exact ⟨0, 0, a1, c1, by omega, rfl, rfl, by show _ = _; simp [pLen], by simpa [pAll, ecells] using HO1.out, hb1⟩
      case round =>
        obtain ⟨j, m, a', c', hj, rfl, rfl, hm, hown, hb⟩ := hrel
        by_cases hlt2 : j < k
        · obtain ⟨p, hp⟩ : ∃ p, ps[j]? = some p := ⟨ps[j]'(by have := HK.out; omega), List.getElem?_eq_getElem _⟩
          obtain ⟨c0, hes, hnil⟩ := HP.out.2 j p hp
          have c1 : wr.cell? ⟨b, j, none⟩ = some (.slice p.a p.m p.c) := by rw [hb.cell hbw]; exact c0
          have HM : Hid (m + p.m = pLen (ps.take (j + 1))) := by show _ = _; rw [take_snocF ps j p hp, pLen_snoc, hm.out]
          have HA : Hid (ecells (pAll (ps.take (j + 1))) = ecells (pAll (ps.take j)) ++ ecells p.es) := by show _ = _; rw [take_snocF ps j p hp, pAll_snoc, ecells_append]
          have hmp : m + p.m ≤ 3000000 := by have := HM.out; have := pLen_take ps (j + 1); have := HL.out; omega
          have b1 : (0 : Int) ≤ (j : Int) := by omega
          have b2 : (j : Int) < (k : Int) := by omega
          have hesw := (hes.below hb (Nat.le_refl _)).mono hb.size
          have hl2 : (ecells p.es).length = p.m * 2 := by rw [ecells_length, hes.1]
          obtain ⟨pa, pm, pc, pes⟩ := p
          dsimp only at *
          clear hm hp c0 hes
          cases pa with
          | none =>
            obtain ⟨rfl, rfl⟩ := hnil rfl
            have HO2 : Hid (wr.ownsRow w.heap.size 28 2 (.slice a' m c') m (ecells (pAll (ps.take (j + 1))))) := by
              have e0 : pes = [] := List.length_eq_zero_iff.1 hesw.1
              show World.ownsRow _ _ _ _ _ _ _
              rw [HA.out, e0]
              simpa [ecells] using hown
            clear hnil
            go_wp2_with (at_builtin; refine wpList_append_own_none rfl _ _ 24 rfl w.heap.size 28 i0 2 Try.underlying24 hi _ _ _ rfl hown rfl ?_)
            exact ⟨⟨j + 1, m, a', c', by omega, by go_num, rfl, HM, HO2.out, hb⟩, by simp [intOf]; omega⟩
          | some ad =>
            have hnews : ∀ q u, (ecells pes)[q]? = some u → wr.cell? (ad.add q) = some u := by
              rcases hesw.2 with h0 | ⟨bb, oo, hbb, _⟩
              · intro q u hq
                have e0 : pes = [] := List.length_eq_zero_iff.1 (by rw [hesw.1]; exact h0)
                rw [e0] at hq
                simp [ecells] at hq
              · simp at hbb
                subst hbb
                exact hesw.news
            clear hnil
            go_wp2_with (at_builtin; refine wpList_append_own _ rfl _ _ 24 rfl w.heap.size 28 i0 _ 2 16 Try.underlying24 hi hz0 hz1 hz2 rfl (by decide) _ _ _ rfl hown ad pm pc (ecells pes) rfl hl2 hnews ecells_one (by unfold maxLen; omega) (by omega) hb.size ?_)
            intro v1 w1 hown1 hg1 hn1
            have hb1 : Below w.heap.size w w1 := hb.grown hg1 hb.size (fun q hq => (hown.lt q hq).1)
            rw [← HA.out] at hown1
            obtain ⟨a2, c2, rfl⟩ := own_form hown1
            have HO2 := hideIt hown1
            clear hown1 hown hg1 hn1 hnews
            go_wp2
            exact ⟨⟨j + 1, m + pm, a2, c2, by omega, by go_num, rfl, HM, HO2.out, hb1⟩, by simp [intOf]; omega⟩
        · obtain rfl : j = k := by omega
          have e : ps.take j = ps := List.take_of_length_le (by have := HK.out; omega)
          rw [e] at hown
          have HO2 := hideIt hown
          clear hown e hm
          go_wp2
          go_ret
          exact ⟨a', m, c', rfl, HO2.out, hb⟩
end Go.Proofs.Ytcmjfnaenkdidaa
namespace Go.Proofs.Ytcmjfnaenkdidaa
open Go.RowKit

theorem cmpE_ge (d e : EdgeV) (b : Bool) (h : lt d e = b) : decide (0 ≤ cmpE d e) = !b := by
  cases b with
  | true => have := (cmpE_neg d e).2 h; simp; omega
  | false =>
    have : ¬ cmpE d e < 0 := fun h2 => by rw [(cmpE_neg d e).1 h2] at h; cases h
    simp; omega

end Go.Proofs.Ytcmjfnaenkdidaa
