/- Edges that ascend: where one is put in, and what is left without one. (No walk.). A graph and an edge that come in, as the walks want them. What the laws over graphs share. What the laws' own marks and looks on edges answer: markEdgeS, heldEdgeS, markGraph, heldGraph. Plain mathematics on numbers in bytes: no program is named here. Plain mathematics on reading a number out of bytes: no program is named here. -/
import Derived.Test.YtkhhagjcmbbdpaaKSHas
import Derived.WalkKit
import Derived.ProofKit
import Derived.OpenShut
import Derived.ChangeOld
import Derived.ChangeArms
import Derived.Below
namespace Go.Proofs.Ytkhhagjcmbbdpaa

theorem lt_iff (d e : EdgeV) : lt d e = true ↔ (d.1 < e.1 ∨ d.1 = e.1 ∧ d.2 < e.2) := by unfold lt; rw [decide_eq_true_iff]
theorem lt_trans' {a b c : EdgeV} (h1 : lt a b = true) (h2 : lt b c = true) : lt a c = true := by rw [lt_iff] at *; omega
theorem lt_asymm' {a b : EdgeV} (h1 : lt a b = true) : lt b a = false := by
  cases h : lt b a with
  | false => rfl
  | true => rw [lt_iff] at *; omega
theorem lt_irrefl' (a : EdgeV) : lt a a = false := by
  cases h : lt a a with
  | false => rfl
  | true => rw [lt_iff] at h; omega
theorem lt_total' {a b : EdgeV} (h1 : lt a b = false) (h2 : a ≠ b) : lt b a = true := by
  have h3 : ¬ (a.1 < b.1 ∨ a.1 = b.1 ∧ a.2 < b.2) := fun h => by rw [(lt_iff a b).2 h] at h1; cases h1
  rw [lt_iff]
  by_cases h4 : a.1 = b.1
  · have h5 : ¬ a.2 = b.2 := fun h5 => h2 (Prod.ext h4 h5)
    omega
  · omega

/-- they ascend -/
def Asc (es : List EdgeV) : Prop := ∀ (i j : Nat) (d e : EdgeV), i < j → es[i]? = some d → es[j]? = some e → lt d e = true

theorem chk_all {n : Int} {es : List EdgeV} (h : chk n es = true) (j : Nat) (hj : j < es.length) : chkAt n es j = true := by
  unfold chk at h
  rw [List.all_eq_true] at h
  exact h j (List.mem_range.2 hj)
theorem chk_eB {n : Int} {es : List EdgeV} (h : chk n es = true) {e : EdgeV} (he : e ∈ es) : eB n e = true := by
  obtain ⟨j, hj, rfl⟩ := List.getElem_of_mem he
  have h1 := chk_all h j hj
  have h2 : es[j]? = some es[j] := List.getElem?_eq_getElem hj
  cases h3 : eB n es[j] with
  | true => rfl
  | false => rw [chkAt_no h2 h3] at h1; cases h1
theorem chk_next {n : Int} {es : List EdgeV} (h : chk n es = true) {i : Nat} {d e : EdgeV} (hd : es[i]? = some d) (he : es[i + 1]? = some e) : lt d e = true := by
  have h1 := chk_all h (i + 1) (List.getElem?_eq_some_iff.1 he).1
  rw [chkAt_succ he hd, Bool.and_eq_true] at h1
  exact h1.2
theorem asc_of_chk {n : Int} {es : List EdgeV} (h : chk n es = true) : Asc es := by
  intro i j d e hij hd he
  obtain ⟨k, rfl⟩ : ∃ k, j = i + 1 + k := ⟨j - i - 1, by omega⟩
  clear hij
  induction k generalizing e with
  | zero => exact chk_next h hd he
  | succ k ih =>
    have hl := (List.getElem?_eq_some_iff.1 he).1
    have h2 : es[i + 1 + k]? = some (es[i + 1 + k]'(by omega)) := List.getElem?_eq_getElem (by omega)
    exact lt_trans' (ih _ h2) (chk_next h h2 he)

/-- p parts what comes ahead of e from the rest -/
def Split (es : List EdgeV) (e : EdgeV) (p : Nat) : Prop :=
  p ≤ es.length ∧ (∀ m d, m < p → es[m]? = some d → lt d e = true) ∧ (∀ m d, p ≤ m → es[m]? = some d → lt d e = false)

/-- the edge in its place, as the specification puts it -/
def putE (es : List EdgeV) (e : EdgeV) : List EdgeV := es.filter (fun d => lt d e) ++ [e] ++ es.filter (fun d => lt e d)
/-- all but the edge -/
def outE (es : List EdgeV) (e : EdgeV) : List EdgeV := es.filter (fun d => decide (d ≠ e))

theorem mem_take_at {es : List EdgeV} {p : Nat} {d : EdgeV} (h : d ∈ es.take p) : ∃ m, m < p ∧ es[m]? = some d := by
  obtain ⟨m, hm, rfl⟩ := List.getElem_of_mem h
  have h1 : m < p := by simp at hm; omega
  exact ⟨m, h1, by rw [List.getElem_take]; exact List.getElem?_eq_getElem _⟩
theorem mem_drop_at {es : List EdgeV} {p : Nat} {d : EdgeV} (h : d ∈ es.drop p) : ∃ m, p ≤ m ∧ es[m]? = some d := by
  obtain ⟨m, hm, rfl⟩ := List.getElem_of_mem h
  exact ⟨p + m, by omega, by rw [List.getElem_drop]; exact List.getElem?_eq_getElem _⟩

theorem put_split {es : List EdgeV} {e : EdgeV} {p : Nat} (hs : Split es e p) (hn : e ∉ es) : putE es e = es.take p ++ [e] ++ es.drop p := by
  have hd : es = es.take p ++ es.drop p := (List.take_append_drop p es).symm
  unfold putE
  have a1 : (es.take p).filter (fun d => lt d e) = es.take p := List.filter_eq_self.2 fun d hm => by
    obtain ⟨m, h1, h2⟩ := mem_take_at hm
    exact hs.2.1 m d h1 h2
  have a2 : (es.drop p).filter (fun d => lt d e) = [] := List.filter_eq_nil_iff.2 fun d hm => by
    obtain ⟨m, h1, h2⟩ := mem_drop_at hm
    rw [hs.2.2 m d h1 h2]; simp
  have b1 : (es.take p).filter (fun d => lt e d) = [] := List.filter_eq_nil_iff.2 fun d hm => by
    obtain ⟨m, h1, h2⟩ := mem_take_at hm
    rw [lt_asymm' (hs.2.1 m d h1 h2)]; simp
  have b2 : (es.drop p).filter (fun d => lt e d) = es.drop p := List.filter_eq_self.2 fun d hm => by
    obtain ⟨m, h1, h2⟩ := mem_drop_at hm
    exact lt_total' (hs.2.2 m d h1 h2) fun h3 => hn (h3 ▸ List.mem_of_getElem? h2)
  have c1 : es.filter (fun d => lt d e) = es.take p := by
    rw [hd, List.filter_append, ← hd, a1, a2, List.append_nil]
  have c2 : es.filter (fun d => lt e d) = es.drop p := by
    rw [hd, List.filter_append, ← hd, b1, b2, List.nil_append]
  rw [c1, c2]

theorem out_at {es : List EdgeV} {e : EdgeV} {p : Nat} (ha : Asc es) (hp : es[p]? = some e) : outE es e = es.take p ++ es.drop (p + 1) := by
  have hl := (List.getElem?_eq_some_iff.1 hp).1
  have hd : es = es.take p ++ es.drop p := (List.take_append_drop p es).symm
  have h1 : es.drop p = e :: es.drop (p + 1) := by
    rw [List.drop_eq_getElem_cons hl, (List.getElem?_eq_some_iff.1 hp).2]
  unfold outE
  have a1 : (es.take p).filter (fun d => decide (d ≠ e)) = es.take p := List.filter_eq_self.2 fun d hm => by
    obtain ⟨m, h2, h3⟩ := mem_take_at hm
    have h4 := ha m p d e h2 h3 hp
    exact decide_eq_true fun h5 => by rw [h5, lt_irrefl'] at h4; cases h4
  have a2 : (es.drop (p + 1)).filter (fun d => decide (d ≠ e)) = es.drop (p + 1) := List.filter_eq_self.2 fun d hm => by
    obtain ⟨m, h2, h3⟩ := mem_drop_at hm
    have h4 := ha p m e d (by omega) hp h3
    exact decide_eq_true fun h5 => by rw [h5, lt_irrefl'] at h4; cases h4
  have c1 : es.filter (fun d => decide (d ≠ e)) = es.take p ++ es.drop (p + 1) := by
    rw [hd, List.filter_append, ← hd, a1, h1, List.filter_cons_of_neg (by simp), a2]
  exact c1

/-- AddEdge -/
def addE (N : Int) (es : List EdgeV) (e : EdgeV) : Option (List EdgeV) := if gB N es = true ∧ eB N e = true ∧ hasB es e = false then some (putE es e) else none
/-- TakeEdge -/
def takE (N : Int) (es : List EdgeV) (e : EdgeV) : Option (List EdgeV) := if gB N es = true ∧ hasB es e = true then some (outE es e) else none

theorem gB_chk {N : Int} {es : List EdgeV} (h : gB N es = true) : (1 ≤ N ∧ N ≤ 12) ∧ chk N es = true ∧ es.length ≤ 66 := by
  unfold gB at h
  simp only [Bool.and_eq_true, decide_eq_true_eq] at h
  exact ⟨h.1, h.2.1, h.2.2⟩
theorem putE_length (es : List EdgeV) (e : EdgeV) : (putE es e).length ≤ 2 * es.length + 1 := by
  unfold putE
  have h1 := List.length_filter_le (fun d => lt d e) es
  have h2 := List.length_filter_le (fun d => lt e d) es
  simp only [List.length_append, List.length_cons, List.length_nil]
  omega
theorem outE_length (es : List EdgeV) (e : EdgeV) : (outE es e).length ≤ es.length := List.length_filter_le _ _
end Go.Proofs.Ytkhhagjcmbbdpaa
namespace Go.Proofs.Ytkhhagjcmbbdpaa
open Go.ChangeShapes Go.WideShapes Go.ChangeAt Go.RowKit

theorem cellsLE : Try.prog.cellsOf 124 = 2 := by kernel_rfl
theorem cells3 : Try.prog.cellsOf 3 = 1 := by kernel_rfl

/-- an edge as the machine bears it -/
def FitE (f : EdgeV) : Prop := (Lit.int .i64 f.1).wf = true ∧ (Lit.int .i64 f.2).wf = true

theorem two {α : Type} {l : List α} (h : l.length = 2) : ∃ a b, l = [a, b] := by
  cases l with
  | nil => simp at h
  | cons a l =>
    cases l with
    | nil => simp at h
    | cons b l =>
      cases l with
      | nil => exact ⟨a, b, rfl⟩
      | cons c l => simp at h

theorem open_edge1 {H : Type} {enc : TypeId × Value → H} {W : World} {fuel : Nat} {cs : List Value} {y : DataW H × List MemPlace}
    (h : DataW.trod enc Try.prog W 0 (fun _ => true) true fuel 124 cs = some y) : ∃ f : EdgeV, cs = [.int .i64 f.1, .int .i64 f.2] ∧ FitE f := by
  obtain ⟨xs, n, _, _, hl, hlen, hf⟩ := DataW.trod_struct Try.underlying124 h
  rw [cellsLE] at hl
  obtain ⟨c0, c1, rfl⟩ := two hl
  have h0 : DataW.trod enc Try.prog W 0 (fun _ => true) true n 3 (([c0, c1].drop 0).take (Try.prog.cellsOf 3)) = xs[0]? := hf 0 _ rfl
  have h1 : DataW.trod enc Try.prog W 0 (fun _ => true) true n 3 (([c0, c1].drop 1).take (Try.prog.cellsOf 3)) = xs[1]? := hf 1 _ rfl
  rw [cells3] at h0 h1
  have g : ∀ i, i < 2 → ∃ z, xs[i]? = some z := fun i hi => ⟨xs[i]'(by simp at hlen; omega), List.getElem?_eq_getElem _⟩
  obtain ⟨z0, e0⟩ := g 0 (by omega)
  obtain ⟨z1, e1⟩ := g 1 (by omega)
  rw [e0] at h0
  rw [e1] at h1
  obtain ⟨k0, hk0, _, w0⟩ := DataW.trod_int Try.underlying3 h0
  obtain ⟨k1, hk1, _, w1⟩ := DataW.trod_int Try.underlying3 h1
  simp at hk0 hk1
  subst hk0 hk1
  exact ⟨⟨k0, k1⟩, rfl, w0, w1⟩

theorem open_edgeS {H : Type} {enc : TypeId × Value → H} {W : World} {a : Option Addr} {len cap fuel : Nat} {x : DataW H × List MemPlace}
    (h : DataW.trod enc Try.prog W 0 (fun _ => true) true fuel 47 [.slice a len cap] = some x) : len ≤ maxLen ∧ ∃ fs : List EdgeV, Es W W.heap.size a len fs ∧ ∀ f ∈ fs, FitE f := by
  rcases DataW.trod_slice Try.underlying47 h with ⟨hcs, _⟩ | ⟨ad, l, c, elems, rest, n, _, hcs, _, _, hlc, hm, hel, hei, _, _⟩
  · simp at hcs
    obtain ⟨rfl, rfl, rfl⟩ := hcs
    exact ⟨by unfold maxLen; omega, [], ⟨rfl, .inl rfl⟩, by simp⟩
  · simp at hcs
    obtain ⟨rfl, rfl, rfl⟩ := hcs
    refine ⟨by omega, ?_⟩
    have each : ∀ i, i < len → ∃ f : EdgeV, (W.cell? ((ad.add (i * 2)).add 0) = some (.int .i64 f.1) ∧ W.cell? ((ad.add (i * 2)).add 1) = some (.int .i64 f.2)) ∧ FitE f := by
      intro i hi
      have h1 := hei i hi
      obtain ⟨y, hy⟩ : ∃ y, elems[i]? = some y := ⟨elems[i]'(by omega), List.getElem?_eq_getElem _⟩
      rw [hy, Option.bind_eq_some_iff] at h1
      obtain ⟨cs', hc, ht⟩ := h1
      obtain ⟨f, rfl, hfit⟩ := open_edge1 ht
      rw [cellsLE] at hc
      have hcell := (World.cells?_some hc).2.2
      refine ⟨f, ⟨?_, ?_⟩, hfit⟩
      · simpa using hcell 0 (by omega)
      · simpa using hcell 1 (by omega)
    by_cases h0 : len = 0
    · subst h0
      exact ⟨[], ⟨rfl, .inl rfl⟩, by simp⟩
    · obtain ⟨f0, ⟨hc0, _⟩, _⟩ := each 0 (by omega)
      obtain ⟨b, off, spot⟩ := ad
      have hspot : spot = none := by simpa [Addr.add] using World.cell?_spot hc0
      subst hspot
      have hb : b < W.heap.size := by
        have := World.block_lt_of_cell? W _ hc0
        simpa [Addr.add] using this
      obtain ⟨F, hF⟩ := Classical.axiomOfChoice (fun i : Fin len => each i.1 i.2)
      refine ⟨List.ofFn F, ⟨by simp, .inr ⟨b, off, rfl, hb, fun j f hf => ?_⟩⟩, fun f hf => ?_⟩
      · obtain ⟨hj, rfl⟩ := List.getElem?_eq_some_iff.1 hf
        have hj' : j < len := by simpa using hj
        obtain ⟨⟨c0, c1⟩, _⟩ := hF ⟨j, hj'⟩
        rw [add_plain, add_plain] at c0 c1
        simp only [List.getElem_ofFn]
        exact ⟨c0, c1⟩
      · obtain ⟨i, rfl⟩ := List.mem_ofFn.1 hf
        exact (hF i).2

set_option maxRecDepth 100000 in
/-- an edge that comes in -/
theorem open_edge {H : Type} {enc : TypeId × Value → H} {W : World} {r : Reach} {base : Nat} {v : Value} {d : DataW H} {p : List MemPlace}
    (hv : Value.okWide Try.prog W r base 124 v) (h : DataW.Trod enc Try.prog W 0 (fun _ => true) true 124 v d p) :
    ∃ f : EdgeV, v = .agg #[.int .i64 f.1, .int .i64 f.2] ∧ FitE f := by
  obtain ⟨cs, rfl, hcs⟩ := okWide_struct Try.underlying124 hv
  obtain ⟨fuel, hf⟩ := h
  obtain ⟨f, hcs2, hft⟩ := open_edge1 hf
  refine ⟨f, ?_, hft⟩
  have : (Value.agg cs).cells.toList = [.int .i64 f.1, .int .i64 f.2] := hcs2
  obtain ⟨l⟩ := cs
  simp [Value.cells] at this
  rw [this]

end Go.Proofs.Ytkhhagjcmbbdpaa
namespace Go.Proofs.Ytkhhagjcmbbdpaa
open Go.RowKit

/-- nothing below has turned since w -/
def Good (w u : World) : Prop := Below w.heap.size w u
theorem Good.refl (w : World) : Good w w := Below.refl _ _
theorem Good.size {w u : World} (h : Good w u) : w.heap.size ≤ u.heap.size := Below.size h
theorem Good.up {w u v : World} (h : Good w u) (hb : Below u.heap.size u v) : Good w v := Below.trans h (hb.mono h.size)
theorem Good.alloc {w u : World} (h : Good w u) (o : Obj) : Good w (u.alloc o) := h.up ((Below.refl _ _).alloc (Nat.le_refl _) _)
theorem Good.drew {w u : World} (h : Good w u) : Good w u.drew := Below.drew h
theorem Good.es {w u : World} (h : Good w u) {a : Option Addr} {n : Nat} {fs : List EdgeV} (hf : Es w w.heap.size a n fs) : Es u u.heap.size a n fs := hf.up h
theorem Good.cell {w u : World} (h : Good w u) {b o : Nat} (hb : b < w.heap.size) : u.cell? ⟨b, o, none⟩ = w.cell? ⟨b, o, none⟩ := Below.cell h hb
end Go.Proofs.Ytkhhagjcmbbdpaa
namespace Go.Proofs.Ytkhhagjcmbbdpaa
open Go.RowKit

theorem grown_of_below {w w' : World} (h : Below w.heap.size w w') (row : Option Nat) : w.grownBy w' row :=
  ⟨h.os, h.tape, h.output, h.size, fun k hk _ => h.block k hk⟩
theorem grown_trans {a b c : World} {row : Option Nat} (h : a.grownBy b row) (k : b.grownBy c row) : a.grownBy c row :=
  ⟨k.os.trans h.os, k.tape.trans h.tape, k.output.trans h.output, Nat.le_trans h.size k.size, fun i hi hr => (k.block i (Nat.lt_of_lt_of_le hi h.size) hr).trans (h.block i hi hr)⟩

/-- n marked edges from k0 on -/
def marks (k0 n : Nat) : List EdgeV := (List.range n).map fun (t : Nat) => ((k0 : Int) + (t : Int) * 2, (k0 : Int) + (t : Int) * 2 + 1)
theorem marks_snoc (k0 n : Nat) : marks k0 (n + 1) = marks k0 n ++ [((k0 : Int) + (n : Int) * 2, (k0 : Int) + (n : Int) * 2 + 1)] := by simp [marks, List.range_succ]
theorem marks_length (k0 n : Nat) : (marks k0 n).length = n := by simp [marks]
theorem marks_at (k0 n j : Nat) (h : j < n) : (marks k0 n)[j]? = some ((k0 : Int) + (j : Int) * 2, (k0 : Int) + (j : Int) * 2 + 1) := by simp [marks, h]

theorem markEdgeS_zero (a : Option Addr) (c : Nat) (k0 : Int) (w : World) :
    Calls Try.prog 78 #[.slice a 0 c, .int .i64 k0] w fun e w' => e = .returned (.int .i64 k0) ∧ w' = w := by
  go_enter Try.func78, Try.ntmps78
  go_wp2
  refine wp_loop_rounds 1 ?_
  rw [rounds_succ]
  go_wp2
  go_ret
  exact ⟨rfl, rfl⟩

set_option maxRecDepth 100000 in
set_option maxHeartbeats 4000000 in
theorem markEdgeS_any (base g c n k0 : Nat) (fs : List EdgeV) (hn : n ≤ 1048576) (hk1 : k0 ≤ 10000000) (w : World)
    (h : w.ownsRow base 78 2 (.slice (some ⟨g, 0, none⟩) n c) n (ecells fs)) :
    Calls Try.prog 78 #[.slice (some ⟨g, 0, none⟩) n c, .int .i64 (k0 : Int)] w fun e w' => e = .returned (.int .i64 ((k0 : Int) + (n : Int) * 2)) ∧
      w'.ownsRow base 78 2 (.slice (some ⟨g, 0, none⟩) n c) n (ecells (marks k0 n)) ∧ w.grownBy w' (some g) := by
  have HO0 := hideIt h
  clear h
  go_enter Try.func78, Try.ntmps78
  go_wp2
  go_loopw [1, 5] (fun kk i wr => ∃ (j : Nat) (xs : List Value), j ≤ n ∧ i = .int .i64 (j : Int) ∧ kk = .int .i64 ((k0 : Int) + (j : Int) * 2) ∧ Hid (xs.take (j * 2) = ecells (marks k0 j)) ∧
      wr.ownsRow base 78 2 (.slice (some ⟨g, 0, none⟩) n c) n xs ∧ w.grownBy wr (some g)) (fun _ i _ => n - (intOf i).toNat)
  case atStart => exact ⟨0, _, by omega, rfl, by simp, by show _ = _; simp [ecells, marks], HO0.out, ⟨rfl, rfl, rfl, Nat.le_refl _, fun _ _ _ => rfl⟩⟩
  case round =>
    obtain ⟨j, xs, hj, rfl, rfl, hx, hown, hgr⟩ := hrel
    clear HO0
    have hl3 : xs.length = n * 2 := hown.1
    by_cases hlt : j < n
    · have b1 : (0 : Int) ≤ (j : Int) := by omega
      have b2 : (j : Int) < (n : Int) := by omega
      obtain ⟨y0, c0⟩ : ∃ y, wr.cell? ⟨g, j * 2, none⟩ = some y := ⟨_, by rw [hown.cellAt (j * 2) (by omega)]; exact List.getElem?_eq_getElem (by omega)⟩
      obtain ⟨y1, c1⟩ : ∃ y, wr.cell? ⟨g, j * 2 + 1, none⟩ = some y := ⟨_, by rw [hown.cellAt (j * 2 + 1) (by omega)]; exact List.getElem?_eq_getElem (by omega)⟩
      have f0 := hown.frozenAt (j * 2)
      have f1 := hown.frozenAt (j * 2 + 1)
      have hst1 := hown.stored (j * 2) (.int .i64 ((k0 : Int) + (j : Int) * 2))
      have hst2 := hst1.1.stored (j * 2 + 1) (.int .i64 ((k0 : Int) + (j : Int) * 2 + 1))
      have HO2 := hideIt hst2.1
      have HG2 := hideIt (grown_trans (grown_trans hgr hst1.2) hst2.2)
      have HX : Hid (((xs.set (j * 2) (.int .i64 ((k0 : Int) + (j : Int) * 2))).set (j * 2 + 1) (.int .i64 ((k0 : Int) + (j : Int) * 2 + 1))).take ((j + 1) * 2) = ecells (marks k0 (j + 1))) := by
        show _ = _
        rw [show (j + 1) * 2 = j * 2 + 2 by omega, take_set2 _ _ _ _ (by omega), hx.out, marks_snoc, ecells_snoc]
      clear hst1 hst2 hx hown hgr
      go_wp2
      exact ⟨⟨j + 1, _, by omega, by go_num, by go_num, HX, HO2.out, HG2.out⟩, by simp [intOf]; omega⟩
    · obtain rfl : j = n := by omega
      have HX : Hid (xs = ecells (marks k0 j)) := by
        show _ = _
        have := hx.out
        rw [List.take_of_length_le (by omega)] at this
        exact this
      have HO := hideIt hown
      clear hx hown
      go_wp2
      go_ret
      exact ⟨rfl, by rw [← HX.out]; exact HO.out, hgr⟩

set_option maxRecDepth 100000 in
set_option maxHeartbeats 4000000 in
theorem heldEdgeS_any (n k0 : Nat) (a : Option Addr) (c : Nat) (hn : n ≤ 1048576) (hk1 : k0 ≤ 10000000) (w : World) (h : Es w w.heap.size a n (marks k0 n)) :
    Calls Try.prog 79 #[.slice a n c, .int .i64 (k0 : Int)] w fun e w' => e = .returned (.int .i64 ((k0 : Int) + (n : Int) * 2)) ∧ w' = w := by
  obtain ⟨_, hrow⟩ := h
  have HR := hideIt hrow
  clear hrow
  go_enter Try.func79, Try.ntmps79
  go_wp2
  go_loopw [1, 5] (fun kk i wr => ∃ j : Nat, j ≤ n ∧ i = .int .i64 (j : Int) ∧ kk = .int .i64 ((k0 : Int) + (j : Int) * 2) ∧ wr = w) (fun _ i _ => n - (intOf i).toNat)
  case atStart => exact ⟨0, by omega, rfl, by simp, rfl⟩
  case round =>
    obtain ⟨j, hj, rfl, rfl, hw⟩ := hrel
    have hw' := hw.symm
    subst hw'
    clear hw
    by_cases hlt : j < n
    · rcases HR.out with hz | ⟨b, off, rfl, hbl, hc⟩
      · omega
      · obtain ⟨c0, c1⟩ := hc j _ (marks_at k0 n j hlt)
        dsimp only at c0 c1
        have b1 : (0 : Int) ≤ (j : Int) := by omega
        have b2 : (j : Int) < (n : Int) := by omega
        clear hc
        go_wp2
        exact ⟨⟨j + 1, by omega, by go_num, by go_num, by first | trivial | rfl⟩, by simp [intOf]; omega⟩
    · obtain rfl : j = n := by omega
      go_wp2
      go_ret
      exact ⟨rfl, rfl⟩

end Go.Proofs.Ytkhhagjcmbbdpaa
namespace Go.Proofs.Ytkhhagjcmbbdpaa.Vt

def vtF : Nat → Nat → List UInt8
  | 0, n => [UInt8.ofNat n]
  | f + 1, n => if n < 128 then [UInt8.ofNat n] else UInt8.ofNat (n % 128 + 128) :: vtF f (n / 128)

def vt (n : Nat) : List UInt8 := vtF n n

theorem vtF_any (f : Nat) : ∀ (g n : Nat), n ≤ f → n ≤ g → vtF f n = vtF g n := by
  induction f with
  | zero =>
    intro g n hf hg
    have : n = 0 := by omega
    subst this
    cases g with
    | zero => rfl
    | succ g => simp [vtF]
  | succ f ih =>
    intro g n hf hg
    cases g with
    | zero =>
      have : n = 0 := by omega
      subst this
      simp [vtF]
    | succ g =>
      simp only [vtF]
      by_cases h : n < 128
      · rw [if_pos h, if_pos h]
      · rw [if_neg h, if_neg h, ih g (n / 128) (by omega) (by omega)]

theorem vt_small (n : Nat) (h : n < 128) : vt n = [UInt8.ofNat n] := by
  unfold vt
  cases n with
  | zero => rfl
  | succ n => simp only [vtF]; rw [if_pos h]

theorem vt_big (n : Nat) (h : ¬ n < 128) : vt n = UInt8.ofNat (n % 128 + 128) :: vt (n / 128) := by
  unfold vt
  cases n with
  | zero => omega
  | succ n =>
    simp only [vtF]
    rw [if_neg h, vtF_any n ((n + 1) / 128) ((n + 1) / 128) (by omega) (by omega)]

theorem vt_length (f : Nat) : ∀ n, n ≤ f → (vt n).length ≤ n + 1 := by
  induction f with
  | zero => intro n h; rw [vt_small n (by omega)]; simp
  | succ f ih =>
    intro n h
    by_cases h1 : n < 128
    · rw [vt_small n h1]; simp
    · rw [vt_big n h1]
      have := ih (n / 128) (by omega)
      simp only [List.length_cons]
      omega

theorem vt_pos (n : Nat) : 0 < (vt n).length := by
  by_cases h : n < 128
  · rw [vt_small n h]; simp
  · rw [vt_big n h]; simp

end Go.Proofs.Ytkhhagjcmbbdpaa.Vt
namespace Go.Proofs.Ytkhhagjcmbbdpaa.Vt

def big (c : UInt8) : Bool := decide (128 ≤ c.toNat)

def val : List UInt8 → Nat
  | [] => 0
  | c :: r => c.toNat % 128 + 128 * val r

theorem val_snoc (p : List UInt8) (c : UInt8) : val (p ++ [c]) = val p + c.toNat % 128 * 128 ^ p.length := by
  induction p with
  | nil => simp [val]
  | cons b p ih =>
    simp only [List.cons_append, val, ih, List.length_cons, Nat.pow_succ]
    rw [Nat.mul_add, Nat.add_assoc]
    congr 2
    rw [Nat.mul_comm 128, Nat.mul_assoc]

theorem val_lt (p : List UInt8) : val p < 128 ^ p.length := by
  induction p with
  | nil => simp [val]
  | cons b p ih =>
    simp only [val, List.length_cons, Nat.pow_succ]
    omega

/-- the number that stands at the head of L, and the place behind it -/
def rv (a : Nat) (L : List UInt8) : Option (Nat × Nat) :=
  match L.dropWhile big with
  | [] => none
  | c :: _ =>
    if (L.takeWhile big).length < 5 ∧ ¬ (c.toNat = 0 ∧ 0 < (L.takeWhile big).length) ∧ val (L.takeWhile big ++ [c]) ≤ 1000000000 then some (val (L.takeWhile big ++ [c]), a + (L.takeWhile big).length + 1) else none

theorem split_at (p : List UInt8) (hp : ∀ b ∈ p, big b = true) (c : UInt8) (hc : big c = false) (r : List UInt8) :
    (p ++ c :: r).takeWhile big = p ∧ (p ++ c :: r).dropWhile big = c :: r := by
  induction p with
  | nil => simp [hc]
  | cons b p ih =>
    have hb := hp b (by simp)
    have := ih (fun x hx => hp x (by simp [hx]))
    simp [hb, this.1, this.2]

theorem rv_at (a : Nat) (p : List UInt8) (hp : ∀ b ∈ p, big b = true) (c : UInt8) (hc : big c = false) (r : List UInt8) :
    rv a (p ++ c :: r) = if p.length < 5 ∧ ¬ (c.toNat = 0 ∧ 0 < p.length) ∧ val (p ++ [c]) ≤ 1000000000 then some (val (p ++ [c]), a + p.length + 1) else none := by
  have h := split_at p hp c hc r
  unfold rv
  rw [h.1, h.2]

theorem rv_all (a : Nat) (p : List UInt8) (hp : ∀ b ∈ p, big b = true) : rv a p = none := by
  have : p.dropWhile big = [] := by
    induction p with
    | nil => rfl
    | cons b p ih =>
      rw [List.dropWhile_cons_of_pos (hp b (by simp))]
      exact ih (fun x hx => hp x (by simp [hx]))
  unfold rv
  rw [this]

theorem rv_five (a : Nat) (p r : List UInt8) (hp : ∀ b ∈ p, big b = true) (h5 : 5 ≤ p.length) : rv a (p ++ r) = none := by
  induction r generalizing p with
  | nil => rw [List.append_nil]; exact rv_all a p hp
  | cons c r ih =>
    by_cases hc : big c = true
    · have := ih (p ++ [c]) (by intro b hb; rcases List.mem_append.1 hb with h | h; exact hp b h; simp at h; subst h; exact hc) (by simp; omega)
      simpa using this
    · rw [rv_at a p hp c (by simpa using hc) r, if_neg (by omega)]

theorem rv_some {a : Nat} {L : List UInt8} {n j : Nat} (h : rv a L = some (n, j)) : n ≤ 1000000000 ∧ a < j ∧ j ≤ a + L.length := by
  unfold rv at h
  split at h
  · cases h
  · rename_i c r hd
    split at h
    · rename_i hc
      simp only [Option.some.injEq, Prod.mk.injEq] at h
      obtain ⟨rfl, rfl⟩ := h
      have e : L.takeWhile big ++ L.dropWhile big = L := List.takeWhile_append_dropWhile
      have hl : (L.takeWhile big).length + (L.dropWhile big).length = L.length := by rw [← List.length_append, e]
      rw [hd] at hl
      simp at hl
      omega
    · cases h

/-- the shortest form of a number is just what is read, where its last byte is no needless nought -/
theorem vt_val (p : List UInt8) (hp : ∀ b ∈ p, big b = true) (c : UInt8) (hc : big c = false) :
    vt (val (p ++ [c])) = p ++ [c] ↔ ¬ (c.toNat = 0 ∧ 0 < p.length) := by
  have hc' : c.toNat < 128 := by simpa [big] using hc
  induction p with
  | nil =>
    simp only [List.nil_append, val, List.length_nil, Nat.lt_irrefl, and_false, not_false_eq_true, iff_true]
    rw [vt_small _ (by omega)]
    congr 1
    apply UInt8.toNat_inj.1
    simp
    omega
  | cons b p ih =>
    have hb : 128 ≤ b.toNat := by simpa [big] using hp b (by simp)
    have hb2 := UInt8.toNat_lt b
    have ih := ih (fun x hx => hp x (by simp [hx]))
    have hbb : UInt8.ofNat (b.toNat % 128 + 128) = b := by
      apply UInt8.toNat_inj.1
      simp
      omega
    simp only [List.cons_append, val, List.length_cons]
    have hv : c.toNat ≠ 0 → 0 < val (p ++ [c]) := by
      intro h
      rw [val_snoc]
      have : 0 < 128 ^ p.length := Nat.pow_pos (by omega)
      have : 0 < c.toNat % 128 * 128 ^ p.length := Nat.mul_pos (by omega) this
      omega
    by_cases h0 : val (p ++ [c]) = 0
    · have hz : c.toNat = 0 := by
        by_cases h : c.toNat = 0
        · exact h
        · have := hv h; omega
      rw [h0, vt_small _ (by omega)]
      constructor
      · intro h
        have := congrArg List.length h
        simp at this
      · intro h
        exact absurd ⟨hz, by omega⟩ h
    · rw [vt_big _ (by omega)]
      have e1 : (b.toNat % 128 + 128 * val (p ++ [c])) % 128 = b.toNat % 128 := by omega
      have e2 : (b.toNat % 128 + 128 * val (p ++ [c])) / 128 = val (p ++ [c]) := by omega
      rw [e1, e2, hbb]
      simp only [List.cons.injEq, true_and]
      refine Iff.trans ih ?_
      constructor
      · intro h h2
        by_cases hp0 : 0 < p.length
        · exact h ⟨h2.1, hp0⟩
        · have : p = [] := List.length_eq_zero_iff.1 (by omega)
          subst this
          simp [val] at h0
          omega
      · intro h h2
        exact h ⟨h2.1, by omega⟩

end Go.Proofs.Ytkhhagjcmbbdpaa.Vt
