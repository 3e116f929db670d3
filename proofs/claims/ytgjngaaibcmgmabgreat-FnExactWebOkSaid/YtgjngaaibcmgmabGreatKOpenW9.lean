/- The walk of FnExactWebOk. A web that comes in. -/
import Derived.Test.YtgjngaaibcmgmabGreatKBx7
import Derived.Test.YtgjngaaibcmgmabGreatKSWo9
import Derived.WalkKit
import Derived.ProofKit
import Derived.OpenShut
import Derived.ChangeOld
import Derived.ChangeArms
import Derived.Below
import Derived.ChangeSlices
namespace Go.Proofs.YtgjngaaibcmgmabGreat
open Go.RowKit

set_option maxRecDepth 100000 in
set_option maxHeartbeats 4000000 in
theorem fnExactWebOk.walk (N : Int) (_hN : (Lit.int .i64 N).wf = true) (ls : List Ld) (n : Nat) (a : Option Addr) (c : Nat) (hn : n ≤ maxLen) (w : World) (h : Ls w w.heap.size a n ls) :
    Calls Tryz.prog 3 #[.agg #[.int .i64 N, .slice a n c]] w fun e w' => e = .returned (.bool true) ∧ Below w.heap.size w w' := by
  have b0 : Good w (w.alloc (.cells #[.int .i64 N, .slice a n c] 24)) := (Good.refl w).alloc _
  have HS := hideIt (szWeb_any N n a c hn (w.alloc (.cells #[.int .i64 N, .slice a n c] 24)))
  have HB0 := hideIt b0
  have HA := hideIt (h.up b0)
  have HC0 : Hid (∀ u, Good (w.alloc (.cells #[.int .i64 N, .slice a n c] 24)) u → u.cell? ⟨w.heap.size, 0, none⟩ = some (.int .i64 N) ∧ u.cell? ⟨w.heap.size, 1, none⟩ = some (.slice a n c)) := fun u hu => ⟨by rw [hu.cell (by simp)]; simp, by rw [hu.cell (by simp)]; simp⟩
  clear h b0
  by_cases g1 : n ≤ 1048576
  · have d1 : decide (szw n < 0) = false := decide_eq_false (by unfold szw; rw [if_pos g1]; omega)
    have HT := hideIt (fun u (hu : Good (w.alloc (.cells #[.int .i64 N, .slice a n c] 24)) u) => toWeb_any N ls n a c g1 u (HA.out.up hu))
    obtain ⟨r, HRs, HRi⟩ : ∃ r : Bool, Hid (∀ u g, Good (w.alloc (.cells #[.int .i64 N, .slice a n c] 24)) u → Ls u u.heap.size (some ⟨g, 0, none⟩) n ls → Calls Tryz.prog 9 #[.agg #[.int .i64 N, .slice (some ⟨g, 0, none⟩) n n]] u fun e v => e = .returned (.bool r) ∧ Good u v) ∧ Hid (∀ u g, Good (w.alloc (.cells #[.int .i64 N, .slice a n c] 24)) u → Ls u u.heap.size (some ⟨g, 0, none⟩) n ls → Calls Tryz.prog 11 #[.agg #[.int .i64 N, .slice (some ⟨g, 0, none⟩) n n]] u fun e v => e = .returned (.bool r) ∧ Good u v) :=
      ⟨wB N ls, fun u g _ hT => sWebOk_any N ls n _ n g1 u hT, fun u g _ hT => iWebOk_any N ls n _ n g1 u hT⟩
    have dr : (r != r) = false := by simp
    generalize szw n = z at *
    go_enter Tryz.func3, Tryz.ntmps3
    go_wp2_with (go_at_call 8; refine HS.out.mono ?_; rintro e w2 ⟨rfl, hg2⟩; refine Hid.out ?_)
    refine (show ∀ {p : Prop}, p → Hid p from fun h => h) ?_
    have G2 : Good (w.alloc (.cells #[.int .i64 N, .slice a n c] 24)) w2 := hg2
    obtain ⟨k0, k1⟩ := HC0.out w2 G2
    have HT2 := hideIt (HT.out w2 G2)
    clear HS hg2
    go_wp2_with (go_at_call 10; refine HT2.out.mono ?_; rintro e w3 ⟨g3, rfl, F3, hb3⟩; refine Hid.out ?_)
    refine (show ∀ {p : Prop}, p → Hid p from fun h => h) ?_
    have G3 := G2.up hb3
    have HS3 := hideIt (HRs.out w3 g3 G3 (Ls_of_own F3))
    clear HT2 F3 hb3 k0 k1 G2
    go_wp2_with (go_at_call 9; refine HS3.out.mono ?_; rintro e w4 ⟨rfl, hg4⟩; refine Hid.out ?_)
    refine (show ∀ {p : Prop}, p → Hid p from fun h => h) ?_
    have G4 := G3.up hg4
    obtain ⟨k0, k1⟩ := HC0.out w4 G4
    have HT4 := hideIt (HT.out w4 G4)
    clear HS3 hg4 G3
    go_wp2_with (go_at_call 10; refine HT4.out.mono ?_; rintro e w5 ⟨g5, rfl, F5, hb5⟩; refine Hid.out ?_)
    refine (show ∀ {p : Prop}, p → Hid p from fun h => h) ?_
    have G5 := G4.up hb5
    have HX5 := hideIt (Ls_of_own F5)
    have bx : Good w5 (w5.alloc (.cells #[.int .i64 N, .slice (some ⟨g5, 0, none⟩) n n] 29)) := (Good.refl w5).alloc _
    have HI5 := hideIt (HRi.out _ g5 (G5.up bx) (HX5.out.up bx))
    have HB5 := hideIt bx
    clear HT4 F5 hb5 k0 k1 G4 bx
    go_wp2_with (go_at_call 11; refine HI5.out.mono ?_; rintro e w6 ⟨rfl, hg6⟩; refine Hid.out ?_)
    refine (show ∀ {p : Prop}, p → Hid p from fun h => h) ?_
    have G6 := hideIt (G5.up (HB5.out.up hg6))
    have X6 := hideIt (HX5.out.up (HB5.out.up hg6))
    have HC6 : Hid (∀ u, Good w6 u → (u.cell? ⟨w5.heap.size, 0, none⟩ = some (.int .i64 N) ∧ u.cell? ⟨w5.heap.size, 1, none⟩ = some (.slice (some ⟨g5, 0, none⟩) n n)) ∧ u.cell? ⟨w.heap.size, 0, none⟩ = some (.int .i64 N) ∧ u.cell? ⟨w.heap.size, 1, none⟩ = some (.slice a n c)) := fun u hu =>
      ⟨⟨by rw [Good.cell (Good.up hg6 hu) (by simp)]; simp, by rw [Good.cell (Good.up hg6 hu) (by simp)]; simp⟩, HC0.out u (G6.out.up hu)⟩
    have HT6 := hideIt (fun u (hu : Good w6 u) => (HT.out u (G6.out.up hu)).mono fun e v ⟨g7, he, F7, hb7⟩ => (show ∃ g, e = Ending.returned (.agg #[.int .i64 N, .slice (some ⟨g, 0, none⟩) n n]) ∧ Ls v v.heap.size (some ⟨g, 0, none⟩) n ls ∧ Good w6 v from ⟨g7, he, Ls_of_own F7, hu.up hb7⟩))
    have HE6 := hideIt (fun u g' (hu : Good w6 u) (hT : Ls u u.heap.size (some ⟨g', 0, none⟩) n ls) => (eqWeb_same N ls n _ _ n n g1 u (X6.out.up hu) hT).mono fun e v ⟨he, hb⟩ => (show e = Ending.returned (.bool true) ∧ Good w6 v from ⟨he, hu.up hb⟩))
    have S6 := (Good.refl w6).drew
    have hS6 := HC6.out _ S6
    clear HI5 hg6 G5 HB5 HX5
    go_wp2
    go_region_held3 (fun u => (u.cell? ⟨w5.heap.size, 0, none⟩ = some (.int .i64 N) ∧ u.cell? ⟨w5.heap.size, 1, none⟩ = some (.slice (some ⟨g5, 0, none⟩) n n)) ∧ u.cell? ⟨w.heap.size, 0, none⟩ = some (.int .i64 N) ∧ u.cell? ⟨w.heap.size, 1, none⟩ = some (.slice a n c))
      (first | assumption)
      (first
      | (go_at_call 10; refine (HT6.out _ S6).mono ?_; rintro e w7 ⟨g7, rfl, f7, S7⟩; have hS7 := HC6.out _ S7)
      | (go_at_call 12; refine (HE6.out _ g7 S7 f7).mono ?_; rintro e w8 ⟨rfl, S8⟩; have hS8 := HC6.out _ S8))
    go_wp2
    go_ret
    exact ⟨rfl, HB0.out.up (G6.out.up S8)⟩
  · have HV : Hid (szw n = -1) := by show _ = _; unfold szw; rw [if_neg g1]
    have d1 : decide (szw n < 0) = true := decide_eq_true (by have := HV.out; omega)
    generalize szw n = z at *
    go_enter Tryz.func3, Tryz.ntmps3
    go_wp2_with (go_at_call 8; refine HS.out.mono ?_; rintro e w2 ⟨rfl, hg2⟩)
    go_ret
    exact ⟨rfl, HB0.out.up hg2⟩
end Go.Proofs.YtgjngaaibcmgmabGreat
namespace Go.Proofs.YtgjngaaibcmgmabGreat
open Go.RowKit Go.ChangeShapes Go.WideShapes Go.ChangeAt

theorem two7 {α : Type} {l : List α} (h : l.length = 2) : ∃ a b, l = [a, b] := by
  match l, h with
  | [a, b], _ => exact ⟨a, b, rfl⟩
theorem four9 {α : Type} {l : List α} (h : l.length = 4) : ∃ a b c d, l = [a, b, c, d] := by
  match l, h with
  | [a, b, c, d], _ => exact ⟨a, b, c, d, rfl⟩
theorem open_ledge1 {H : Type} {enc : TypeId × Value → H} {W : World} {fuel : Nat} {cs : List Value} {y : DataW H × List MemPlace}
    (h : DataW.trod enc Tryz.prog W 0 (fun _ => true) true fuel 89 cs = some y) : ∃ x : Ld, cs = [.int .i64 x.a, .int .i64 x.b, .int .i64 x.l, .bool x.t] := by
  obtain ⟨xs, n, _, _, hl, hlen, hf⟩ := DataW.trod_struct Tryz.underlying89 h
  rw [show Tryz.prog.cellsOf 89 = 4 by kernel_rfl] at hl
  obtain ⟨c0, c1, c2, c3, rfl⟩ := four9 hl
  have h0 : DataW.trod enc Tryz.prog W 0 (fun _ => true) true n 3 (([c0, c1, c2, c3].drop 0).take (Tryz.prog.cellsOf 3)) = xs[0]? := hf 0 _ rfl
  have h1 : DataW.trod enc Tryz.prog W 0 (fun _ => true) true n 3 (([c0, c1, c2, c3].drop 1).take (Tryz.prog.cellsOf 3)) = xs[1]? := hf 1 _ rfl
  have h2 : DataW.trod enc Tryz.prog W 0 (fun _ => true) true n 3 (([c0, c1, c2, c3].drop 2).take (Tryz.prog.cellsOf 3)) = xs[2]? := hf 2 _ rfl
  have h3 : DataW.trod enc Tryz.prog W 0 (fun _ => true) true n 4 (([c0, c1, c2, c3].drop 3).take (Tryz.prog.cellsOf 4)) = xs[3]? := hf 3 _ rfl
  rw [show Tryz.prog.cellsOf 3 = 1 by kernel_rfl] at h0 h1 h2
  rw [show Tryz.prog.cellsOf 4 = 1 by kernel_rfl] at h3
  have g : ∀ i, i < 4 → ∃ z, xs[i]? = some z := fun i hi => ⟨xs[i]'(by simp at hlen; omega), List.getElem?_eq_getElem _⟩
  obtain ⟨z0, e0⟩ := g 0 (by omega)
  obtain ⟨z1, e1⟩ := g 1 (by omega)
  obtain ⟨z2, e2⟩ := g 2 (by omega)
  obtain ⟨z3, e3⟩ := g 3 (by omega)
  rw [e0] at h0
  rw [e1] at h1
  rw [e2] at h2
  rw [e3] at h3
  obtain ⟨k0, hk0, _⟩ := DataW.trod_int Tryz.underlying3 h0
  obtain ⟨k1, hk1, _⟩ := DataW.trod_int Tryz.underlying3 h1
  obtain ⟨k2, hk2, _⟩ := DataW.trod_int Tryz.underlying3 h2
  obtain ⟨k3, hk3, _⟩ := DataW.trod_bool Tryz.underlying4 h3
  simp at hk0 hk1 hk2 hk3
  subst hk0 hk1 hk2 hk3
  exact ⟨⟨k0, k1, k2, k3⟩, rfl⟩
theorem open_ledgeS {H : Type} {enc : TypeId × Value → H} {W : World} {a : Option Addr} {len cap fuel : Nat} {x : DataW H × List MemPlace}
    (h : DataW.trod enc Tryz.prog W 0 (fun _ => true) true fuel 22 [.slice a len cap] = some x) : len ≤ maxLen ∧ ∃ ls : List Ld, Ls W W.heap.size a len ls := by
  rcases DataW.trod_slice Tryz.underlying22 h with ⟨hcs, _⟩ | ⟨ad, l, c, elems, rest, n, _, hcs, _, _, hlc, hm, hel, hei, _, _⟩
  · simp at hcs
    obtain ⟨rfl, rfl, rfl⟩ := hcs
    exact ⟨by unfold maxLen; omega, [], ⟨rfl, .inl rfl⟩⟩
  · simp at hcs
    obtain ⟨rfl, rfl, rfl⟩ := hcs
    refine ⟨by omega, ?_⟩
    have each : ∀ i, i < len → ∃ x : Ld, W.cell? ((ad.add (i * 4)).add 0) = some (.int .i64 x.a) ∧ W.cell? ((ad.add (i * 4)).add 1) = some (.int .i64 x.b) ∧ W.cell? ((ad.add (i * 4)).add 2) = some (.int .i64 x.l) ∧ W.cell? ((ad.add (i * 4)).add 3) = some (.bool x.t) := by
      intro i hi
      have h1 := hei i hi
      obtain ⟨y, hy⟩ : ∃ y, elems[i]? = some y := ⟨elems[i]'(by omega), List.getElem?_eq_getElem _⟩
      rw [hy, Option.bind_eq_some_iff] at h1
      obtain ⟨cs', hc, ht⟩ := h1
      obtain ⟨x, rfl⟩ := open_ledge1 ht
      rw [show Tryz.prog.cellsOf 89 = 4 by kernel_rfl] at hc
      have hcell := (World.cells?_some hc).2.2
      exact ⟨x, by simpa using hcell 0 (by omega), by simpa using hcell 1 (by omega), by simpa using hcell 2 (by omega), by simpa using hcell 3 (by omega)⟩
    by_cases h0 : len = 0
    · subst h0
      exact ⟨[], ⟨rfl, .inl rfl⟩⟩
    · obtain ⟨f0, hc0, _⟩ := each 0 (by omega)
      obtain ⟨b, off, spot⟩ := ad
      have hspot : spot = none := by simpa [Addr.add] using World.cell?_spot hc0
      subst hspot
      have hb : b < W.heap.size := by
        have := World.block_lt_of_cell? W _ hc0
        simpa [Addr.add] using this
      obtain ⟨F, hF⟩ := Classical.axiomOfChoice (fun i : Fin len => each i.1 i.2)
      refine ⟨List.ofFn F, ⟨by simp, .inr ⟨b, off, rfl, hb, fun j f hf => ?_⟩⟩⟩
      obtain ⟨hj, rfl⟩ := List.getElem?_eq_some_iff.1 hf
      have hj' : j < len := by simpa using hj
      obtain ⟨c0, c1, c2, c3⟩ := hF ⟨j, hj'⟩
      rw [add_plain, add_plain] at c0 c1 c2 c3
      simp only [List.getElem_ofFn]
      exact ⟨c0, c1, c2, c3⟩
set_option maxRecDepth 100000 in
/-- a web that comes in -/
theorem open_web {H : Type} {enc : TypeId × Value → H} {W : World} {r : Reach} {base : Nat} {v : Value} {d : DataW H} {p : List MemPlace}
    (hv : Value.okWide Tryz.prog W r base 24 v) (h : DataW.Trod enc Tryz.prog W 0 (fun _ => true) true 24 v d p) :
    ∃ (N : Int) (a : Option Addr) (n c : Nat) (ls : List Ld), v = .agg #[.int .i64 N, .slice a n c] ∧ (Lit.int .i64 N).wf = true ∧ n ≤ maxLen ∧ Ls W W.heap.size a n ls := by
  obtain ⟨cs, rfl, hcs⟩ := okWide_struct Tryz.underlying24 hv
  obtain ⟨fuel, hf⟩ := h
  obtain ⟨xs, n, _, _, hl, hlen, hfi⟩ := DataW.trod_struct Tryz.underlying24 hf
  rw [show Tryz.prog.cellsOf 24 = 2 by kernel_rfl] at hcs hl
  obtain ⟨l⟩ := cs
  obtain ⟨c0, c1, rfl⟩ := two7 (by simpa using hcs : l.length = 2)
  have ec : (Value.agg (List.toArray [c0, c1])).cells.toList = [c0, c1] := by simp [Value.cells]
  rw [ec] at hfi
  have h0 : DataW.trod enc Tryz.prog W 0 (fun _ => true) true n 3 (([c0, c1].drop 0).take (Tryz.prog.cellsOf 3)) = xs[0]? := hfi 0 _ rfl
  have h1 : DataW.trod enc Tryz.prog W 0 (fun _ => true) true n 22 (([c0, c1].drop 1).take (Tryz.prog.cellsOf 22)) = xs[1]? := hfi 1 _ rfl
  rw [show Tryz.prog.cellsOf 3 = 1 by kernel_rfl] at h0
  rw [show Tryz.prog.cellsOf 22 = 1 by kernel_rfl] at h1
  have g : ∀ i, i < 2 → ∃ z, xs[i]? = some z := fun i hi => ⟨xs[i]'(by simp at hlen; omega), List.getElem?_eq_getElem _⟩
  obtain ⟨z0, e0⟩ := g 0 (by omega)
  obtain ⟨z1, e1⟩ := g 1 (by omega)
  rw [e0] at h0
  rw [e1] at h1
  obtain ⟨k0, hk0, _, w0⟩ := DataW.trod_int Tryz.underlying3 h0
  simp at hk0
  subst hk0
  have h1' : DataW.trod enc Tryz.prog W 0 (fun _ => true) true n 22 [c1] = some z1 := by simpa using h1
  rcases DataW.trod_slice Tryz.underlying22 h1' with ⟨hx, _⟩ | ⟨ad, l, c, _, _, _, _, hx, _⟩
  · simp at hx
    subst hx
    obtain ⟨q1, fs, q2⟩ := open_ledgeS h1'
    exact ⟨k0, _, _, _, fs, rfl, w0, q1, q2⟩
  · simp at hx
    subst hx
    obtain ⟨q1, fs, q2⟩ := open_ledgeS h1'
    exact ⟨k0, _, _, _, fs, rfl, w0, q1, q2⟩
theorem open_edge1 {H : Type} {enc : TypeId × Value → H} {W : World} {fuel : Nat} {cs : List Value} {y : DataW H × List MemPlace}
    (h : DataW.trod enc Tryz.prog W 0 (fun _ => true) true fuel 34 cs = some y) : ∃ f : Int × Int, cs = [.int .i64 f.1, .int .i64 f.2] ∧ ((Lit.int .i64 f.1).wf = true ∧ (Lit.int .i64 f.2).wf = true) := by
  obtain ⟨xs, n, _, _, hl, hlen, hf⟩ := DataW.trod_struct Tryz.underlying34 h
  rw [show Tryz.prog.cellsOf 34 = 2 by kernel_rfl] at hl
  obtain ⟨c0, c1, rfl⟩ := two7 hl
  have h0 : DataW.trod enc Tryz.prog W 0 (fun _ => true) true n 3 (([c0, c1].drop 0).take (Tryz.prog.cellsOf 3)) = xs[0]? := hf 0 _ rfl
  have h1 : DataW.trod enc Tryz.prog W 0 (fun _ => true) true n 3 (([c0, c1].drop 1).take (Tryz.prog.cellsOf 3)) = xs[1]? := hf 1 _ rfl
  rw [show Tryz.prog.cellsOf 3 = 1 by kernel_rfl] at h0 h1
  have g : ∀ i, i < 2 → ∃ z, xs[i]? = some z := fun i hi => ⟨xs[i]'(by simp at hlen; omega), List.getElem?_eq_getElem _⟩
  obtain ⟨z0, e0⟩ := g 0 (by omega)
  obtain ⟨z1, e1⟩ := g 1 (by omega)
  rw [e0] at h0
  rw [e1] at h1
  obtain ⟨k0, hk0, _, w0⟩ := DataW.trod_int Tryz.underlying3 h0
  obtain ⟨k1, hk1, _, w1⟩ := DataW.trod_int Tryz.underlying3 h1
  simp at hk0 hk1
  subst hk0 hk1
  exact ⟨⟨k0, k1⟩, rfl, w0, w1⟩
set_option maxRecDepth 100000 in
/-- an edge that comes in -/
theorem open_edge {H : Type} {enc : TypeId × Value → H} {W : World} {r : Reach} {base : Nat} {v : Value} {d : DataW H} {p : List MemPlace}
    (hv : Value.okWide Tryz.prog W r base 34 v) (h : DataW.Trod enc Tryz.prog W 0 (fun _ => true) true 34 v d p) :
    ∃ f : Int × Int, v = .agg #[.int .i64 f.1, .int .i64 f.2] ∧ ((Lit.int .i64 f.1).wf = true ∧ (Lit.int .i64 f.2).wf = true) := by
  obtain ⟨cs, rfl, hcs⟩ := okWide_struct Tryz.underlying34 hv
  obtain ⟨fuel, hf⟩ := h
  obtain ⟨f, hcs2, hft⟩ := open_edge1 hf
  refine ⟨f, ?_, hft⟩
  have : (Value.agg cs).cells.toList = [.int .i64 f.1, .int .i64 f.2] := hcs2
  obtain ⟨l⟩ := cs
  simp [Value.cells] at this
  rw [this]
end Go.Proofs.YtgjngaaibcmgmabGreat
