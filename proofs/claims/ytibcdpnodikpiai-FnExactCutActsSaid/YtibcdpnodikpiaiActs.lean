/- What the laws' own functions over acts answer. -/
import Derived.Test.YtibcdpnodikpiaiSAct7
import Derived.Test.YtibcdpnodikpiaiOpenFiles
namespace Go.Proofs.Ytibcdpnodikpiai
open Go.RowKit

/-- what is left of a measure behind an act -/
def szA (left : Int) (x : ActV) : Int := if (x.name.size : Int) + x.text.size + x.to.size ≤ left then left - x.name.size - x.text.size - x.to.size else -1
theorem szA_no (left : Int) (x : ActV) (h : ¬ (x.name.size : Int) + x.text.size + x.to.size ≤ left) : szA left x = -1 := by unfold szA; rw [if_neg h]
theorem szA_yes (left : Int) (x : ActV) (h : (x.name.size : Int) + x.text.size + x.to.size ≤ left) : szA left x = left - x.name.size - x.text.size - x.to.size := by unfold szA; rw [if_pos h]

/-- an act's texts as the machine bears them -/
def BearA (x : ActV) : Prop := x.name.size ≤ maxLen ∧ x.text.size ≤ maxLen ∧ x.to.size ≤ maxLen

theorem szAct_any (x : ActV) (left : Int) (h0 : -1 ≤ left) (h1 : left ≤ 1048576) (hx : BearA x) (w : World) :
    Calls Try.prog 9 #[.agg #[.int .i64 x.kind, .string x.name, .string x.text, .string x.to], .int .i64 left] w fun e w' => e = .returned (.int .i64 (szA left x)) ∧ Below w.heap.size w w' := by
  obtain ⟨x1, x2, x3⟩ := hx
  unfold maxLen at x1 x2 x3
  by_cases g1 : left - x.name.size < 0
  · rw [szA_no left x (by omega)]
    have d1 : decide (left - (x.name.size : Int) < 0) = true := by simp; omega
    go_enter Try.func9, Try.ntmps9
    go_wp2
    go_ret
    exact ⟨rfl, (Below.refl _ _).alloc (Nat.le_refl _) _⟩
  · have d1 : decide (left - (x.name.size : Int) < 0) = false := by simp; omega
    by_cases g2 : left - x.name.size - x.text.size < 0
    · rw [szA_no left x (by omega)]
      have d2 : decide (left - (x.name.size : Int) - (x.text.size : Int) < 0) = true := by simp; omega
      go_enter Try.func9, Try.ntmps9
      go_wp2
      go_ret
      exact ⟨rfl, (Below.refl _ _).alloc (Nat.le_refl _) _⟩
    · have d2 : decide (left - (x.name.size : Int) - (x.text.size : Int) < 0) = false := by simp; omega
      by_cases g3 : left - x.name.size - x.text.size - x.to.size < 0
      · rw [szA_no left x (by omega)]
        have d3 : decide (left - (x.name.size : Int) - (x.text.size : Int) - (x.to.size : Int) < 0) = true := by simp; omega
        go_enter Try.func9, Try.ntmps9
        go_wp2
        go_ret
        exact ⟨rfl, (Below.refl _ _).alloc (Nat.le_refl _) _⟩
      · rw [szA_yes left x (by omega)]
        have d3 : decide (left - (x.name.size : Int) - (x.text.size : Int) - (x.to.size : Int) < 0) = false := by simp; omega
        go_enter Try.func9, Try.ntmps9
        go_wp2
        go_ret
        exact ⟨rfl, (Below.refl _ _).alloc (Nat.le_refl _) _⟩

theorem toAct_any (x : ActV) (w : World) :
    Calls Try.prog 12 #[.agg #[.int .i64 x.kind, .string x.name, .string x.text, .string x.to]] w fun e w' => e = .returned (.agg #[.int .i64 x.kind, .string x.name, .string x.text, .string x.to]) ∧ Below w.heap.size w w' := by
  go_enter Try.func12, Try.ntmps12
  go_wp2
  exact bodyPost_ret (v := .agg #[.int .i64 x.kind, .string x.name, .string x.text, .string x.to]) (by simp [results, Try.results12, go_sem]) rfl ⟨rfl, (((Below.refl _ _).alloc (Nat.le_refl _) _).alloc (by simp) _).alloc (by simp; omega) _⟩

theorem cellsLA : Try.prog.cellsOf 26 = 4 := by kernel_rfl

theorem four {α : Type} {l : List α} (h : l.length = 4) : ∃ a b c d, l = [a, b, c, d] := by
  cases l with
  | nil => simp at h
  | cons a l => obtain ⟨b, c, d, rfl⟩ := three (l := l) (by simpa using h); exact ⟨a, b, c, d, rfl⟩

open Go.ChangeShapes Go.WideShapes Go.ChangeAt in
theorem open_actcells {H : Type} {enc : TypeId × Value → H} {W : World} {fuel : Nat} {cs : List Value} {y : DataW H × List MemPlace}
    (h : DataW.trod enc Try.prog W 0 (fun _ => true) true fuel 26 cs = some y) : ∃ x : ActV, cs = [.int .i64 x.kind, .string x.name, .string x.text, .string x.to] ∧ BearA x ∧ (Lit.int .i64 x.kind).wf = true := by
  obtain ⟨xs, n, _, _, hl, hlen, hf⟩ := DataW.trod_struct Try.underlying26 h
  rw [cellsLA] at hl
  obtain ⟨c0, c1, c2, c3, rfl⟩ := four hl
  have h0 : DataW.trod enc Try.prog W 0 (fun _ => true) true n 3 (([c0, c1, c2, c3].drop 0).take (Try.prog.cellsOf 3)) = xs[0]? := hf 0 _ rfl
  have h1 : DataW.trod enc Try.prog W 0 (fun _ => true) true n 9 (([c0, c1, c2, c3].drop 1).take (Try.prog.cellsOf 9)) = xs[1]? := hf 1 _ rfl
  have h2 : DataW.trod enc Try.prog W 0 (fun _ => true) true n 9 (([c0, c1, c2, c3].drop 2).take (Try.prog.cellsOf 9)) = xs[2]? := hf 2 _ rfl
  have h3 : DataW.trod enc Try.prog W 0 (fun _ => true) true n 9 (([c0, c1, c2, c3].drop 3).take (Try.prog.cellsOf 9)) = xs[3]? := hf 3 _ rfl
  rw [cells9] at h1 h2 h3
  rw [cells3] at h0
  have g : ∀ i, i < 4 → ∃ z, xs[i]? = some z := fun i hi => ⟨xs[i]'(by simp at hlen; omega), List.getElem?_eq_getElem _⟩
  obtain ⟨z0, e0⟩ := g 0 (by omega)
  obtain ⟨z1, e1⟩ := g 1 (by omega)
  obtain ⟨z2, e2⟩ := g 2 (by omega)
  obtain ⟨z3, e3⟩ := g 3 (by omega)
  rw [e0] at h0
  rw [e1] at h1
  rw [e2] at h2
  rw [e3] at h3
  obtain ⟨k, hk, _, w0⟩ := DataW.trod_int Try.underlying3 h0
  obtain ⟨s1, hs1, _, w1⟩ := DataW.trod_string Try.underlying9 h1
  obtain ⟨s2, hs2, _, w2⟩ := DataW.trod_string Try.underlying9 h2
  obtain ⟨s3, hs3, _, w3⟩ := DataW.trod_string Try.underlying9 h3
  simp at hk hs1 hs2 hs3
  subst hk hs1 hs2 hs3
  exact ⟨⟨k, s1, s2, s3⟩, rfl, ⟨w1, w2, w3⟩, w0⟩

open Go.ChangeShapes Go.WideShapes Go.ChangeAt in
set_option maxRecDepth 100000 in
/-- an act that comes in -/
theorem open_act {H : Type} {enc : TypeId × Value → H} {W : World} {r : Reach} {base : Nat} {v : Value} {d : DataW H} {p : List MemPlace}
    (hv : Value.okWide Try.prog W r base 26 v) (h : DataW.Trod enc Try.prog W 0 (fun _ => true) true 26 v d p) :
    ∃ x : ActV, v = .agg #[.int .i64 x.kind, .string x.name, .string x.text, .string x.to] ∧ BearA x := by
  obtain ⟨cs, rfl, hcs⟩ := okWide_struct Try.underlying26 hv
  obtain ⟨fuel, hf⟩ := h
  have hf' : DataW.trod enc Try.prog W 0 (fun _ => true) true fuel 26 cs.toList = some (d, p) := by simpa [Value.cells] using hf
  obtain ⟨x, hx, hb, _⟩ := open_actcells hf'
  refine ⟨x, ?_, hb⟩
  have : cs = #[.int .i64 x.kind, .string x.name, .string x.text, .string x.to] := by
    obtain ⟨l⟩ := cs
    simp at hx
    rw [hx]
  rw [this]
end Go.Proofs.Ytibcdpnodikpiai
