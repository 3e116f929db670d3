/- An order and an answer that come in, as the walks want them. -/
import Derived.Test.YtkhhagjcmbbdpaaKMem
import Derived.Test.YtkhhagjcmbbdpaaKIntsO10
import Derived.ChangeSlices
import Derived.WalkKit
import Derived.ProofKit
import Derived.OpenShut
import Derived.ChangeOld
import Derived.ChangeArms
import Derived.Below
namespace Go.Proofs.Ytkhhagjcmbbdpaa
open Go.ChangeShapes Go.WideShapes Go.ChangeAt Go.RowKit

theorem four10 {α : Type} {l : List α} (h : l.length = 4) : ∃ a b c d, l = [a, b, c, d] := by
  match l, h with
  | [a, b, c, d], _ => exact ⟨a, b, c, d, rfl⟩

theorem slice1 {H : Type} {enc : TypeId × Value → H} {W : World} {fuel : Nat} {t e : TypeId} {cs : List Value} {x : DataW H × List MemPlace} (hu : Try.prog.underlying t = some (.slice e))
    (h : DataW.trod enc Try.prog W 0 (fun _ => true) true fuel t cs = some x) : ∃ a n c, cs = [.slice a n c] := by
  rcases DataW.trod_slice hu h with ⟨hcs, _⟩ | ⟨ad, l, c, _, _, _, _, hcs, _⟩
  · exact ⟨_, _, _, hcs⟩
  · exact ⟨_, _, _, hcs⟩

theorem open_ints10 {H : Type} {enc : TypeId × Value → H} {W : World} {fuel : Nat} {a : Option Addr} {len cap : Nat} {y : DataW H × List MemPlace}
    (hf : DataW.trod enc Try.prog W 0 (fun _ => true) true fuel 35 [.slice a len cap] = some y) : len ≤ maxLen ∧ ∃ ls : List Int, Is W W.heap.size a len ls := by
  obtain ⟨d, p⟩ := y
  rcases open_ints Try.underlying35 Try.underlying3 (by kernel_rfl) hf with ⟨hcs, _⟩ | ⟨x, l, c, zs, hcs, _, hl, hm, hz, _, hcell, hwz⟩
  · simp at hcs
    obtain ⟨rfl, rfl, rfl⟩ := hcs
    exact ⟨by unfold maxLen; omega, [], ⟨rfl, .inl rfl⟩⟩
  · simp at hcs
    obtain ⟨rfl, rfl, rfl⟩ := hcs
    have hzl : zs.length = cap := by simpa using hz
    by_cases h0 : len = 0
    · subst h0
      exact ⟨by unfold maxLen; omega, [], ⟨rfl, .inl rfl⟩⟩
    · obtain ⟨b, off, rfl, hc⟩ := ints_at hcell (by omega)
      have hb : b < W.heap.size := World.block_lt_of_cell? W _ (hc 0 (by omega))
      refine ⟨by omega, zs.take len, ⟨by rw [List.length_take]; omega, .inr ⟨b, off, rfl, hb, fun j x hx => ?_⟩⟩⟩
      have hj : j < len := by have := (List.getElem?_eq_some_iff.1 hx).1; rw [List.length_take] at this; omega
      rw [List.getElem?_take_of_lt hj] at hx
      rw [hc j (by omega), List.getD_eq_getElem?_getD, hx]
      rfl

set_option maxRecDepth 100000 in
/-- an order that comes in -/
theorem open_order {H : Type} {enc : TypeId × Value → H} {W : World} {r : Reach} {base : Nat} {v : Value} {d : DataW H} {p : List MemPlace}
    (hv : Value.okWide Try.prog W r base 49 v) (h : DataW.Trod enc Try.prog W 0 (fun _ => true) true 49 v d p) :
    ∃ (num op x : Int) (a : Option Addr) (n c : Nat) (fs : List EdgeV), v = .agg #[.int .i64 num, .int .i64 op, .slice a n c, .int .i64 x] ∧ n ≤ maxLen ∧ Es W W.heap.size a n fs := by
  obtain ⟨cs, rfl, hcs⟩ := okWide_struct Try.underlying49 hv
  obtain ⟨fuel, hf⟩ := h
  obtain ⟨xs, n, _, _, hl, hlen, hfi⟩ := DataW.trod_struct Try.underlying49 hf
  rw [show Try.prog.cellsOf 49 = 4 by kernel_rfl] at hcs hl
  obtain ⟨l⟩ := cs
  obtain ⟨c0, c1, c2, c3, rfl⟩ := four10 (by simpa using hcs : l.length = 4)
  have ec : (Value.agg (List.toArray [c0, c1, c2, c3])).cells.toList = [c0, c1, c2, c3] := by simp [Value.cells]
  rw [ec] at hfi
  have h0 : DataW.trod enc Try.prog W 0 (fun _ => true) true n 3 (([c0, c1, c2, c3].drop 0).take (Try.prog.cellsOf 3)) = xs[0]? := hfi 0 _ rfl
  have h1 : DataW.trod enc Try.prog W 0 (fun _ => true) true n 3 (([c0, c1, c2, c3].drop 1).take (Try.prog.cellsOf 3)) = xs[1]? := hfi 1 _ rfl
  have h2 : DataW.trod enc Try.prog W 0 (fun _ => true) true n 47 (([c0, c1, c2, c3].drop 2).take (Try.prog.cellsOf 47)) = xs[2]? := hfi 2 _ rfl
  have h3 : DataW.trod enc Try.prog W 0 (fun _ => true) true n 3 (([c0, c1, c2, c3].drop 3).take (Try.prog.cellsOf 3)) = xs[3]? := hfi 3 _ rfl
  rw [cells3] at h0 h1 h3
  rw [show Try.prog.cellsOf 47 = 1 by kernel_rfl] at h2
  have g : ∀ i, i < 4 → ∃ z, xs[i]? = some z := fun i hi => ⟨xs[i]'(by simp at hlen; omega), List.getElem?_eq_getElem _⟩
  obtain ⟨z0, e0⟩ := g 0 (by omega)
  obtain ⟨z1, e1⟩ := g 1 (by omega)
  obtain ⟨z2, e2⟩ := g 2 (by omega)
  obtain ⟨z3, e3⟩ := g 3 (by omega)
  rw [e0] at h0
  rw [e1] at h1
  rw [e2] at h2
  rw [e3] at h3
  obtain ⟨k0, hk0, _⟩ := DataW.trod_int Try.underlying3 h0
  obtain ⟨k1, hk1, _⟩ := DataW.trod_int Try.underlying3 h1
  obtain ⟨k3, hk3, _⟩ := DataW.trod_int Try.underlying3 h3
  simp at hk0 hk1 hk3
  subst hk0 hk1 hk3
  have h2' : DataW.trod enc Try.prog W 0 (fun _ => true) true n 47 [c2] = some z2 := by simpa using h2
  obtain ⟨a, m, c, hx⟩ := slice1 Try.underlying47 h2'
  simp at hx
  subst hx
  obtain ⟨q1, fs, q2, _⟩ := open_edgeS h2'
  exact ⟨k0, k1, k3, a, m, c, fs, rfl, q1, q2⟩

set_option maxRecDepth 100000 in
/-- an answer that comes in -/
theorem open_answer {H : Type} {enc : TypeId × Value → H} {W : World} {r : Reach} {base : Nat} {v : Value} {d : DataW H} {p : List MemPlace}
    (hv : Value.okWide Try.prog W r base 55 v) (h : DataW.Trod enc Try.prog W 0 (fun _ => true) true 55 v d p) :
    ∃ (num : Int) (ok : Bool) (a : Option Addr) (n c : Nat) (fs : List EdgeV) (a' : Option Addr) (n' c' : Nat) (ls : List Int), v = .agg #[.int .i64 num, .bool ok, .slice a n c, .slice a' n' c'] ∧ n ≤ maxLen ∧ n' ≤ maxLen ∧ Es W W.heap.size a n fs ∧ Is W W.heap.size a' n' ls := by
  obtain ⟨cs, rfl, hcs⟩ := okWide_struct Try.underlying55 hv
  obtain ⟨fuel, hf⟩ := h
  obtain ⟨xs, n, _, _, hl, hlen, hfi⟩ := DataW.trod_struct Try.underlying55 hf
  rw [show Try.prog.cellsOf 55 = 4 by kernel_rfl] at hcs hl
  obtain ⟨l⟩ := cs
  obtain ⟨c0, c1, c2, c3, rfl⟩ := four10 (by simpa using hcs : l.length = 4)
  have ec : (Value.agg (List.toArray [c0, c1, c2, c3])).cells.toList = [c0, c1, c2, c3] := by simp [Value.cells]
  rw [ec] at hfi
  have h0 : DataW.trod enc Try.prog W 0 (fun _ => true) true n 3 (([c0, c1, c2, c3].drop 0).take (Try.prog.cellsOf 3)) = xs[0]? := hfi 0 _ rfl
  have h1 : DataW.trod enc Try.prog W 0 (fun _ => true) true n 4 (([c0, c1, c2, c3].drop 1).take (Try.prog.cellsOf 4)) = xs[1]? := hfi 1 _ rfl
  have h2 : DataW.trod enc Try.prog W 0 (fun _ => true) true n 47 (([c0, c1, c2, c3].drop 2).take (Try.prog.cellsOf 47)) = xs[2]? := hfi 2 _ rfl
  have h3 : DataW.trod enc Try.prog W 0 (fun _ => true) true n 35 (([c0, c1, c2, c3].drop 3).take (Try.prog.cellsOf 35)) = xs[3]? := hfi 3 _ rfl
  rw [cells3] at h0
  rw [show Try.prog.cellsOf 4 = 1 by kernel_rfl] at h1
  rw [show Try.prog.cellsOf 47 = 1 by kernel_rfl] at h2
  rw [show Try.prog.cellsOf 35 = 1 by kernel_rfl] at h3
  have g : ∀ i, i < 4 → ∃ z, xs[i]? = some z := fun i hi => ⟨xs[i]'(by simp at hlen; omega), List.getElem?_eq_getElem _⟩
  obtain ⟨z0, e0⟩ := g 0 (by omega)
  obtain ⟨z1, e1⟩ := g 1 (by omega)
  obtain ⟨z2, e2⟩ := g 2 (by omega)
  obtain ⟨z3, e3⟩ := g 3 (by omega)
  rw [e0] at h0
  rw [e1] at h1
  rw [e2] at h2
  rw [e3] at h3
  obtain ⟨k0, hk0, _⟩ := DataW.trod_int Try.underlying3 h0
  obtain ⟨k1, hk1, _⟩ := DataW.trod_bool Try.underlying4 h1
  simp at hk0 hk1
  subst hk0 hk1
  have h2' : DataW.trod enc Try.prog W 0 (fun _ => true) true n 47 [c2] = some z2 := by simpa using h2
  have h3' : DataW.trod enc Try.prog W 0 (fun _ => true) true n 35 [c3] = some z3 := by simpa using h3
  obtain ⟨a, m, c, hx⟩ := slice1 Try.underlying47 h2'
  obtain ⟨a', m', c', hx'⟩ := slice1 Try.underlying35 h3'
  simp at hx hx'
  subst hx hx'
  obtain ⟨q1, fs, q2, _⟩ := open_edgeS h2'
  obtain ⟨q3, ls, q4⟩ := open_ints10 h3'
  exact ⟨k0, k1, a, m, c, fs, a', m', c', ls, rfl, q1, q3, q2, q4⟩
end Go.Proofs.Ytkhhagjcmbbdpaa
