/- A list of lists of edges that comes in. -/
import Derived.Test.YtcmjfnaenkdidaaKOpen11
namespace Go.Proofs.Ytcmjfnaenkdidaa
open Go.RowKit Go.ChangeShapes Go.WideShapes Go.ChangeAt

set_option maxRecDepth 100000 in
theorem open_edgeSS {H : Type} {enc : TypeId × Value → H} {W : World} {a : Option Addr} {len cap fuel : Nat} {x : DataW H × List MemPlace}
    (h : DataW.trod enc Try.prog W 0 (fun _ => true) true fuel 54 [.slice a len cap] = some x) : len ≤ maxLen ∧ ∃ ts : List (List EdgeV), TeS W W.heap.size a len ts ∧ ∀ t ∈ ts, t.length ≤ maxLen := by
  rcases DataW.trod_slice Try.underlying54 h with ⟨hcs, _⟩ | ⟨ad, l, c, elems, rest, n, _, hcs, _, _, hlc, hm, hel, hei, _, _⟩
  · simp at hcs
    obtain ⟨rfl, rfl, rfl⟩ := hcs
    exact ⟨by unfold maxLen; omega, [], ⟨rfl, .inl rfl⟩, by simp⟩
  · simp at hcs
    obtain ⟨rfl, rfl, rfl⟩ := hcs
    refine ⟨by omega, ?_⟩
    have each : ∀ i, i < len → ∃ t : List EdgeV, (∃ (a' : Option Addr) (c' : Nat), W.cell? ((ad.add i).add 0) = some (.slice a' t.length c') ∧ Es W W.heap.size a' t.length t) ∧ t.length ≤ maxLen := by
      intro i hi
      have h1 := hei i hi
      obtain ⟨y, hy⟩ : ∃ y, elems[i]? = some y := ⟨elems[i]'(by omega), List.getElem?_eq_getElem _⟩
      rw [hy, Option.bind_eq_some_iff] at h1
      obtain ⟨cs', hc, ht⟩ := h1
      obtain ⟨a', n', c', rfl⟩ : ∃ (a' : Option Addr) (n' c' : Nat), cs' = [.slice a' n' c'] := by
        rcases DataW.trod_slice Try.underlying45 ht with ⟨hx, _⟩ | ⟨ad2, l2, c2, _, _, _, _, hx, _⟩
        · exact ⟨_, _, _, hx⟩
        · exact ⟨_, _, _, hx⟩
      obtain ⟨q1, fs, q2, _⟩ := open_edgeS ht
      rw [show Try.prog.cellsOf 45 = 1 by kernel_rfl] at hc
      have hcell := (World.cells?_some hc).2.2
      have hn := q2.1
      subst hn
      refine ⟨fs, ⟨a', c', ?_, q2⟩, q1⟩
      simpa using hcell 0 (by omega)
    by_cases h0 : len = 0
    · subst h0
      exact ⟨[], ⟨rfl, .inl rfl⟩, by simp⟩
    · obtain ⟨f0, ⟨_, _, hc0, _⟩, _⟩ := each 0 (by omega)
      obtain ⟨b, off, spot⟩ := ad
      have hspot : spot = none := by simpa [Addr.add] using World.cell?_spot hc0
      subst hspot
      have hb : b < W.heap.size := by
        have := World.block_lt_of_cell? W _ hc0
        simpa [Addr.add] using this
      obtain ⟨F, hF⟩ := Classical.axiomOfChoice (fun i : Fin len => each i.1 i.2)
      refine ⟨List.ofFn F, ⟨by simp, .inr ⟨b, off, rfl, hb, fun j f hf => ?_⟩⟩, fun f hf => ?_⟩
      · obtain ⟨hj, rfl⟩ := List.getElem?_eq_some_iff.1 hf
        have hj' : j < len := by simpa using hj
        obtain ⟨⟨a', c', c0, c1⟩, _⟩ := hF ⟨j, hj'⟩
        rw [add_plain, add_plain, Nat.add_zero] at c0
        simp only [List.getElem_ofFn]
        exact ⟨a', c', c0, c1⟩
      · obtain ⟨i, rfl⟩ := List.mem_ofFn.1 hf
        exact (hF i).2
set_option maxRecDepth 100000 in
theorem open_edgeLL {H : Type} {enc : TypeId × Value → H} {W : World} {r : Reach} {base : Nat} {v : Value} {d : DataW H} {p : List MemPlace}
    (hv : Value.okWide Try.prog W r base 54 v) (h : DataW.Trod enc Try.prog W 0 (fun _ => true) true 54 v d p) :
    ∃ (a : Option Addr) (n c : Nat) (ts : List (List EdgeV)), v = .slice a n c ∧ n ≤ maxLen ∧ TeS W W.heap.size a n ts ∧ ∀ t ∈ ts, t.length ≤ maxLen := by
  obtain ⟨a, len, cap, rfl⟩ := okWide_slice Try.underlying54 hv
  obtain ⟨fuel, hf⟩ := h
  have hf' : DataW.trod enc Try.prog W 0 (fun _ => true) true fuel 54 [.slice a len cap] = some (d, p) := by simpa [Value.cells] using hf
  obtain ⟨hl, ts, h1, h2⟩ := open_edgeSS hf'
  exact ⟨a, len, cap, ts, rfl, hl, h1, h2⟩
end Go.Proofs.Ytcmjfnaenkdidaa
