/- A list of acts that comes in. -/
import Derived.Test.YtibcdpnodikpiaiAsR
namespace Go.Proofs.Ytibcdpnodikpiai
open Go.RowKit Go.ChangeShapes Go.WideShapes Go.ChangeAt

set_option maxRecDepth 100000 in
theorem open_acts {H : Type} {enc : TypeId × Value → H} {W : World} {r : Reach} {base : Nat} {v : Value} {d : DataW H} {p : List MemPlace}
    (hv : Value.okWide Try.prog W r base 40 v) (h0 : DataW.Trod enc Try.prog W 0 (fun _ => true) true 40 v d p) :
    ∃ (a : Option Addr) (n c : Nat) (xs : List ActV), v = .slice a n c ∧ n ≤ maxLen ∧ As W W.heap.size a n xs ∧ ∀ x ∈ xs, BearA x := by
  obtain ⟨a, len, cap, rfl⟩ := okWide_slice Try.underlying40 hv
  obtain ⟨fuel, hf⟩ := h0
  have h : DataW.trod enc Try.prog W 0 (fun _ => true) true fuel 40 [.slice a len cap] = some (d, p) := by simpa [Value.cells] using hf
  rcases DataW.trod_slice Try.underlying40 h with ⟨hcs, _⟩ | ⟨ad, l, c, elems, rest, n, _, hcs, _, _, hlc, hm, hel, hei, _, _⟩
  · simp at hcs
    obtain ⟨rfl, rfl, rfl⟩ := hcs
    exact ⟨none, 0, 0, [], rfl, by unfold maxLen; omega, ⟨rfl, .inl rfl⟩, by simp⟩
  · simp at hcs
    obtain ⟨rfl, rfl, rfl⟩ := hcs
    have each : ∀ i, i < len → ∃ x : ActV, (W.cell? ((ad.add (i * 4)).add 0) = some (.int .i64 x.kind) ∧ W.cell? ((ad.add (i * 4)).add 1) = some (.string x.name) ∧ W.cell? ((ad.add (i * 4)).add 2) = some (.string x.text) ∧ W.cell? ((ad.add (i * 4)).add 3) = some (.string x.to)) ∧ BearA x := by
      intro i hi
      have h1 := hei i hi
      obtain ⟨y, hy⟩ : ∃ y, elems[i]? = some y := ⟨elems[i]'(by omega), List.getElem?_eq_getElem _⟩
      rw [hy, Option.bind_eq_some_iff] at h1
      obtain ⟨cs', hc, ht⟩ := h1
      obtain ⟨f, rfl, hfit, _⟩ := open_actcells ht
      rw [cellsLA] at hc
      have hcell := (World.cells?_some hc).2.2
      refine ⟨f, ⟨?_, ?_, ?_, ?_⟩, hfit⟩
      · simpa using hcell 0 (by omega)
      · simpa using hcell 1 (by omega)
      · simpa using hcell 2 (by omega)
      · simpa using hcell 3 (by omega)
    by_cases h0 : len = 0
    · subst h0
      exact ⟨_, 0, cap, [], rfl, by unfold maxLen; omega, ⟨rfl, .inl rfl⟩, by simp⟩
    · obtain ⟨f0, ⟨hc0, _, _⟩, _⟩ := each 0 (by omega)
      obtain ⟨b, off, spot⟩ := ad
      have hspot : spot = none := by simpa [Addr.add] using World.cell?_spot hc0
      subst hspot
      have hb : b < W.heap.size := by
        have := World.block_lt_of_cell? W _ hc0
        simpa [Addr.add] using this
      obtain ⟨F, hF⟩ := Classical.axiomOfChoice (fun i : Fin len => each i.1 i.2)
      refine ⟨_, len, cap, List.ofFn F, rfl, by omega, ⟨by simp, .inr ⟨b, off, rfl, hb, fun j f hf => ?_⟩⟩, fun f hf => ?_⟩
      · obtain ⟨hj, rfl⟩ := List.getElem?_eq_some_iff.1 hf
        have hj' : j < len := by simpa using hj
        obtain ⟨⟨c0, c1, c2, c3⟩, _⟩ := hF ⟨j, hj'⟩
        rw [add_plain, add_plain] at c0 c1 c2 c3
        simp only [List.getElem_ofFn]
        exact ⟨c0, c1, c2, c3⟩
      · obtain ⟨i, rfl⟩ := List.mem_ofFn.1 hf
        exact (hF i).2
end Go.Proofs.Ytibcdpnodikpiai
