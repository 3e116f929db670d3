/- The names of a table, sorted. -/
import Derived.Test.YtibcdpnodikpiaiTab
import Derived.Test.YtibcdpnodikpiaiIter
namespace Go.Proofs.Ytibcdpnodikpiai
open Go.RowKit Go.WideMaps Go.Maps Go.Sort

theorem names_perm {W : World} {B M : Nat} {loc : ByteArray → Nat} {fs : List FileV} {D : DataW Unit} (T : Tab W B M loc fs D) (hs : Sorted fs) : (fs.map nmOf).Perm (strKeys D) := by
  obtain ⟨es, hD, hpw, _⟩ := T.own.entries keyLaw
  obtain ⟨es', hD', hko⟩ := T.own.keysOf
  obtain rfl : es = es' := by rw [hD] at hD'; simpa using hD'
  subst hD
  refine perm_strKeys hpw (fun p hp => by obtain ⟨v, hv⟩ := hko p hp; obtain ⟨x, _, hx, _⟩ := Maps.keyOf_str Try.underlying9 hv; exact ⟨x, hx⟩) ?_ ?_
  · have : fs.Pairwise fun f g => nmOf f ≠ nmOf g := List.Pairwise.imp (fun {f g} hlt e => by rw [e] at hlt; exact Std.lt_irrefl hlt) hs
    exact List.pairwise_map.2 this
  · intro x
    have h1 := T.has ⟨x.toArray⟩
    have h2 : keyL ⟨x.toArray⟩ = .string x := by simp [keyL]
    rw [h2] at h1
    rw [h1, isIn_iff, List.mem_map]
    constructor
    · rintro ⟨f, hf, rfl⟩
      exact ⟨f, hf, bytes_ext (by simp [nmOf])⟩
    · rintro ⟨f, hf, e⟩
      exact ⟨f, hf, by unfold nmOf; rw [e]⟩
theorem names_sorted {W : World} {B M : Nat} {loc : ByteArray → Nat} {fs : List FileV} {D : DataW Unit} (T : Tab W B M loc fs D) (hs : Sorted fs) {ss : List (List UInt8)} (hp : ss.Perm (strKeys D)) : ss.mergeSort (fun x y => decide (x ≤ y)) = fs.map nmOf := by
  refine List.Perm.eq_of_pairwise (le := fun x y => x ≤ y) (fun a b _ _ h1 h2 => Std.le_antisymm h1 h2) ?_ ?_ ?_
  · have := List.pairwise_mergeSort (le := fun x y : List UInt8 => decide (x ≤ y)) (fun a b c h1 h2 => by simp at h1 h2 ⊢; exact Std.le_trans h1 h2) (fun a b => by simp; exact Std.le_total) ss
    exact List.Pairwise.imp (fun h => by simpa using h) this
  · exact List.pairwise_map.2 (List.Pairwise.imp (fun h => Std.le_of_lt h) hs)
  · exact ((List.mergeSort_perm _ _).trans hp).trans (names_perm T hs).symm
end Go.Proofs.Ytibcdpnodikpiai
