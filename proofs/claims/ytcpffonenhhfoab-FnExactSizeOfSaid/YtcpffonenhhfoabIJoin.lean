/- The program's JoinTours. -/
import Derived.Test.YtcpffonenhhfoabIRer
import Derived.Test.YtcpffonenhhfoabIBack
import Derived.Test.YtcpffonenhhfoabICom
namespace Go.Proofs.Ytcpffonenhhfoab
open Go.RowKit

/-- a up to the place k, r, and a from that place on -/
def joT (t : List Int) (k : Nat) (r : List Int) : List Int := t.take (k + 1) ++ (r ++ t.drop k)
/-- two tours, joined -/
def joO (ta : List Int) (u : Int) (tb : List Int) (v : Int) : Option (List Int) :=
  if (tB ta = true ∧ tB tb = true) ∧ (u ∈ ta ∧ v ∈ tb) ∧ comB ta tb = false then some (joT ta (lstI ta u).toNat (reT tb (fstI tb v).toNat v)) else none
theorem reO_none {t : List Int} {v : Int} (h : reO t v = none) : ¬ (tB t = true ∧ v ∈ t) := by
  unfold reO at h
  by_cases hc : tB t = true ∧ v ∈ t
  · rw [if_pos hc] at h; simp at h
  · exact hc
theorem reO_some {t r : List Int} {v : Int} (h : reO t v = some r) : tB t = true ∧ v ∈ t ∧ r = reT t (fstI t v).toNat v := by
  unfold reO at h
  by_cases hc : tB t = true ∧ v ∈ t
  · rw [if_pos hc] at h; simp at h; exact ⟨hc.1, hc.2, h.symm⟩
  · rw [if_neg hc] at h; simp at h
theorem lst_mem {t : List Int} {v : Int} (h : v ∈ t) : ∃ k : Nat, lstI t v = (k : Int) ∧ k < t.length ∧ t[k]? = some v := by
  rcases lastN_cases (atP t v) t.length with ⟨k, h1, h2, _, h4⟩ | ⟨h1, _⟩
  · exact ⟨k, h4, h1, by simpa [atP] using h2⟩
  · exact absurd h (mem_of_atP rfl h1)
theorem lst_no {t : List Int} {v : Int} (h : v ∉ t) : lstI t v = -1 := by
  rcases lastN_cases (atP t v) t.length with ⟨k, h1, h2, _, h4⟩ | ⟨_, h2⟩
  · exact absurd (List.mem_of_getElem? (by simpa [atP] using h2 : t[k]? = some v)) h
  · exact h2
theorem reT_len {t : List Int} {v : Int} (hB : tB t = true) (k : Nat) : (reT t k v).length ≤ 50 := by
  have := tB_len hB
  simp [reT]
  omega

end Go.Proofs.Ytcpffonenhhfoab
