/- Places in a list of ints: the first one of a number, the last one, the first step from one number to another. -/
import Derived.Test.YtcpffonenhhfoabTourP
namespace Go.Proofs.Ytcpffonenhhfoab
open Go.RowKit

def firstN (p : Nat → Bool) (n : Nat) : Int := match (List.range n).find? p with | some k => (k : Int) | none => -1
def lastN (p : Nat → Bool) : Nat → Int
  | 0 => -1
  | n + 1 => if p n = true then (n : Int) else lastN p n
theorem firstN_yes {p : Nat → Bool} {n k : Nat} (hk : k < n) (h : p k = true) (hn : ∀ j, j < k → p j = false) : firstN p n = (k : Int) := by
  have : (List.range n).find? p = some k := by
    rw [List.find?_range_eq_some]
    exact ⟨h, by simpa using hk, fun j hj => by simp [hn j hj]⟩
  unfold firstN
  rw [this]
theorem firstN_no {p : Nat → Bool} {n : Nat} (hn : ∀ j, j < n → p j = false) : firstN p n = -1 := by
  have : (List.range n).find? p = none := by
    rw [List.find?_range_eq_none]
    exact fun j hj => by simp [hn j hj]
  unfold firstN
  rw [this]
theorem firstN_cases (p : Nat → Bool) (n : Nat) : (∃ k, k < n ∧ p k = true ∧ (∀ j, j < k → p j = false) ∧ firstN p n = (k : Int)) ∨ ((∀ j, j < n → p j = false) ∧ firstN p n = -1) := by
  cases h : (List.range n).find? p with
  | none =>
    rw [List.find?_range_eq_none] at h
    exact .inr ⟨fun j hj => by simpa using h j hj, by unfold firstN; rw [show (List.range n).find? p = none by rw [List.find?_range_eq_none]; exact h]⟩
  | some k =>
    have h' := h
    rw [List.find?_range_eq_some] at h
    exact .inl ⟨k, by simpa using h.2.1, h.1, fun j hj => by simpa using h.2.2 j hj, by unfold firstN; rw [h']⟩
theorem lastN_cases (p : Nat → Bool) (n : Nat) : (∃ k, k < n ∧ p k = true ∧ (∀ j, k < j → j < n → p j = false) ∧ lastN p n = (k : Int)) ∨ ((∀ j, j < n → p j = false) ∧ lastN p n = -1) := by
  induction n with
  | zero => exact .inr ⟨fun j hj => by omega, rfl⟩
  | succ n ih =>
    by_cases h : p n = true
    · exact .inl ⟨n, by omega, h, fun j h1 h2 => by omega, by simp [lastN, h]⟩
    · have h' : p n = false := by simpa using h
      rcases ih with ⟨k, h1, h2, h3, h4⟩ | ⟨h1, h2⟩
      · refine .inl ⟨k, by omega, h2, fun j h5 h6 => ?_, by simp [lastN, h', h4]⟩
        by_cases h7 : j = n
        · rw [h7]; exact h'
        · exact h3 j h5 (by omega)
      · refine .inr ⟨fun j hj => ?_, by simp [lastN, h', h2]⟩
        by_cases h7 : j = n
        · rw [h7]; exact h'
        · exact h1 j (by omega)
theorem lastN_step {p : Nat → Bool} {n k : Nat} (h : lastN p n = lastN p (k + 1)) (hp : p k = false) : lastN p n = lastN p k := by rw [h]; simp [lastN, hp]
theorem lastN_hit {p : Nat → Bool} {n k : Nat} (h : lastN p n = lastN p (k + 1)) (hp : p k = true) : lastN p n = (k : Int) := by rw [h]; simp [lastN, hp]

/-- the number v stands at the place k -/
def atP (ls : List Int) (v : Int) (k : Nat) : Bool := ls[k]? == some v
/-- there the list goes from u to v -/
def goP (ls : List Int) (u v : Int) (k : Nat) : Bool := ls[k]? == some u && ls[k + 1]? == some v
def fstI (ls : List Int) (v : Int) : Int := firstN (atP ls v) ls.length
def lstI (ls : List Int) (v : Int) : Int := lastN (atP ls v) ls.length
def goI (ls : List Int) (u v : Int) : Int := firstN (goP ls u v) (ls.length - 1)
theorem atP_yes {ls : List Int} {v : Int} {k : Nat} (h : ls[k]? = some v) : atP ls v k = true := by simp [atP, h]
theorem atP_no {ls : List Int} {v f : Int} {k : Nat} (h : ls[k]? = some f) (hn : f ≠ v) : atP ls v k = false := by simp [atP, h, hn]
theorem fstI_mem (ls : List Int) (v : Int) : decide (fstI ls v < 0) = decide (v ∉ ls) := by
  rcases firstN_cases (atP ls v) ls.length with ⟨k, _, h, _, e⟩ | ⟨h, e⟩
  · have hm : v ∈ ls := List.mem_of_getElem? (by simpa [atP] using h)
    have e' : fstI ls v = (k : Int) := e
    rw [e', decide_eq_decide]
    simp [hm]
  · have hm : v ∉ ls := fun hm => by
      obtain ⟨k, hk⟩ := List.mem_iff_getElem?.1 hm
      have := h k (List.getElem?_eq_some_iff.1 hk).1
      rw [atP_yes hk] at this
      simp at this
    have e' : fstI ls v = -1 := e
    rw [e', decide_eq_decide]
    simp [hm]
theorem lstI_mem (ls : List Int) (v : Int) : decide (lstI ls v < 0) = decide (v ∉ ls) := by
  rcases lastN_cases (atP ls v) ls.length with ⟨k, _, h, _, e⟩ | ⟨h, e⟩
  · have hm : v ∈ ls := List.mem_of_getElem? (by simpa [atP] using h)
    have e' : lstI ls v = (k : Int) := e
    rw [e', decide_eq_decide]
    simp [hm]
  · have hm : v ∉ ls := fun hm => by
      obtain ⟨k, hk⟩ := List.mem_iff_getElem?.1 hm
      have := h k (List.getElem?_eq_some_iff.1 hk).1
      rw [atP_yes hk] at this
      simp at this
    have e' : lstI ls v = -1 := e
    rw [e', decide_eq_decide]
    simp [hm]
theorem mem_of_atP {ls : List Int} {v : Int} {n : Nat} (hn : ls.length = n) (h : ∀ j, j < n → atP ls v j = false) : v ∉ ls := fun hm => by
  obtain ⟨k, hk⟩ := List.mem_iff_getElem?.1 hm
  have := h k (by have := (List.getElem?_eq_some_iff.1 hk).1; omega)
  rw [atP_yes hk] at this
  simp at this
theorem all_step {p : Nat → Bool} {k : Nat} (h : ∀ j, j < k → p j = false) (hp : p k = false) : ∀ j, j < k + 1 → p j = false := fun j hj => by
  by_cases h7 : j = k
  · rw [h7]; exact hp
  · exact h j (by omega)

theorem retT {p : Prop} [Decidable p] (h : p) : Ending.returned (.bool true) = Ending.returned (.bool (decide p)) := by rw [decide_eq_true h]
theorem retF {p : Prop} [Decidable p] (h : ¬ p) : Ending.returned (.bool false) = Ending.returned (.bool (decide p)) := by rw [decide_eq_false h]
theorem retI {x y : Int} (h : y = x) : Ending.returned (.int .i64 x) = Ending.returned (.int .i64 y) := by rw [h]

set_option maxHeartbeats 1000000 in
theorem l05In_any (ls : List Int) (v : Int) (n : Nat) (a : Option Addr) (c : Nat) (hn : n ≤ 3000000) (w : World) (h : Is w w.heap.size a n ls) :
    Calls Try.prog 44 #[.slice a n c, .int .i64 v] w fun e w' => e = .returned (.bool (decide (v ∈ ls))) ∧ w' = w := by
  obtain ⟨hlen, hrow⟩ := h
  have HR := hideIt hrow
  clear hrow
  go_enter Try.func44, Try.ntmps44
  go_wp2
  go_loopw [5] (fun i wr => ∃ (k : Nat), k ≤ n ∧ i = .int .i64 (k : Int) ∧ Hid (∀ j, j < k → atP ls v j = false) ∧ wr = w) (fun i _ => n - (intOf i).toNat)
  case atStart => exact ⟨0, by omega, rfl, fun j hj => by omega, rfl⟩
  case round =>
    obtain ⟨k, hk, rfl, HF, hw⟩ := hrel
    have hw' := hw.symm
    subst hw'
    clear hw
    by_cases hlt : k < n
    · rcases HR.out with hz | ⟨b, off, rfl, hbl, hc⟩
      · omega
      · obtain ⟨f, hf⟩ : ∃ f, ls[k]? = some f := ⟨ls[k]'(by omega), List.getElem?_eq_getElem (by omega)⟩
        have e0 := hc k f hf
        have b1 : (0 : Int) ≤ (k : Int) := by omega
        have b2 : (k : Int) < (n : Int) := by omega
        by_cases hv : f = v
        · have d1 : (f == v) = true := by simpa using hv
          have hm := hideIt (show v ∈ ls from hv ▸ List.mem_of_getElem? hf)
          clear hc hf hv
          go_wp2
          go_ret
          exact ⟨retT hm.out, rfl⟩
        · have d1 : (f == v) = false := by simpa using hv
          have HF2 := hideIt (all_step HF.out (atP_no hf hv))
          clear hc hf hv HF
          go_wp2
          exact ⟨⟨k + 1, by omega, by go_num, HF2, by first | trivial | rfl⟩, by simp [intOf]; omega⟩
    · obtain rfl : k = n := by omega
      have hm := hideIt (mem_of_atP hlen HF.out)
      clear HF
      go_wp2
      go_ret
      exact ⟨retF hm.out, rfl⟩

set_option maxHeartbeats 1000000 in
theorem idxI_any (ls : List Int) (v : Int) (n : Nat) (a : Option Addr) (c : Nat) (hn : n ≤ 3000000) (w : World) (h : Is w w.heap.size a n ls) :
    Calls Try.prog 109 #[.slice a n c, .int .i64 v] w fun e w' => e = .returned (.int .i64 (fstI ls v)) ∧ w' = w := by
  obtain ⟨hlen, hrow⟩ := h
  have HR := hideIt hrow
  have HL := hideIt hlen
  clear hrow
  go_enter Try.func109, Try.ntmps109
  go_wp2
  go_loopw [8] (fun i wr => ∃ (k : Nat), k ≤ n ∧ i = .int .i64 (k : Int) ∧ Hid (∀ j, j < k → atP ls v j = false) ∧ wr = w) (fun i _ => n - (intOf i).toNat)
  case atStart => exact ⟨0, by omega, rfl, fun j hj => by omega, rfl⟩
  case round =>
    obtain ⟨k, hk, rfl, HF, hw⟩ := hrel
    have hw' := hw.symm
    subst hw'
    clear hw
    by_cases hlt : k < n
    · rcases HR.out with hz | ⟨b, off, rfl, hbl, hc⟩
      · omega
      · obtain ⟨f, hf⟩ : ∃ f, ls[k]? = some f := ⟨ls[k]'(by omega), List.getElem?_eq_getElem (by omega)⟩
        have e0 := hc k f hf
        have b1 : (0 : Int) ≤ (k : Int) := by omega
        have b2 : (k : Int) < (n : Int) := by omega
        by_cases hv : v = f
        · have d1 : (v == f) = true := by simpa using hv
          have hm := hideIt (show fstI ls v = (k : Int) from firstN_yes (by omega) (atP_yes (hv ▸ hf)) HF.out)
          clear hc hf hv HF
          go_wp2
          go_ret
          exact ⟨retI hm.out, rfl⟩
        · have d1 : (v == f) = false := by simpa using hv
          have HF2 := hideIt (all_step HF.out (atP_no hf (fun e => hv e.symm)))
          clear hc hf hv HF
          go_wp2
          exact ⟨⟨k + 1, by omega, by go_num, HF2, by first | trivial | rfl⟩, by simp [intOf]; omega⟩
    · obtain rfl : k = n := by omega
      have hm := hideIt (show fstI ls v = -1 from firstN_no (by rw [hlen]; exact HF.out))
      clear HF
      go_wp2
      go_ret
      exact ⟨retI hm.out, rfl⟩

theorem conI_any (ls : List Int) (v : Int) (n : Nat) (a : Option Addr) (c : Nat) (hn : n ≤ 3000000) (w : World) (h : Is w w.heap.size a n ls) :
    Calls Try.prog 93 #[.slice a n c, .int .i64 v] w fun e w' => e = .returned (.bool (decide (v ∈ ls))) ∧ w' = w := by
  have HI := hideIt (idxI_any ls v n a c hn w h)
  have HM := hideIt (fstI_mem ls v)
  clear h
  go_enter Try.func93, Try.ntmps93
  go_wp2_with (go_at_call 109; refine HI.out.mono ?_; rintro e w1 ⟨rfl, rfl⟩)
  go_ret
  refine ⟨?_, rfl⟩
  have := HM.out
  rw [decide_eq_decide] at this
  exact bret (by
    constructor
    · intro h0
      exact Classical.byContradiction fun hm => by have := this.2 hm; omega
    · intro hm
      exact Classical.byContradiction fun h0 => this.1 (by omega) hm)

end Go.Proofs.Ytcpffonenhhfoab
