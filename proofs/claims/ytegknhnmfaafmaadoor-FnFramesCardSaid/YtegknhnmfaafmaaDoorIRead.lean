/- What the program's ReadVar answers at every text and place. -/
import Derived.Test.YtegknhnmfaafmaaDoorMem
import Derived.Test.YtegknhnmfaafmaaDoorRv
import Derived.WalkSpells
import Derived.BigQuiet
import Derived.Deep.QuietTactic
namespace Go.Proofs.YtegknhnmfaafmaaDoor
open Go.RowKit Vt

/-- the text's bytes from a on -/
def from_ (s : ByteArray) (a : Nat) : List UInt8 := s.data.toList.drop a

theorem from_length (s : ByteArray) (a : Nat) : (from_ s a).length = s.size - a := by simp [from_]

theorem from_at (s : ByteArray) (a k : Nat) (h : a + k < s.size) : (from_ s a)[k]? = some (s[a + k]) := by
  unfold from_
  rw [List.getElem?_drop, List.getElem?_eq_getElem (by simpa using h)]
  rfl

theorem from_snoc (s : ByteArray) (a k : Nat) (h : a + k < s.size) : (from_ s a).take (k + 1) = (from_ s a).take k ++ [s[a + k]] := by
  rw [List.take_add_one, from_at s a k h]
  rfl

theorem from_cons (s : ByteArray) (a k : Nat) (h : a + k < s.size) : from_ s a = (from_ s a).take k ++ s[a + k] :: (from_ s a).drop (k + 1) := by
  conv => lhs; rw [← List.take_append_drop (k + 1) (from_ s a), from_snoc s a k h]
  simp

/-- what a reader of a number answers -/
def rvV : Option (Nat × Nat) → Value
  | none => .tuple #[.int .i64 0, .int .i64 0, .bool false]
  | some (n, j) => .tuple #[.int .i64 (n : Int), .int .i64 (j : Int), .bool true]

/-- what is known of the loop of a reader behind k bytes: u the unit, m the number -/
structure Rd (s : ByteArray) (a k u m : Nat) : Prop where
  k5 : k ≤ 5
  le : a + k ≤ s.size
  unit : u = 128 ^ k
  num : m = val ((from_ s a).take k)
  bigs : ∀ b ∈ (from_ s a).take k, big b = true

theorem Rd.start (s : ByteArray) (a : Nat) (h : a ≤ s.size) : Rd s a 0 1 0 := ⟨by omega, h, rfl, by simp [val], by simp⟩

theorem Rd.bounds {s : ByteArray} {a k u m : Nat} (h : Rd s a k u m) : 1 ≤ u ∧ u ≤ 34359738368 ∧ (k < 5 → u ≤ 268435456) ∧ (k = 5 → u = 34359738368) ∧ m < u := by
  have h1 := h.k5
  have hl : ((from_ s a).take k).length = k := by have := h.le; simp [from_length]; omega
  have hm : m < 128 ^ k := by have := val_lt ((from_ s a).take k); rw [hl] at this; rw [h.num]; exact this
  rw [h.unit]
  rcases (show k = 0 ∨ k = 1 ∨ k = 2 ∨ k = 3 ∨ k = 4 ∨ k = 5 by omega) with rfl | rfl | rfl | rfl | rfl | rfl <;> simp at hm ⊢ <;> omega

theorem Rd.step {s : ByteArray} {a k u m : Nat} (h : Rd s a k u m) (hk : a + k < s.size) (h5 : k < 5) (hb : 128 ≤ (s[a + k]).toNat) : Rd s a (k + 1) (u * 128) (m + (s[a + k]).toNat % 128 * u) := by
  have hl : ((from_ s a).take k).length = k := by simp [from_length]; omega
  refine ⟨by omega, by omega, by rw [h.unit, Nat.pow_succ], ?_, ?_⟩
  · rw [from_snoc s a k hk, val_snoc, hl, ← h.unit, ← h.num]
  · rw [from_snoc s a k hk]
    intro b hb'
    rcases List.mem_append.1 hb' with h' | h'
    · exact h.bigs b h'
    · simp at h'; subst h'; simp [big, hb]

theorem Rd.last {s : ByteArray} {a k u m : Nat} (h : Rd s a k u m) (hk : a + k < s.size) (h5 : k < 5) (hb : (s[a + k]).toNat < 128) :
    rv a (from_ s a) = (if ¬ ((s[a + k]).toNat = 0 ∧ 0 < k) ∧ m + (s[a + k]).toNat % 128 * u ≤ 1000000000 then some (m + (s[a + k]).toNat % 128 * u, a + k + 1) else none) := by
  have hl : ((from_ s a).take k).length = k := by simp [from_length]; omega
  rw [from_cons s a k hk, rv_at a _ h.bigs _ (by simp [big]; omega), hl, val_snoc, hl, ← h.unit, ← h.num]
  simp only [h5, true_and]

theorem Rd.last_none {s : ByteArray} {a k u m : Nat} (h : Rd s a k u m) (hk : a + k < s.size) (h5 : k < 5) (hb : (s[a + k]).toNat < 128)
    (hc : ((s[a + k]).toNat = 0 ∧ 0 < k) ∨ 1000000000 < m + (s[a + k]).toNat % 128 * u) : rv a (from_ s a) = none := by
  rw [h.last hk h5 hb, if_neg]
  intro hx
  rcases hc with hc | hc
  · exact hx.1 hc
  · omega

theorem Rd.last_some {s : ByteArray} {a k u m : Nat} (h : Rd s a k u m) (hk : a + k < s.size) (h5 : k < 5) (hb : (s[a + k]).toNat < 128)
    (hc : ¬ ((s[a + k]).toNat = 0 ∧ 0 < k)) (hn : m + (s[a + k]).toNat % 128 * u ≤ 1000000000) : rv a (from_ s a) = some (m + (s[a + k]).toNat % 128 * u, a + k + 1) := by
  rw [h.last hk h5 hb, if_pos ⟨hc, hn⟩]

theorem Rd.last_zero {s : ByteArray} {a k u m : Nat} (h : Rd s a k u m) (hk : a + k < s.size) (h5 : k < 5) (hb : (s[a + k]).toNat = 0) (h0 : ¬ 0 < k) :
    rv a (from_ s a) = some (m, a + k + 1) := by
  have hm := h.bounds.2.2.1 h5
  have hm2 := h.bounds.2.2.2.2
  have := h.last_some hk h5 (by omega) (by omega) (by rw [hb]; omega)
  rw [this, hb]
  simp

theorem int_num (c u m : Nat) : ((m + c % 128 * u : Nat) : Int) = (m : Int) + (c : Int) % 128 * (u : Int) := by simp

theorem Rd.out {s : ByteArray} {a k u m : Nat} (h : Rd s a k u m) (hk : ¬ (a + k < s.size ∧ k < 5)) : rv a (from_ s a) = none := by
  have h1 := h.k5
  have h2 := h.le
  by_cases hc : k < 5
  · have : (from_ s a).take k = from_ s a := List.take_of_length_le (by rw [from_length]; omega)
    have hb := h.bigs
    rw [this] at hb
    exact rv_all a _ hb
  · rw [← List.take_append_drop k (from_ s a)]
    exact rv_five a _ _ h.bigs (by simp [from_length]; omega)

/-- the reading of a number at any place -/
def rvI (s : ByteArray) (a : Int) : Option (Nat × Nat) := if 0 ≤ a ∧ a ≤ s.size then rv a.toNat (from_ s a.toNat) else none

theorem rvI_some {s : ByteArray} {a : Int} {n j : Nat} (h : rvI s a = some (n, j)) : n ≤ 1000000000 ∧ j ≤ s.size := by
  unfold rvI at h
  split at h
  · rename_i hc
    have := rv_some h
    rw [from_length] at this
    omega
  · cases h

theorem iReadVar_out (s : ByteArray) (hs : s.size ≤ 1048576) (a : Int) (h : a < 0 ∨ s.size < a) (w : World) :
    Calls Tryd.prog 41 #[.string s, .int .i64 a] w fun e w' => e = .returned (rvV none) ∧ w' = w := by
  unfold rvV
  rcases h with h | h
  · have d1 : decide (a < 0) = true := by simp [h]
    go_enter Tryd.func41, Tryd.ntmps41
    go_wp2
    go_ret3
    exact ⟨rfl, rfl⟩
  · have d1 : decide (a < 0) = false := by simp; omega
    go_enter Tryd.func41, Tryd.ntmps41
    go_wp2
    go_ret3
    exact ⟨rfl, rfl⟩

theorem mul_bounds (c U : Nat) (hU : U ≤ 268435456) : (0 : Int) ≤ (c : Int) % 128 * (U : Int) ∧ (c : Int) % 128 * (U : Int) ≤ 34091302912 := by
  have h : c % 128 * U ≤ 127 * 268435456 := Nat.mul_le_mul (by omega) hU
  have e : ((c % 128 * U : Nat) : Int) = (c : Int) % 128 * (U : Int) := by simp
  omega

set_option maxHeartbeats 1000000 in
theorem iReadVar_in (s : ByteArray) (hs : s.size ≤ 1048576) (a : Nat) (h : a ≤ s.size) (w : World) :
    Calls Tryd.prog 41 #[.string s, .int .i64 (a : Int)] w fun e w' => e = .returned (rvV (rv a (from_ s a))) ∧ w' = w := by
  have d1 : decide ((a : Int) < 0) = false := by simp
  have d2 : decide (s.size < a) = false := by simp; omega
  go_enter Tryd.func41, Tryd.ntmps41
  go_wp2
  go_loop [7, 8, 9] (fun n i u => ∃ k U m : Nat, n = .int .i64 m ∧ i = .int .i64 ((a + k : Nat) : Int) ∧ u = .int .i64 U ∧ Rd s a k U m)
    (fun _ i _ => s.size - (intOf i).toNat)
  case atStart => exact ⟨0, 1, 0, rfl, rfl, rfl, Rd.start s a h⟩
  case round =>
    obtain ⟨k, U, m, rfl, rfl, rfl, hr⟩ := hrel
    have hbd := hr.bounds
    have hk5 := hr.k5
    have hle := hr.le
    have hmU : m < U := hbd.2.2.2.2
    by_cases hlt : a + k < s.size
    · by_cases h5 : k < 5
      · have hU : U ≤ 268435456 := hbd.2.2.1 h5
        have hq := mul_bounds (s[a + k]).toNat U hU
        have hc := UInt8.toNat_lt (s[a + k])
        clear hbd
        by_cases hb : (s[a + k]).toNat < 128
        · by_cases hz : (s[a + k]).toNat ≤ 0
          · by_cases hk : 0 < k
            · have HO : Hid _ := hr.last_none hlt h5 hb (.inl ⟨by omega, hk⟩)
              go_wp2
              go_ret3
              exact ⟨by rw [HO.out]; rfl, rfl⟩
            · have HO : Hid _ := hr.last_zero hlt h5 (by omega) hk
              go_wp2
              go_ret3
              exact ⟨by rw [HO.out]; rfl, rfl⟩
          · by_cases hn : (m : Int) + ((s[a + k]).toNat : Int) % 128 * (U : Int) ≤ 1000000000
            · have HO : Hid _ := hr.last_some hlt h5 hb (by omega) (by rw [← int_num] at hn; omega)
              go_wp2
              go_ret3
              exact ⟨by rw [HO.out]; simp [rvV], rfl⟩
            · have HO : Hid _ := hr.last_none hlt h5 hb (.inr (by rw [← int_num] at hn; omega))
              go_wp2
              go_ret3
              exact ⟨by rw [HO.out]; rfl, rfl⟩
        · have HR := hr.step hlt h5 (by omega)
          go_wp2
          go_round
          case rel => exact ⟨k + 1, U * 128, m + (s[a + k]).toNat % 128 * U, by simp, by go_num, by simp, HR⟩
          case measure => simp [intOf]; omega
      · have hU : 1000000000 < U := by have := hbd.2.2.2.1 (by omega); omega
        have HO : Hid _ := hr.out (by omega)
        clear hbd
        go_wp2
        go_ret3
        exact ⟨by rw [HO.out]; rfl, rfl⟩
    · have HO : Hid _ := hr.out (by omega)
      clear hbd
      go_wp2
      go_ret3
      exact ⟨by rw [HO.out]; rfl, rfl⟩

theorem iReadVar_any (s : ByteArray) (hs : s.size ≤ 1048576) (a : Int) (w : World) :
    Calls Tryd.prog 41 #[.string s, .int .i64 a] w fun e w' => e = .returned (rvV (rvI s a)) ∧ w' = w := by
  by_cases h : 0 ≤ a ∧ a ≤ s.size
  · obtain ⟨n, rfl⟩ := Int.eq_ofNat_of_zero_le h.1
    have e : rvI s (n : Int) = rv n (from_ s n) := by unfold rvI; rw [if_pos h, Int.toNat_natCast]
    rw [e]
    exact iReadVar_in s hs n (by omega) w
  · have e : rvI s a = none := by unfold rvI; rw [if_neg h]
    rw [e]
    exact iReadVar_out s hs a (by omega) w

end Go.Proofs.YtegknhnmfaafmaaDoor
