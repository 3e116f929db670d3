/- Plain mathematics on numbers in bytes: no program is named here. Plain mathematics on reading a number out of bytes: no program is named here. What the program's ReadVar answers at every text and place. A number's shortest form is read back. The specification's GraphOk and HasEdge. Orders and answers as bytes, and how they are read: no program is named here. -/
import Derived.WalkKit
import Derived.Test.YtcieanhbipbhgaaGreatDoorKMem
import Derived.WalkSpells
import Derived.BigQuiet
import Derived.Deep.QuietTactic
namespace Go.Proofs.YtcieanhbipbhgaaGreatDoor.Vt

def vtF : Nat → Nat → List UInt8
  | 0, n => [UInt8.ofNat n]
  | f + 1, n => if n < 128 then [UInt8.ofNat n] else UInt8.ofNat (n % 128 + 128) :: vtF f (n / 128)

def vt (n : Nat) : List UInt8 := vtF n n

theorem vtF_any (f : Nat) : ∀ (g n : Nat), n ≤ f → n ≤ g → vtF f n = vtF g n := by
  induction f with
  | zero =>
    intro g n hf hg
    have : n = 0 := by omega
    subst this
    cases g with
    | zero => rfl
    | succ g => simp [vtF]
  | succ f ih =>
    intro g n hf hg
    cases g with
    | zero =>
      have : n = 0 := by omega
      subst this
      simp [vtF]
    | succ g =>
      simp only [vtF]
      by_cases h : n < 128
      · rw [if_pos h, if_pos h]
      · rw [if_neg h, if_neg h, ih g (n / 128) (by omega) (by omega)]

theorem vt_small (n : Nat) (h : n < 128) : vt n = [UInt8.ofNat n] := by
  unfold vt
  cases n with
  | zero => rfl
  | succ n => simp only [vtF]; rw [if_pos h]

theorem vt_big (n : Nat) (h : ¬ n < 128) : vt n = UInt8.ofNat (n % 128 + 128) :: vt (n / 128) := by
  unfold vt
  cases n with
  | zero => omega
  | succ n =>
    simp only [vtF]
    rw [if_neg h, vtF_any n ((n + 1) / 128) ((n + 1) / 128) (by omega) (by omega)]

theorem vt_length (f : Nat) : ∀ n, n ≤ f → (vt n).length ≤ n + 1 := by
  induction f with
  | zero => intro n h; rw [vt_small n (by omega)]; simp
  | succ f ih =>
    intro n h
    by_cases h1 : n < 128
    · rw [vt_small n h1]; simp
    · rw [vt_big n h1]
      have := ih (n / 128) (by omega)
      simp only [List.length_cons]
      omega

theorem vt_pos (n : Nat) : 0 < (vt n).length := by
  by_cases h : n < 128
  · rw [vt_small n h]; simp
  · rw [vt_big n h]; simp

end Go.Proofs.YtcieanhbipbhgaaGreatDoor.Vt
namespace Go.Proofs.YtcieanhbipbhgaaGreatDoor.Vt

def big (c : UInt8) : Bool := decide (128 ≤ c.toNat)

def val : List UInt8 → Nat
  | [] => 0
  | c :: r => c.toNat % 128 + 128 * val r

theorem val_snoc (p : List UInt8) (c : UInt8) : val (p ++ [c]) = val p + c.toNat % 128 * 128 ^ p.length := by
  induction p with
  | nil => simp [val]
  | cons b p ih =>
    simp only [List.cons_append, val, ih, List.length_cons, Nat.pow_succ]
    rw [Nat.mul_add, Nat.add_assoc]
    congr 2
    rw [Nat.mul_comm 128, Nat.mul_assoc]

theorem val_lt (p : List UInt8) : val p < 128 ^ p.length := by
  induction p with
  | nil => simp [val]
  | cons b p ih =>
    simp only [val, List.length_cons, Nat.pow_succ]
    omega

/-- the number that stands at the head of L, and the place behind it -/
def rv (a : Nat) (L : List UInt8) : Option (Nat × Nat) :=
  match L.dropWhile big with
  | [] => none
  | c :: _ =>
    if (L.takeWhile big).length < 5 ∧ ¬ (c.toNat = 0 ∧ 0 < (L.takeWhile big).length) ∧ val (L.takeWhile big ++ [c]) ≤ 1000000000 then some (val (L.takeWhile big ++ [c]), a + (L.takeWhile big).length + 1) else none

theorem split_at (p : List UInt8) (hp : ∀ b ∈ p, big b = true) (c : UInt8) (hc : big c = false) (r : List UInt8) :
    (p ++ c :: r).takeWhile big = p ∧ (p ++ c :: r).dropWhile big = c :: r := by
  induction p with
  | nil => simp [hc]
  | cons b p ih =>
    have hb := hp b (by simp)
    have := ih (fun x hx => hp x (by simp [hx]))
    simp [hb, this.1, this.2]

theorem rv_at (a : Nat) (p : List UInt8) (hp : ∀ b ∈ p, big b = true) (c : UInt8) (hc : big c = false) (r : List UInt8) :
    rv a (p ++ c :: r) = if p.length < 5 ∧ ¬ (c.toNat = 0 ∧ 0 < p.length) ∧ val (p ++ [c]) ≤ 1000000000 then some (val (p ++ [c]), a + p.length + 1) else none := by
  have h := split_at p hp c hc r
  unfold rv
  rw [h.1, h.2]

theorem rv_all (a : Nat) (p : List UInt8) (hp : ∀ b ∈ p, big b = true) : rv a p = none := by
  have : p.dropWhile big = [] := by
    induction p with
    | nil => rfl
    | cons b p ih =>
      rw [List.dropWhile_cons_of_pos (hp b (by simp))]
      exact ih (fun x hx => hp x (by simp [hx]))
  unfold rv
  rw [this]

theorem rv_five (a : Nat) (p r : List UInt8) (hp : ∀ b ∈ p, big b = true) (h5 : 5 ≤ p.length) : rv a (p ++ r) = none := by
  induction r generalizing p with
  | nil => rw [List.append_nil]; exact rv_all a p hp
  | cons c r ih =>
    by_cases hc : big c = true
    · have := ih (p ++ [c]) (by intro b hb; rcases List.mem_append.1 hb with h | h; exact hp b h; simp at h; subst h; exact hc) (by simp; omega)
      simpa using this
    · rw [rv_at a p hp c (by simpa using hc) r, if_neg (by omega)]

theorem rv_some {a : Nat} {L : List UInt8} {n j : Nat} (h : rv a L = some (n, j)) : n ≤ 1000000000 ∧ a < j ∧ j ≤ a + L.length := by
  unfold rv at h
  split at h
  · cases h
  · rename_i c r hd
    split at h
    · rename_i hc
      simp only [Option.some.injEq, Prod.mk.injEq] at h
      obtain ⟨rfl, rfl⟩ := h
      have e : L.takeWhile big ++ L.dropWhile big = L := List.takeWhile_append_dropWhile
      have hl : (L.takeWhile big).length + (L.dropWhile big).length = L.length := by rw [← List.length_append, e]
      rw [hd] at hl
      simp at hl
      omega
    · cases h

/-- the shortest form of a number is just what is read, where its last byte is no needless nought -/
theorem vt_val (p : List UInt8) (hp : ∀ b ∈ p, big b = true) (c : UInt8) (hc : big c = false) :
    vt (val (p ++ [c])) = p ++ [c] ↔ ¬ (c.toNat = 0 ∧ 0 < p.length) := by
  have hc' : c.toNat < 128 := by simpa [big] using hc
  induction p with
  | nil =>
    simp only [List.nil_append, val, List.length_nil, Nat.lt_irrefl, and_false, not_false_eq_true, iff_true]
    rw [vt_small _ (by omega)]
    congr 1
    apply UInt8.toNat_inj.1
    simp
    omega
  | cons b p ih =>
    have hb : 128 ≤ b.toNat := by simpa [big] using hp b (by simp)
    have hb2 := UInt8.toNat_lt b
    have ih := ih (fun x hx => hp x (by simp [hx]))
    have hbb : UInt8.ofNat (b.toNat % 128 + 128) = b := by
      apply UInt8.toNat_inj.1
      simp
      omega
    simp only [List.cons_append, val, List.length_cons]
    have hv : c.toNat ≠ 0 → 0 < val (p ++ [c]) := by
      intro h
      rw [val_snoc]
      have : 0 < 128 ^ p.length := Nat.pow_pos (by omega)
      have : 0 < c.toNat % 128 * 128 ^ p.length := Nat.mul_pos (by omega) this
      omega
    by_cases h0 : val (p ++ [c]) = 0
    · have hz : c.toNat = 0 := by
        by_cases h : c.toNat = 0
        · exact h
        · have := hv h; omega
      rw [h0, vt_small _ (by omega)]
      constructor
      · intro h
        have := congrArg List.length h
        simp at this
      · intro h
        exact absurd ⟨hz, by omega⟩ h
    · rw [vt_big _ (by omega)]
      have e1 : (b.toNat % 128 + 128 * val (p ++ [c])) % 128 = b.toNat % 128 := by omega
      have e2 : (b.toNat % 128 + 128 * val (p ++ [c])) / 128 = val (p ++ [c]) := by omega
      rw [e1, e2, hbb]
      simp only [List.cons.injEq, true_and]
      refine Iff.trans ih ?_
      constructor
      · intro h h2
        by_cases hp0 : 0 < p.length
        · exact h ⟨h2.1, hp0⟩
        · have : p = [] := List.length_eq_zero_iff.1 (by omega)
          subst this
          simp [val] at h0
          omega
      · intro h h2
        exact h ⟨h2.1, by omega⟩

end Go.Proofs.YtcieanhbipbhgaaGreatDoor.Vt
namespace Go.Proofs.YtcieanhbipbhgaaGreatDoor
open Go.RowKit Vt

/-- the text's bytes from a on -/
def from_ (s : ByteArray) (a : Nat) : List UInt8 := s.data.toList.drop a

theorem from_length (s : ByteArray) (a : Nat) : (from_ s a).length = s.size - a := by simp [from_]

theorem from_at (s : ByteArray) (a k : Nat) (h : a + k < s.size) : (from_ s a)[k]? = some (s[a + k]) := by
  unfold from_
  rw [List.getElem?_drop, List.getElem?_eq_getElem (by simpa using h)]
  rfl

theorem from_snoc (s : ByteArray) (a k : Nat) (h : a + k < s.size) : (from_ s a).take (k + 1) = (from_ s a).take k ++ [s[a + k]] := by
  rw [List.take_add_one, from_at s a k h]
  rfl

theorem from_cons (s : ByteArray) (a k : Nat) (h : a + k < s.size) : from_ s a = (from_ s a).take k ++ s[a + k] :: (from_ s a).drop (k + 1) := by
  conv => lhs; rw [← List.take_append_drop (k + 1) (from_ s a), from_snoc s a k h]
  simp

/-- what a reader of a number answers -/
def rvV : Option (Nat × Nat) → Value
  | none => .tuple #[.int .i64 0, .int .i64 0, .bool false]
  | some (n, j) => .tuple #[.int .i64 (n : Int), .int .i64 (j : Int), .bool true]

/-- what is known of the loop of a reader behind k bytes: u the unit, m the number -/
structure Rd (s : ByteArray) (a k u m : Nat) : Prop where
  k5 : k ≤ 5
  le : a + k ≤ s.size
  unit : u = 128 ^ k
  num : m = val ((from_ s a).take k)
  bigs : ∀ b ∈ (from_ s a).take k, big b = true

theorem Rd.start (s : ByteArray) (a : Nat) (h : a ≤ s.size) : Rd s a 0 1 0 := ⟨by omega, h, rfl, by simp [val], by simp⟩

theorem Rd.bounds {s : ByteArray} {a k u m : Nat} (h : Rd s a k u m) : 1 ≤ u ∧ u ≤ 34359738368 ∧ (k < 5 → u ≤ 268435456) ∧ (k = 5 → u = 34359738368) ∧ m < u := by
  have h1 := h.k5
  have hl : ((from_ s a).take k).length = k := by have := h.le; simp [from_length]; omega
  have hm : m < 128 ^ k := by have := val_lt ((from_ s a).take k); rw [hl] at this; rw [h.num]; exact this
  rw [h.unit]
  rcases (show k = 0 ∨ k = 1 ∨ k = 2 ∨ k = 3 ∨ k = 4 ∨ k = 5 by omega) with rfl | rfl | rfl | rfl | rfl | rfl <;> simp at hm ⊢ <;> omega

theorem Rd.step {s : ByteArray} {a k u m : Nat} (h : Rd s a k u m) (hk : a + k < s.size) (h5 : k < 5) (hb : 128 ≤ (s[a + k]).toNat) : Rd s a (k + 1) (u * 128) (m + (s[a + k]).toNat % 128 * u) := by
  have hl : ((from_ s a).take k).length = k := by simp [from_length]; omega
  refine ⟨by omega, by omega, by rw [h.unit, Nat.pow_succ], ?_, ?_⟩
  · rw [from_snoc s a k hk, val_snoc, hl, ← h.unit, ← h.num]
  · rw [from_snoc s a k hk]
    intro b hb'
    rcases List.mem_append.1 hb' with h' | h'
    · exact h.bigs b h'
    · simp at h'; subst h'; simp [big, hb]

theorem Rd.last {s : ByteArray} {a k u m : Nat} (h : Rd s a k u m) (hk : a + k < s.size) (h5 : k < 5) (hb : (s[a + k]).toNat < 128) :
    rv a (from_ s a) = (if ¬ ((s[a + k]).toNat = 0 ∧ 0 < k) ∧ m + (s[a + k]).toNat % 128 * u ≤ 1000000000 then some (m + (s[a + k]).toNat % 128 * u, a + k + 1) else none) := by
  have hl : ((from_ s a).take k).length = k := by simp [from_length]; omega
  rw [from_cons s a k hk, rv_at a _ h.bigs _ (by simp [big]; omega), hl, val_snoc, hl, ← h.unit, ← h.num]
  simp only [h5, true_and]

theorem Rd.last_none {s : ByteArray} {a k u m : Nat} (h : Rd s a k u m) (hk : a + k < s.size) (h5 : k < 5) (hb : (s[a + k]).toNat < 128)
    (hc : ((s[a + k]).toNat = 0 ∧ 0 < k) ∨ 1000000000 < m + (s[a + k]).toNat % 128 * u) : rv a (from_ s a) = none := by
  rw [h.last hk h5 hb, if_neg]
  intro hx
  rcases hc with hc | hc
  · exact hx.1 hc
  · omega

theorem Rd.last_some {s : ByteArray} {a k u m : Nat} (h : Rd s a k u m) (hk : a + k < s.size) (h5 : k < 5) (hb : (s[a + k]).toNat < 128)
    (hc : ¬ ((s[a + k]).toNat = 0 ∧ 0 < k)) (hn : m + (s[a + k]).toNat % 128 * u ≤ 1000000000) : rv a (from_ s a) = some (m + (s[a + k]).toNat % 128 * u, a + k + 1) := by
  rw [h.last hk h5 hb, if_pos ⟨hc, hn⟩]

theorem Rd.last_zero {s : ByteArray} {a k u m : Nat} (h : Rd s a k u m) (hk : a + k < s.size) (h5 : k < 5) (hb : (s[a + k]).toNat = 0) (h0 : ¬ 0 < k) :
    rv a (from_ s a) = some (m, a + k + 1) := by
  have hm := h.bounds.2.2.1 h5
  have hm2 := h.bounds.2.2.2.2
  have := h.last_some hk h5 (by omega) (by omega) (by rw [hb]; omega)
  rw [this, hb]
  simp

theorem int_num (c u m : Nat) : ((m + c % 128 * u : Nat) : Int) = (m : Int) + (c : Int) % 128 * (u : Int) := by simp

theorem Rd.out {s : ByteArray} {a k u m : Nat} (h : Rd s a k u m) (hk : ¬ (a + k < s.size ∧ k < 5)) : rv a (from_ s a) = none := by
  have h1 := h.k5
  have h2 := h.le
  by_cases hc : k < 5
  · have : (from_ s a).take k = from_ s a := List.take_of_length_le (by rw [from_length]; omega)
    have hb := h.bigs
    rw [this] at hb
    exact rv_all a _ hb
  · rw [← List.take_append_drop k (from_ s a)]
    exact rv_five a _ _ h.bigs (by simp [from_length]; omega)

/-- the reading of a number at any place -/
def rvI (s : ByteArray) (a : Int) : Option (Nat × Nat) := if 0 ≤ a ∧ a ≤ s.size then rv a.toNat (from_ s a.toNat) else none

theorem rvI_some {s : ByteArray} {a : Int} {n j : Nat} (h : rvI s a = some (n, j)) : n ≤ 1000000000 ∧ j ≤ s.size := by
  unfold rvI at h
  split at h
  · rename_i hc
    have := rv_some h
    rw [from_length] at this
    omega
  · cases h

theorem iReadVar_out (s : ByteArray) (hs : s.size ≤ 1048576) (a : Int) (h : a < 0 ∨ s.size < a) (w : World) :
    Calls Tryz.prog 43 #[.string s, .int .i64 a] w fun e w' => e = .returned (rvV none) ∧ w' = w := by
  unfold rvV
  rcases h with h | h
  · have d1 : decide (a < 0) = true := by simp [h]
    go_enter Tryz.func43, Tryz.ntmps43
    go_wp2
    go_ret3
    exact ⟨rfl, rfl⟩
  · have d1 : decide (a < 0) = false := by simp; omega
    go_enter Tryz.func43, Tryz.ntmps43
    go_wp2
    go_ret3
    exact ⟨rfl, rfl⟩

theorem mul_bounds (c U : Nat) (hU : U ≤ 268435456) : (0 : Int) ≤ (c : Int) % 128 * (U : Int) ∧ (c : Int) % 128 * (U : Int) ≤ 34091302912 := by
  have h : c % 128 * U ≤ 127 * 268435456 := Nat.mul_le_mul (by omega) hU
  have e : ((c % 128 * U : Nat) : Int) = (c : Int) % 128 * (U : Int) := by simp
  omega

set_option maxHeartbeats 1000000 in
theorem iReadVar_in (s : ByteArray) (hs : s.size ≤ 1048576) (a : Nat) (h : a ≤ s.size) (w : World) :
    Calls Tryz.prog 43 #[.string s, .int .i64 (a : Int)] w fun e w' => e = .returned (rvV (rv a (from_ s a))) ∧ w' = w := by
  have d1 : decide ((a : Int) < 0) = false := by simp
  have d2 : decide (s.size < a) = false := by simp; omega
  go_enter Tryz.func43, Tryz.ntmps43
  go_wp2
  go_loop [7, 8, 9] (fun n i u => ∃ k U m : Nat, n = .int .i64 m ∧ i = .int .i64 ((a + k : Nat) : Int) ∧ u = .int .i64 U ∧ Rd s a k U m)
    (fun _ i _ => s.size - (intOf i).toNat)
  case atStart => exact ⟨0, 1, 0, rfl, rfl, rfl, Rd.start s a h⟩
  case round =>
    obtain ⟨k, U, m, rfl, rfl, rfl, hr⟩ := hrel
    have hbd := hr.bounds
    have hk5 := hr.k5
    have hle := hr.le
    have hmU : m < U := hbd.2.2.2.2
    by_cases hlt : a + k < s.size
    · by_cases h5 : k < 5
      · have hU : U ≤ 268435456 := hbd.2.2.1 h5
        have hq := mul_bounds (s[a + k]).toNat U hU
        have hc := UInt8.toNat_lt (s[a + k])
        clear hbd
        by_cases hb : (s[a + k]).toNat < 128
        · by_cases hz : (s[a + k]).toNat ≤ 0
          · by_cases hk : 0 < k
            · have HO : Hid _ := hr.last_none hlt h5 hb (.inl ⟨by omega, hk⟩)
              go_wp2
              go_ret3
              exact ⟨by rw [HO.out]; rfl, rfl⟩
            · have HO : Hid _ := hr.last_zero hlt h5 (by omega) hk
              go_wp2
              go_ret3
              exact ⟨by rw [HO.out]; rfl, rfl⟩
          · by_cases hn : (m : Int) + ((s[a + k]).toNat : Int) % 128 * (U : Int) ≤ 1000000000
            · have HO : Hid _ := hr.last_some hlt h5 hb (by omega) (by rw [← int_num] at hn; omega)
              go_wp2
              go_ret3
              exact ⟨by rw [HO.out]; simp [rvV], rfl⟩
            · have HO : Hid _ := hr.last_none hlt h5 hb (.inr (by rw [← int_num] at hn; omega))
              go_wp2
              go_ret3
              exact ⟨by rw [HO.out]; rfl, rfl⟩
        · have HR := hr.step hlt h5 (by omega)
          go_wp2
          go_round
          case rel => exact ⟨k + 1, U * 128, m + (s[a + k]).toNat % 128 * U, by simp, by go_num, by simp, HR⟩
          case measure => simp [intOf]; omega
      · have hU : 1000000000 < U := by have := hbd.2.2.2.1 (by omega); omega
        have HO : Hid _ := hr.out (by omega)
        clear hbd
        go_wp2
        go_ret3
        exact ⟨by rw [HO.out]; rfl, rfl⟩
    · have HO : Hid _ := hr.out (by omega)
      clear hbd
      go_wp2
      go_ret3
      exact ⟨by rw [HO.out]; rfl, rfl⟩

theorem iReadVar_any (s : ByteArray) (hs : s.size ≤ 1048576) (a : Int) (w : World) :
    Calls Tryz.prog 43 #[.string s, .int .i64 a] w fun e w' => e = .returned (rvV (rvI s a)) ∧ w' = w := by
  by_cases h : 0 ≤ a ∧ a ≤ s.size
  · obtain ⟨n, rfl⟩ := Int.eq_ofNat_of_zero_le h.1
    have e : rvI s (n : Int) = rv n (from_ s n) := by unfold rvI; rw [if_pos h, Int.toNat_natCast]
    rw [e]
    exact iReadVar_in s hs n (by omega) w
  · have e : rvI s a = none := by unfold rvI; rw [if_neg h]
    rw [e]
    exact iReadVar_out s hs a (by omega) w

end Go.Proofs.YtcieanhbipbhgaaGreatDoor
namespace Go.Proofs.YtcieanhbipbhgaaGreatDoor
open Go.RowKit Vt

theorem vt_split (f : Nat) : ∀ n, n ≤ f → ∃ (p : List UInt8) (c : UInt8), vt n = p ++ [c] ∧ (∀ b ∈ p, big b = true) ∧ big c = false ∧ val (vt n) = n := by
  induction f with
  | zero =>
    intro n h
    have e : n = 0 := by omega
    subst e
    exact ⟨[], 0, by rw [vt_small 0 (by omega)]; rfl, by simp, rfl, by rw [vt_small 0 (by omega)]; rfl⟩
  | succ f ih =>
    intro n h
    by_cases h1 : n < 128
    · refine ⟨[], UInt8.ofNat n, by rw [vt_small n h1]; rfl, by simp, by simp [big]; omega, ?_⟩
      rw [vt_small n h1]
      simp [val]
      omega
    · obtain ⟨p, c, hp, hb, hc, hv⟩ := ih (n / 128) (by omega)
      refine ⟨UInt8.ofNat (n % 128 + 128) :: p, c, by rw [vt_big n h1, hp]; rfl, ?_, hc, ?_⟩
      · intro b hbm
        rcases List.mem_cons.1 hbm with e | e
        · subst e; simp [big]; omega
        · exact hb b e
      · rw [vt_big n h1]
        simp only [val, hv]
        have : (UInt8.ofNat (n % 128 + 128)).toNat = n % 128 + 128 := by simp; omega
        rw [this]
        omega

theorem vt_len : ∀ (k n : Nat), n < 128 ^ (k + 1) → (vt n).length ≤ k + 1
  | 0, n, h => by rw [vt_small n (by simpa using h)]; simp
  | k + 1, n, h => by
    by_cases h1 : n < 128
    · rw [vt_small n h1]; simp
    · rw [vt_big n h1]
      have := vt_len k (n / 128) (by rw [Nat.pow_succ] at h; omega)
      simp
      omega

theorem rv_vt (a n : Nat) (r : List UInt8) (hn : n ≤ 1000000000) : rv a (vt n ++ r) = some (n, a + (vt n).length) := by
  obtain ⟨p, c, hp, hb, hc, hv⟩ := vt_split n n (Nat.le_refl _)
  have hl := vt_len 4 n (by have : (128 : Nat) ^ (4 + 1) = 34359738368 := by decide
                            omega)
  have hz := (vt_val p hb c hc).1 (by rw [← hp, hv])
  rw [hp] at hl hv ⊢
  simp at hl
  rw [List.append_assoc, List.singleton_append, rv_at a p hb c hc r, if_pos ⟨by omega, hz, by omega⟩, hv]
  simp
  omega

end Go.Proofs.YtcieanhbipbhgaaGreatDoor
namespace Go.Proofs.YtcieanhbipbhgaaGreatDoor
open Go.RowKit

/-- the one edge comes ahead of the other -/
def lt (d e : EdgeV) : Bool := decide (d.1 < e.1 ∨ d.1 = e.1 ∧ d.2 < e.2)

/-- the edge of place j is right, and comes behind the one ahead of it -/
def chkAt (n : Int) (es : List EdgeV) (j : Nat) : Bool :=
  match es[j]? with
  | none => true
  | some e => eB n e && (match j with
    | 0 => true
    | i + 1 => match es[i]? with
      | none => true
      | some d => lt d e)
/-- all of them are so -/
def chk (n : Int) (es : List EdgeV) : Bool := (List.range es.length).all (chkAt n es)
/-- the graph is right -/
def gB (N : Int) (es : List EdgeV) : Bool := decide (1 ≤ N ∧ N ≤ 12) && (chk N es && decide (es.length ≤ 66))

theorem chk_no {n : Int} {es : List EdgeV} {j : Nat} (hj : j < es.length) (h : chkAt n es j = false) : chk n es = false := by
  unfold chk
  rw [List.all_eq_false]
  exact ⟨j, List.mem_range.2 hj, by simp [h]⟩
theorem chk_yes {n : Int} {es : List EdgeV} (h : ∀ j, j < es.length → chkAt n es j = true) : chk n es = true := by
  unfold chk
  rw [List.all_eq_true]
  exact fun j hj => h j (List.mem_range.1 hj)
theorem chkAt_zero {n : Int} {es : List EdgeV} {e : EdgeV} (h : es[0]? = some e) : chkAt n es 0 = eB n e := by simp [chkAt, h]
theorem chkAt_succ {n : Int} {es : List EdgeV} {i : Nat} {d e : EdgeV} (h : es[i + 1]? = some e) (hd : es[i]? = some d) : chkAt n es (i + 1) = (eB n e && lt d e) := by simp only [chkAt, h, hd]
theorem chkAt_no {n : Int} {es : List EdgeV} {j : Nat} {e : EdgeV} (h : es[j]? = some e) (he : eB n e = false) : chkAt n es j = false := by simp only [chkAt, h, he, Bool.false_and]

theorem l05Less_any (d e : EdgeV) (w : World) :
    Calls Tryz.prog 75 #[.agg #[.int .i64 d.1, .int .i64 d.2], .agg #[.int .i64 e.1, .int .i64 e.2]] w fun x w' => x = .returned (.bool (lt d e)) ∧ Below w.heap.size w w' := by
  obtain ⟨a, b⟩ := d
  obtain ⟨c, f⟩ := e
  dsimp only
  by_cases h1 : a < c
  · have r1 : decide (a < c) = true := by simpa using h1
    go_enter Tryz.func75, Tryz.ntmps75
    go_wp2
    go_ret
    exact ⟨by simp [lt]; omega, ((Below.refl _ _).alloc (Nat.le_refl _) _).alloc (by simp) _⟩
  · have r1 : decide (a < c) = false := by simpa using h1
    by_cases h2 : a = c
    · subst h2
      go_enter Tryz.func75, Tryz.ntmps75
      go_wp2
      go_ret
      exact ⟨bret (by dsimp only; omega), ((Below.refl _ _).alloc (Nat.le_refl _) _).alloc (by simp) _⟩
    · have r2 : (a == c) = false := by simpa using h2
      go_enter Tryz.func75, Tryz.ntmps75
      go_wp2
      go_ret
      exact ⟨by simp [lt]; omega, ((Below.refl _ _).alloc (Nat.le_refl _) _).alloc (by simp) _⟩

set_option maxRecDepth 100000 in
set_option maxHeartbeats 2000000 in
theorem l05Edges_any (N : Int) (es : List EdgeV) (n : Nat) (a : Option Addr) (c : Nat) (hn : n ≤ 1048576) (w : World) (h : Es w w.heap.size a n es) :
    Calls Tryz.prog 66 #[.int .i64 N, .slice a n c] w fun e w' => e = .returned (.bool (chk N es && decide (es.length ≤ 66))) ∧ Below w.heap.size w w' := by
  obtain ⟨hlen, hrow⟩ := h
  have HR := hideIt hrow
  have HL := hideIt hlen
  clear hrow
  go_enter Tryz.func66, Tryz.ntmps66
  go_wp2
  go_loopw [5] (fun i wr => ∃ k : Nat, k ≤ n ∧ i = .int .i64 (k : Int) ∧ Hid (∀ j, j < k → chkAt N es j = true) ∧ Below w.heap.size w wr) (fun i _ => n - (intOf i).toNat)
  case atStart => exact ⟨0, by omega, rfl, fun j hj => by omega, Below.refl _ _⟩
  case round =>
    obtain ⟨k, hk, rfl, hck, hb⟩ := hrel
    by_cases hlt : k < n
    · rcases HR.out with hz | ⟨b, off, rfl, hbl, hc⟩
      · omega
      · obtain ⟨f, hf⟩ : ∃ f, es[k]? = some f := ⟨es[k]'(by omega), List.getElem?_eq_getElem (by omega)⟩
        obtain ⟨c0, c1⟩ := hc k f hf
        have e0 : wr.cell? ⟨b, off + k * 2, none⟩ = some (.int .i64 f.1) := by rw [hb.cell hbl]; exact c0
        have e1 : wr.cell? ⟨b, off + k * 2 + 1, none⟩ = some (.int .i64 f.2) := by rw [hb.cell hbl]; exact c1
        have b1 : (0 : Int) ≤ (k : Int) := by omega
        have b2 : (k : Int) < (n : Int) := by omega
        have hbd := hb.drew
        have HE : Hid (∀ W : World, Below w.heap.size w W → Calls Tryz.prog 74 #[.int .i64 N, .agg #[.int .i64 f.1, .int .i64 f.2]] W fun e w' => e = .returned (.bool (eB N f)) ∧ Below w.heap.size w w') := fun W hW =>
          (sEdgeOk_any N f W).mono fun _ _ ⟨he, hb'⟩ => ⟨he, hW.trans (hb'.mono hW.size)⟩
        have HK : Hid (∀ W : World, Below w.heap.size w W → (W.cell? ⟨b, off + k * 2, none⟩ = some (.int .i64 f.1) ∧ W.cell? ⟨b, off + k * 2 + 1, none⟩ = some (.int .i64 f.2))) := fun W hW =>
          ⟨by rw [hW.cell hbl]; exact c0, by rw [hW.cell hbl]; exact c1⟩
        cases hE : eB N f with
        | false =>
          rw [hE] at HE
          have HN := hideIt (chk_no (by omega : k < es.length) (chkAt_no hf hE))
          clear hf hc c0 c1 hE hck
          go_wp2
          refine wp_region_any (by kernel_rfl) ?_
          change wpAny _ _ _ _ _ _ _ (World.drew _)
          refine takeOp (i := 0) (v := ?_) rfl (by kernel_rfl) (by kernel_rfl) (by kernel_rfl) (fun _ _ _ h => h) (by kernel_rfl) ?_ ?_
          rotate_left
          · intro w; go_simp; try with_reducible rfl
          refine takeOp (i := 1) (v := ?_) rfl (by kernel_rfl) (by kernel_rfl) (by kernel_rfl) (fun _ _ _ h => h) (by kernel_rfl) ?_ ?_
          rotate_left
          · intro w; go_simp; try with_reducible rfl
          refine takeOp (i := 2) (v := ?_) rfl (by kernel_rfl) (by kernel_rfl) (by kernel_rfl) (fun _ _ _ h => h) (by kernel_rfl) ?_ ?_
          rotate_left
          · intro w; go_simp; try with_reducible rfl
          refine wpAny_ready (rs := [3]) (by kernel_rfl) (by simp) ?_
          refine AllReady.cons rfl (fun K hK => ?_) AllReady.nil
          go_simp
          refine hK _ _ ?_
          clear hK K
          refine wpAny_ready (rs := [4]) (by kernel_rfl) (by simp) ?_
          refine AllReady.cons rfl (fun K hK => ?_) AllReady.nil
          go_simp
          refine hK _ _ ?_
          clear hK K
          refine wpAny_ready (rs := [5]) (by kernel_rfl) (by simp) ?_
          refine AllReady.cons rfl (fun K hK => ?_) AllReady.nil
          go_wp2_with (go_at_call 74; refine (HE.out _ hbd).mono ?_; rintro e w1 ⟨rfl, hb3⟩; refine Hid.out ?_)
          refine (show ∀ {p : Prop}, p → Hid p from fun h => h) ?_
          try refine hK _ _ ?_
          clear hK K
          refine wpAny_ready (rs := [6]) (by kernel_rfl) (by simp) ?_
          refine AllReady.cons rfl (fun K hK => ?_) AllReady.nil
          go_simp
          refine hK _ _ ?_
          clear hK K
          refine wpAny_ready (rs := [7]) (by kernel_rfl) (by simp) ?_
          refine AllReady.cons rfl (fun K hK => ?_) AllReady.nil
          go_simp
          refine hK _ _ ?_
          clear hK K
          refine skipOp (i := 8) rfl (by kernel_rfl) (by kernel_rfl) (by kernel_rfl) (fun _ _ _ h => h) (by kernel_rfl) ?_
          refine skipOp (i := 9) rfl (by kernel_rfl) (by kernel_rfl) (by kernel_rfl) (fun _ _ _ h => h) (by kernel_rfl) ?_
          refine skipOp (i := 10) rfl (by kernel_rfl) (by kernel_rfl) (by kernel_rfl) (fun _ _ _ h => h) (by kernel_rfl) ?_
          refine skipOp (i := 11) rfl (by kernel_rfl) (by kernel_rfl) (by kernel_rfl) (fun _ _ _ h => h) (by kernel_rfl) ?_
          refine skipOp (i := 12) rfl (by kernel_rfl) (by kernel_rfl) (by kernel_rfl) (fun _ _ _ h => h) (by kernel_rfl) ?_
          refine skipOp (i := 13) rfl (by kernel_rfl) (by kernel_rfl) (by kernel_rfl) (fun _ _ _ h => h) (by kernel_rfl) ?_
          refine skipOp (i := 14) rfl (by kernel_rfl) (by kernel_rfl) (by kernel_rfl) (fun _ _ _ h => h) (by kernel_rfl) ?_
          refine skipOp (i := 15) rfl (by kernel_rfl) (by kernel_rfl) (by kernel_rfl) (fun _ _ _ h => h) (by kernel_rfl) ?_
          refine skipOp (i := 16) rfl (by kernel_rfl) (by kernel_rfl) (by kernel_rfl) (fun _ _ _ h => h) (by kernel_rfl) ?_
          refine skipOp (i := 17) rfl (by kernel_rfl) (by kernel_rfl) (by kernel_rfl) (fun _ _ _ h => h) (by kernel_rfl) ?_
          refine skipOp (i := 18) rfl (by kernel_rfl) (by kernel_rfl) (by kernel_rfl) (fun _ _ _ h => h) (by kernel_rfl) ?_
          refine skipOp (i := 19) rfl (by kernel_rfl) (by kernel_rfl) (by kernel_rfl) (fun _ _ _ h => h) (by kernel_rfl) ?_
          refine skipOp (i := 20) rfl (by kernel_rfl) (by kernel_rfl) (by kernel_rfl) (fun _ _ _ h => h) (by kernel_rfl) ?_
          refine skipOp (i := 21) rfl (by kernel_rfl) (by kernel_rfl) (by kernel_rfl) (fun _ _ _ h => h) (by kernel_rfl) ?_
          refine skipOp (i := 22) rfl (by kernel_rfl) (by kernel_rfl) (by kernel_rfl) (fun _ _ _ h => h) (by kernel_rfl) ?_
          refine wpAny_ready (rs := [23]) (by kernel_rfl) (by simp) ?_
          refine AllReady.cons rfl (fun K hK => ?_) AllReady.nil
          go_simp
          refine hK _ _ ?_
          clear hK K
          refine wpAny_done (by kernel_rfl) ?_ _
          go_wp2
          go_ret
          exact ⟨by rw [HN.out]; rfl, hb3⟩
        | true =>
          rw [hE] at HE
          rcases k with _ | i
          · have HY := hideIt (show chkAt N es 0 = true by rw [chkAt_zero hf]; exact hE)
            clear hf hc c0 c1 hE
            rw [Nat.zero_mul, Nat.add_zero] at e0 e1
            go_wp2
            refine wp_region_any (by kernel_rfl) ?_
            change wpAny _ _ _ _ _ _ _ (World.drew _)
            refine takeOp (i := 0) (v := ?_) rfl (by kernel_rfl) (by kernel_rfl) (by kernel_rfl) (fun _ _ _ h => h) (by kernel_rfl) ?_ ?_
            rotate_left
            · intro w; go_simp; try with_reducible rfl
            refine takeOp (i := 1) (v := ?_) rfl (by kernel_rfl) (by kernel_rfl) (by kernel_rfl) (fun _ _ _ h => h) (by kernel_rfl) ?_ ?_
            rotate_left
            · intro w; go_simp; try with_reducible rfl
            refine takeOp (i := 2) (v := ?_) rfl (by kernel_rfl) (by kernel_rfl) (by kernel_rfl) (fun _ _ _ h => h) (by kernel_rfl) ?_ ?_
            rotate_left
            · intro w; go_simp; try with_reducible rfl
            refine wpAny_ready (rs := [3]) (by kernel_rfl) (by simp) ?_
            refine AllReady.cons rfl (fun K hK => ?_) AllReady.nil
            go_simp
            refine hK _ _ ?_
            clear hK K
            refine wpAny_ready (rs := [4]) (by kernel_rfl) (by simp) ?_
            refine AllReady.cons rfl (fun K hK => ?_) AllReady.nil
            go_simp
            refine hK _ _ ?_
            clear hK K
            refine wpAny_ready (rs := [5]) (by kernel_rfl) (by simp) ?_
            refine AllReady.cons rfl (fun K hK => ?_) AllReady.nil
            go_wp2_with (go_at_call 74; refine (HE.out _ hbd).mono ?_; rintro e w1 ⟨rfl, hb3⟩; refine Hid.out ?_)
            refine (show ∀ {p : Prop}, p → Hid p from fun h => h) ?_
            try refine hK _ _ ?_
            clear hK K
            refine wpAny_ready (rs := [6]) (by kernel_rfl) (by simp) ?_
            refine AllReady.cons rfl (fun K hK => ?_) AllReady.nil
            go_simp
            refine hK _ _ ?_
            clear hK K
            refine wpAny_ready (rs := [7]) (by kernel_rfl) (by simp) ?_
            refine AllReady.cons rfl (fun K hK => ?_) AllReady.nil
            go_simp
            refine hK _ _ ?_
            clear hK K
            refine wpAny_ready (rs := [8]) (by kernel_rfl) (by simp) ?_
            refine AllReady.cons rfl (fun K hK => ?_) AllReady.nil
            go_simp
            refine hK _ _ ?_
            clear hK K
            refine wpAny_ready (rs := [9]) (by kernel_rfl) (by simp) ?_
            refine AllReady.cons rfl (fun K hK => ?_) AllReady.nil
            go_simp
            refine hK _ _ ?_
            clear hK K
            refine wpAny_ready (rs := [10]) (by kernel_rfl) (by simp) ?_
            refine AllReady.cons rfl (fun K hK => ?_) AllReady.nil
            go_simp
            refine hK _ _ ?_
            clear hK K
            refine skipOp (i := 11) rfl (by kernel_rfl) (by kernel_rfl) (by kernel_rfl) (fun _ _ _ h => h) (by kernel_rfl) ?_
            refine skipOp (i := 12) rfl (by kernel_rfl) (by kernel_rfl) (by kernel_rfl) (fun _ _ _ h => h) (by kernel_rfl) ?_
            refine skipOp (i := 13) rfl (by kernel_rfl) (by kernel_rfl) (by kernel_rfl) (fun _ _ _ h => h) (by kernel_rfl) ?_
            refine skipOp (i := 14) rfl (by kernel_rfl) (by kernel_rfl) (by kernel_rfl) (fun _ _ _ h => h) (by kernel_rfl) ?_
            refine skipOp (i := 15) rfl (by kernel_rfl) (by kernel_rfl) (by kernel_rfl) (fun _ _ _ h => h) (by kernel_rfl) ?_
            refine skipOp (i := 16) rfl (by kernel_rfl) (by kernel_rfl) (by kernel_rfl) (fun _ _ _ h => h) (by kernel_rfl) ?_
            refine skipOp (i := 17) rfl (by kernel_rfl) (by kernel_rfl) (by kernel_rfl) (fun _ _ _ h => h) (by kernel_rfl) ?_
            refine skipOp (i := 18) rfl (by kernel_rfl) (by kernel_rfl) (by kernel_rfl) (fun _ _ _ h => h) (by kernel_rfl) ?_
            refine skipOp (i := 19) rfl (by kernel_rfl) (by kernel_rfl) (by kernel_rfl) (fun _ _ _ h => h) (by kernel_rfl) ?_
            refine skipOp (i := 20) rfl (by kernel_rfl) (by kernel_rfl) (by kernel_rfl) (fun _ _ _ h => h) (by kernel_rfl) ?_
            refine skipOp (i := 21) rfl (by kernel_rfl) (by kernel_rfl) (by kernel_rfl) (fun _ _ _ h => h) (by kernel_rfl) ?_
            refine wpAny_ready (rs := [22]) (by kernel_rfl) (by simp) ?_
            refine AllReady.cons rfl (fun K hK => ?_) AllReady.nil
            go_simp
            refine hK _ _ ?_
            clear hK K
            refine wpAny_ready (rs := [23]) (by kernel_rfl) (by simp) ?_
            refine AllReady.cons rfl (fun K hK => ?_) AllReady.nil
            go_simp
            refine hK _ _ ?_
            clear hK K
            refine wpAny_done (by kernel_rfl) ?_ _
            go_wp2
            exact ⟨⟨1, by omega, by go_num, fun j hj => by
              obtain rfl : j = 0 := by omega
              exact HY.out, hb3⟩, by simp [intOf]; omega⟩
          · obtain ⟨d, hd⟩ : ∃ d, es[i]? = some d := ⟨es[i]'(by omega), List.getElem?_eq_getElem (by omega)⟩
            obtain ⟨c2, c3⟩ := hc i d hd
            have HK2 : Hid (∀ W : World, Below w.heap.size w W → (W.cell? ⟨b, off + i * 2, none⟩ = some (.int .i64 d.1) ∧ W.cell? ⟨b, off + i * 2 + 1, none⟩ = some (.int .i64 d.2))) := fun W hW =>
              ⟨by rw [hW.cell hbl]; exact c2, by rw [hW.cell hbl]; exact c3⟩
            have HC := hideIt (chkAt_succ (n := N) hf hd)
            have HL2 : Hid (∀ W : World, Below w.heap.size w W → Calls Tryz.prog 75 #[.agg #[.int .i64 d.1, .int .i64 d.2], .agg #[.int .i64 f.1, .int .i64 f.2]] W fun e w' => e = .returned (.bool (lt d f)) ∧ Below w.heap.size w w') := fun W hW =>
              (l05Less_any d f W).mono fun _ _ ⟨he, hb'⟩ => ⟨he, hW.trans (hb'.mono hW.size)⟩
            have HE0 := hideIt hE
            have ek : ((i + 1 : Nat) : Int) = (i : Int) + 1 := by omega
            rw [ek] at b1 b2
            have b3 : (0 : Int) ≤ (i : Int) := by omega
            have b4 : (i : Int) < (n : Int) := by omega
            have tn : ((i : Int) + 1).toNat = i + 1 := by omega
            have d0 : decide ((0 : Int) < (i : Int) + 1) = true := decide_eq_true (by omega)
            have hw1 : IntKind.i64.wrap (i : Int) = (i : Int) := by rw [IntKind.wrap_i64]; omega
            rw [ek]
            clear ek hf hd hc c0 c1 c2 c3 hE
            cases hL : lt d f with
            | true =>
              rw [hL] at HL2
              have HY := hideIt (show chkAt N es (i + 1) = true by rw [HC.out, HE0.out, hL]; rfl)
              clear HC hL HE0
              go_wp2
              go_region_held3 (fun u => Below w.heap.size w u ∧ (u.cell? ⟨b, off + (i + 1) * 2, none⟩ = some (.int .i64 f.1) ∧ u.cell? ⟨b, off + (i + 1) * 2 + 1, none⟩ = some (.int .i64 f.2)) ∧ u.cell? ⟨b, off + i * 2, none⟩ = some (.int .i64 d.1) ∧ u.cell? ⟨b, off + i * 2 + 1, none⟩ = some (.int .i64 d.2))
                (first | exact ⟨hb4, HK.out _ hb4, HK2.out _ hb4⟩ | exact ⟨hb3, HK.out _ hb3, HK2.out _ hb3⟩ | exact ⟨hbd, HK.out _ hbd, HK2.out _ hbd⟩)
                (first
                | (go_at_call 74; refine (HE.out _ hbd).mono ?_; rintro e w1 ⟨rfl, hb3⟩)
                | (go_at_call 75; refine (HL2.out _ hb3).mono ?_; rintro e w2 ⟨rfl, hb4⟩))
              all_goals
                go_wp2
                exact ⟨⟨i + 2, by omega, by go_num, fun j hj => by
                  by_cases hji : j = i + 1
                  · subst hji; exact HY.out
                  · exact hck.out j (by omega), hb4⟩, by simp [intOf]; omega⟩
            | false =>
              rw [hL] at HL2
              have HN := hideIt (chk_no (by omega : i + 1 < es.length) (show chkAt N es (i + 1) = false by rw [HC.out, HE0.out, hL]; rfl))
              clear HC hL HE0
              go_wp2
              go_region_held3 (fun u => Below w.heap.size w u ∧ (u.cell? ⟨b, off + (i + 1) * 2, none⟩ = some (.int .i64 f.1) ∧ u.cell? ⟨b, off + (i + 1) * 2 + 1, none⟩ = some (.int .i64 f.2)) ∧ u.cell? ⟨b, off + i * 2, none⟩ = some (.int .i64 d.1) ∧ u.cell? ⟨b, off + i * 2 + 1, none⟩ = some (.int .i64 d.2))
                (first | exact ⟨hb4, HK.out _ hb4, HK2.out _ hb4⟩ | exact ⟨hb3, HK.out _ hb3, HK2.out _ hb3⟩ | exact ⟨hbd, HK.out _ hbd, HK2.out _ hbd⟩)
                (first
                | (go_at_call 74; refine (HE.out _ hbd).mono ?_; rintro e w1 ⟨rfl, hb3⟩)
                | (go_at_call 75; refine (HL2.out _ hb3).mono ?_; rintro e w2 ⟨rfl, hb4⟩))
              all_goals
                go_wp2
                go_ret
                exact ⟨by rw [HN.out]; rfl, hb4⟩
    · have HY := hideIt (chk_yes (n := N) (es := es) (fun j hj => hck.out j (by omega)))
      clear hck
      go_wp2
      go_ret
      exact ⟨by rw [HY.out, HL.out]; simp; omega, hb⟩
end Go.Proofs.YtcieanhbipbhgaaGreatDoor
namespace Go.Proofs.YtcieanhbipbhgaaGreatDoor
open Go.RowKit Vt

/-- an order -/
structure OrdV where
  num : Int
  op : Int
  es : List EdgeV
  v : Int
/-- an answer -/
structure AnsV where
  num : Int
  ok : Bool
  es : List EdgeV
  ls : List Int

/-- so many right edges, ascending, and not too many -/
def eOk (n : Int) (es : List EdgeV) : Bool := chk n es && decide (es.length ≤ 66)
/-- what an order asks has the parts that it must have -/
def OpOk (n : Int) (o : OrdV) : Prop :=
  (o.op = 3 ∧ o.es.length = 0 ∧ 0 ≤ o.v ∧ o.v < n) ∨ (o.v = 0 ∧ (o.op = 1 ∨ o.op = 2) ∧ o.es.length = 1) ∨ (o.v = 0 ∧ o.op = 4 ∧ 0 < o.es.length)
instance (n : Int) (o : OrdV) : Decidable (OpOk n o) := by unfold OpOk; infer_instance
/-- the order is right -/
def oB (n : Int) (o : OrdV) : Bool := decide (1 ≤ n ∧ n ≤ 12) && (decide (1 ≤ o.num ∧ o.num ≤ 100000) && (eOk n o.es && decide (OpOk n o)))

/-- the label of this place is the label of itself -/
def lbAt (ls : List Int) (i : Nat) : Bool := match ls[i]? with
  | none => true
  | some x => decide (0 ≤ x ∧ x ≤ (i : Int)) && decide (ls[x.toNat]? = some x)
def lbs (ls : List Int) : Bool := (List.range ls.length).all (lbAt ls)
def lB (n : Int) (ls : List Int) : Bool := decide ((ls.length : Int) = n) && lbs ls
/-- the answer is right -/
def aB (n : Int) (a : AnsV) : Bool := decide (1 ≤ n ∧ n ≤ 12) && (decide (1 ≤ a.num ∧ a.num ≤ 100000) && (eOk n a.es && lB n a.ls))

theorem lbs_no {ls : List Int} {j : Nat} (hj : j < ls.length) (h : lbAt ls j = false) : lbs ls = false := by
  unfold lbs
  rw [List.all_eq_false]
  exact ⟨j, List.mem_range.2 hj, by simp [h]⟩
theorem lbs_yes {ls : List Int} (h : ∀ j, j < ls.length → lbAt ls j = true) : lbs ls = true := by
  unfold lbs
  rw [List.all_eq_true]
  exact fun j hj => h j (List.mem_range.1 hj)

/-- a number as one byte -/
def ob (x : Int) : UInt8 := UInt8.ofNat x.toNat
/-- edges as bytes -/
def eb (es : List EdgeV) : List UInt8 := es.flatMap fun e => [ob e.1, ob e.2]
/-- edges that are bytes -/
def EB8 (es : List EdgeV) : Prop := ∀ e ∈ es, (0 ≤ e.1 ∧ e.1 < 256) ∧ (0 ≤ e.2 ∧ e.2 < 256)
def et (es : List EdgeV) : List UInt8 := vt es.length ++ eb es
/-- an order's bytes -/
def oText (o : OrdV) : List UInt8 := vt o.num.toNat ++ (ob o.op :: (vt o.v.toNat ++ et o.es))
/-- an answer's bytes -/
def aText (a : AnsV) : List UInt8 := vt a.num.toNat ++ ((if a.ok then 1 else 0) :: (et a.es ++ a.ls.map ob))

theorem eb_cons (e : EdgeV) (es : List EdgeV) : eb (e :: es) = ob e.1 :: ob e.2 :: eb es := by simp [eb]
theorem eb_append (es fs : List EdgeV) : eb (es ++ fs) = eb es ++ eb fs := by simp [eb]
theorem eb_length (es : List EdgeV) : (eb es).length = es.length * 2 := by
  induction es with
  | nil => rfl
  | cons e es ih => rw [eb_cons]; simp only [List.length_cons, ih]; omega

theorem ob_nat (c : UInt8) : ob ((c.toNat : Nat) : Int) = c := by
  unfold ob
  rw [Int.toNat_natCast]
  exact UInt8.ofNat_toNat
theorem ob_back {x : Int} (h : 0 ≤ x ∧ x < 256) : (((ob x).toNat : Nat) : Int) = x := by
  unfold ob
  rw [UInt8.toNat_ofNat']
  omega

/-- bytes, two by two -/
def pairs : List UInt8 → List EdgeV
  | a :: b :: r => ((a.toNat : Int), (b.toNat : Int)) :: pairs r
  | _ => []

theorem pairs_eb : ∀ (es : List EdgeV) (_ : EB8 es), pairs (eb es) = es
  | [], _ => rfl
  | e :: es, h => by
    have he := h e (by simp)
    rw [eb_cons, pairs, ob_back he.1, ob_back he.2, pairs_eb es (fun f hf => h f (by simp [hf]))]

theorem eb_pairs : ∀ (k : Nat) (M : List UInt8), M.length = 2 * k → eb (pairs M) = M ∧ (pairs M).length = k ∧ EB8 (pairs M)
  | 0, M, h => by
    have : M = [] := List.length_eq_zero_iff.1 (by omega)
    subst this
    exact ⟨rfl, rfl, fun e he => by simp [pairs] at he⟩
  | k + 1, M, h => by
    match M, h with
    | [], h => simp at h
    | [_], h => simp at h; omega
    | a :: b :: r, h =>
      obtain ⟨h1, h2, h3⟩ := eb_pairs k r (by simp at h; omega)
      refine ⟨by rw [pairs, eb_cons, h1, ob_nat, ob_nat], by simp [pairs, h2], fun e he => ?_⟩
      simp only [pairs, List.mem_cons] at he
      rcases he with rfl | he
      · have := UInt8.toNat_lt a
        have := UInt8.toNat_lt b
        dsimp only
        omega
      · exact h3 e he

/-- a number is read off the head of a list -/
def pN (L : List UInt8) : Option (Nat × List UInt8) := (rv 0 L).map fun x => (x.1, L.drop x.2)
/-- a byte is -/
def pO : List UInt8 → Option (Nat × List UInt8)
  | [] => none
  | c :: r => some (c.toNat, r)

/-- a part is read where nothing has failed -/
def nx (f : List UInt8 → Option (Nat × List UInt8)) : Option (List UInt8) → Nat × Option (List UInt8)
  | none => (0, none)
  | some L => match f L with
    | none => (0, none)
    | some (n, r) => (n, some r)

theorem rv_from (a : Nat) (L : List UInt8) : rv a L = (rv 0 L).map fun x => (x.1, a + x.2) := by
  unfold rv
  split
  · rfl
  · split
    · simp; omega
    · rfl

theorem pN_vt (n : Nat) (r : List UInt8) (hn : n ≤ 1000000000) : pN (vt n ++ r) = some (n, r) := by
  unfold pN
  rw [rv_vt 0 n r hn]
  simp

theorem tw_big (L : List UInt8) : ∀ b ∈ L.takeWhile big, big b = true := by
  induction L with
  | nil => simp
  | cons a L ih =>
    intro b hb
    by_cases h : big a = true
    · rw [List.takeWhile_cons_of_pos h, List.mem_cons] at hb
      rcases hb with rfl | hb
      · exact h
      · exact ih b hb
    · rw [List.takeWhile_cons_of_neg h] at hb
      simp at hb
theorem dw_head {L : List UInt8} {c : UInt8} {r : List UInt8} (h : L.dropWhile big = c :: r) : big c = false := by
  induction L with
  | nil => simp at h
  | cons a L ih =>
    by_cases ha : big a = true
    · rw [List.dropWhile_cons_of_pos ha] at h
      exact ih h
    · rw [List.dropWhile_cons_of_neg ha] at h
      simp only [List.cons.injEq] at h
      rw [← h.1]
      simpa using ha

theorem pN_some {L : List UInt8} {n : Nat} {r : List UInt8} (h : pN L = some (n, r)) : L = vt n ++ r ∧ n ≤ 1000000000 := by
  unfold pN at h
  rw [Option.map_eq_some_iff] at h
  obtain ⟨⟨m, j⟩, h1, h2⟩ := h
  simp only [Prod.mk.injEq] at h2
  obtain ⟨rfl, rfl⟩ := h2
  have hb := rv_some h1
  refine ⟨?_, hb.1⟩
  unfold rv at h1
  split at h1
  · cases h1
  · rename_i c r' hd
    split at h1
    · rename_i hc
      simp only [Option.some.injEq, Prod.mk.injEq] at h1
      obtain ⟨rfl, rfl⟩ := h1
      have e : L.takeWhile big ++ L.dropWhile big = L := List.takeWhile_append_dropWhile
      have hbig := tw_big L
      have hcc := dw_head hd
      have hv := (vt_val _ hbig c hcc).2 hc.2.1
      rw [hv]
      conv => lhs; rw [← e, hd]
      have hL : L.drop (0 + (L.takeWhile big).length + 1) = r' := by
        have e2 : L = L.takeWhile big ++ c :: r' := by rw [← hd, e]
        rw [Nat.zero_add]
        generalize L.takeWhile big = p at e2
        subst e2
        clear hb hv hbig hc hd e hcc
        induction p with
        | nil => rfl
        | cons b p ih => simp
      rw [hL]
      simp
    · cases h1

theorem nx_pN_le (st : Option (List UInt8)) : (nx pN st).1 ≤ 1000000000 := by
  unfold nx
  split
  · omega
  · split
    · simp
    · rename_i h
      exact (pN_some h).2
theorem nx_pO_le (st : Option (List UInt8)) : (nx pO st).1 ≤ 255 := by
  unfold nx
  split
  · omega
  · rename_i L
    match L with
    | [] => simp [pO]
    | c :: r => simp [pO]; have := UInt8.toNat_lt c; omega

theorem nx_some {f : List UInt8 → Option (Nat × List UInt8)} {st : Option (List UInt8)} {n : Nat} {r : List UInt8} (h : nx f st = (n, some r)) : ∃ L, st = some L ∧ f L = some (n, r) := by
  unfold nx at h
  split at h
  · simp at h
  · split at h
    · simp at h
    · rename_i L _ _ _ hf
      simp at h
      obtain ⟨rfl, rfl⟩ := h
      exact ⟨L, rfl, hf⟩
theorem nx_of {f : List UInt8 → Option (Nat × List UInt8)} {L : List UInt8} {n : Nat} {r : List UInt8} (h : f L = some (n, r)) : nx f (some L) = (n, some r) := by
  unfold nx; dsimp only; rw [h]

/-- edges are read: as many as the number ahead of them says, if there are so many -/
def ER (st : Option (List UInt8)) (es : List EdgeV) (st' : Option (List UInt8)) : Prop :=
  match (nx pN st).2 with
  | none => st' = none
  | some L => if 66 < (nx pN st).1 then st' = none ∨ 66 < es.length else if L.length < 2 * (nx pN st).1 then st' = none else st' = some (L.drop (2 * (nx pN st).1)) ∧ es = pairs (L.take (2 * (nx pN st).1))

theorem ER.full {es0 es : List EdgeV} {r : List UInt8} {st' : Option (List UInt8)} (h : ER (some (et es0 ++ r)) es st') (hl : es0.length ≤ 66) (hb : EB8 es0) : es = es0 ∧ st' = some r := by
  have e : nx pN (some (et es0 ++ r)) = (es0.length, some (eb es0 ++ r)) := nx_of (by unfold et; rw [List.append_assoc]; exact pN_vt _ _ (by omega))
  have hle := eb_length es0
  unfold ER at h
  rw [e] at h
  dsimp only at h
  rw [if_neg (by omega), if_neg (by simp; omega)] at h
  obtain ⟨h1, h2⟩ := h
  have hq : 2 * es0.length = (eb es0).length := by omega
  rw [hq, List.drop_left] at h1
  rw [hq, List.take_left, pairs_eb es0 hb] at h2
  exact ⟨h2, h1⟩

theorem ER.sound {st : Option (List UInt8)} {es : List EdgeV} {r : List UInt8} (h : ER st es (some r)) (hl : es.length ≤ 66) : ∃ L, st = some L ∧ L = et es ++ r ∧ EB8 es := by
  unfold ER at h
  cases hn : nx pN st with
  | mk k s1 =>
    rw [hn] at h
    cases s1 with
    | none => simp at h
    | some M =>
      obtain ⟨L, rfl, hp⟩ := nx_some hn
      obtain ⟨hL, _⟩ := pN_some hp
      dsimp only at h
      split at h
      · rcases h with h | h
        · cases h
        · omega
      · split at h
        · cases h
        · rename_i h1 h2
          obtain ⟨h3, h4⟩ := h
          obtain ⟨e1, e2, e3⟩ := eb_pairs k (M.take (2 * k)) (by simp; omega)
          subst h4
          simp only [Option.some.injEq] at h3
          refine ⟨L, rfl, ?_, e3⟩
          unfold et
          rw [e1, e2, h3, List.append_assoc, List.take_append_drop]
          exact hL

/-- the parts of an order, one by one -/
def Ch (L : List UInt8) (o : OrdV) (st' : Option (List UInt8)) : Prop :=
  ∃ s1 s2 s3, o.num = (((nx pN (some L)).1 : Nat) : Int) ∧ s1 = (nx pN (some L)).2 ∧ o.op = (((nx pO s1).1 : Nat) : Int) ∧ s2 = (nx pO s1).2 ∧ o.v = (((nx pN s2).1 : Nat) : Int) ∧ s3 = (nx pN s2).2 ∧ ER s3 o.es st'

theorem eB_bytes {n : Int} {e : EdgeV} (h : eB n e = true) : (0 ≤ e.1 ∧ e.1 < 256) ∧ (0 ≤ e.2 ∧ e.2 < 256) := by
  simp [eB] at h
  omega

theorem chk_each {n : Int} {es : List EdgeV} (h : chk n es = true) : ∀ e ∈ es, eB n e = true := by
  intro e he
  obtain ⟨j, hj, rfl⟩ := List.getElem_of_mem he
  have h1 : chkAt n es j = true := by
    unfold chk at h
    rw [List.all_eq_true] at h
    exact h j (List.mem_range.2 hj)
  cases hb : eB n es[j] with
  | true => rfl
  | false => rw [chkAt_no (List.getElem?_eq_getElem hj) hb] at h1; cases h1

theorem eOk_bytes {n : Int} {es : List EdgeV} (h : eOk n es = true) : EB8 es ∧ es.length ≤ 66 := by
  unfold eOk at h
  simp only [Bool.and_eq_true, decide_eq_true_eq] at h
  exact ⟨fun e he => eB_bytes (chk_each h.1 e he), h.2⟩

theorem oB_parts {n : Int} {o : OrdV} (h : oB n o = true) : (1 ≤ n ∧ n ≤ 12) ∧ (1 ≤ o.num ∧ o.num ≤ 100000) ∧ (EB8 o.es ∧ o.es.length ≤ 66) ∧ (1 ≤ o.op ∧ o.op ≤ 4) ∧ (0 ≤ o.v ∧ o.v ≤ 12) := by
  unfold oB at h
  simp only [Bool.and_eq_true, decide_eq_true_eq] at h
  obtain ⟨h1, h2, h3, h4⟩ := h
  refine ⟨h1, h2, eOk_bytes h3, ?_, ?_⟩ <;> unfold OpOk at h4 <;> omega

theorem aB_parts {n : Int} {a : AnsV} (h : aB n a = true) : (1 ≤ n ∧ n ≤ 12) ∧ (1 ≤ a.num ∧ a.num ≤ 100000) ∧ (EB8 a.es ∧ a.es.length ≤ 66) ∧ lB n a.ls = true := by
  unfold aB at h
  simp only [Bool.and_eq_true, decide_eq_true_eq] at h
  obtain ⟨h1, h2, h3, h4⟩ := h
  exact ⟨h1, h2, eOk_bytes h3, h4⟩

/-- what a right order's bytes are read as -/
theorem Ch.full {n : Int} {o0 o : OrdV} {st' : Option (List UInt8)} (h0 : oB n o0 = true) (h : Ch (oText o0) o st') : o = o0 ∧ st' = some [] := by
  obtain ⟨s1, s2, s3, a1, rfl, a2, rfl, a3, rfl, hE⟩ := h
  obtain ⟨_, p1, ⟨p2, p3⟩, p4, p5⟩ := oB_parts h0
  have e1 : nx pN (some (oText o0)) = (o0.num.toNat, some (ob o0.op :: (vt o0.v.toNat ++ et o0.es))) := nx_of (pN_vt _ _ (by omega))
  rw [e1] at a1 a2 a3 hE
  have e2 : nx pO (some (ob o0.op :: (vt o0.v.toNat ++ et o0.es))) = ((ob o0.op).toNat, some (vt o0.v.toNat ++ et o0.es)) := nx_of rfl
  dsimp only at a1 a2 a3 hE
  rw [e2] at a2 a3 hE
  have e3 : nx pN (some (vt o0.v.toNat ++ et o0.es)) = (o0.v.toNat, some (et o0.es)) := nx_of (pN_vt _ _ (by omega))
  dsimp only at a2 a3 hE
  rw [e3] at a3 hE
  dsimp only at a3 hE
  rw [← List.append_nil (et o0.es)] at hE
  obtain ⟨h5, h6⟩ := hE.full p3 p2
  rw [ob_back (by omega)] at a2
  obtain ⟨a, b, c, d⟩ := o
  obtain ⟨a', b', c', d'⟩ := o0
  dsimp only at *
  refine ⟨?_, h6⟩
  simp only [OrdV.mk.injEq]
  exact ⟨by omega, a2, h5, by omega⟩

/-- what is read to its end is the bytes of it -/
theorem Ch.sound {L : List UInt8} {o : OrdV} (h : Ch L o (some [])) (hl : o.es.length ≤ 66) : L = oText o := by
  obtain ⟨s1, s2, s3, a1, b1, a2, b2, a3, b3, hE⟩ := h
  obtain ⟨L3, rfl, hL3, _⟩ := hE.sound hl
  obtain ⟨L2, rfl, h3⟩ := nx_some (f := pN) (st := s2) (n := (nx pN s2).1) (r := L3) (by rw [b3])
  obtain ⟨L1, rfl, h2⟩ := nx_some (f := pO) (st := s1) (n := (nx pO s1).1) (r := L2) (by rw [b2])
  obtain ⟨L0, hL0, h1⟩ := nx_some (f := pN) (st := some L) (n := (nx pN (some L)).1) (r := L1) (by rw [b1])
  simp only [Option.some.injEq] at hL0
  subst hL0
  have q3 := (pN_some h3).1
  have q1 := (pN_some h1).1
  have q2 : L1 = ob o.op :: L2 := by
    cases L1 with
    | nil => simp [pO] at h2
    | cons c r =>
      simp only [pO, Option.some.injEq, Prod.mk.injEq] at h2
      rw [a2, ← h2.1, ob_nat, h2.2]
  unfold oText
  rw [a1, a3, Int.toNat_natCast, Int.toNat_natCast]
  rw [List.append_nil] at hL3
  rw [← hL3, ← q3, ← q2]
  exact q1

/-- what is the right order of these bytes, if there is one -/
def IsO (n : Int) (L : List UInt8) : Option OrdV → Prop
  | none => ∀ o, oB n o = true → oText o ≠ L
  | some o => oB n o = true ∧ oText o = L

theorem Ch.self {n : Int} {o : OrdV} (h0 : oB n o = true) : Ch (oText o) o (some []) := by
  obtain ⟨_, p1, ⟨p2, p3⟩, p4, p5⟩ := oB_parts h0
  have e1 : nx pN (some (oText o)) = (o.num.toNat, some (ob o.op :: (vt o.v.toNat ++ et o.es))) := nx_of (pN_vt _ _ (by omega))
  have e2 : nx pO (some (ob o.op :: (vt o.v.toNat ++ et o.es))) = ((ob o.op).toNat, some (vt o.v.toNat ++ et o.es)) := nx_of rfl
  have e3 : nx pN (some (vt o.v.toNat ++ et o.es)) = (o.v.toNat, some (et o.es)) := nx_of (pN_vt _ _ (by omega))
  have e4 : nx pN (some (et o.es)) = (o.es.length, some (eb o.es)) := nx_of (pN_vt _ _ (by omega))
  have hle := eb_length o.es
  refine ⟨some (ob o.op :: (vt o.v.toNat ++ et o.es)), some (vt o.v.toNat ++ et o.es), some (et o.es), by rw [e1]; dsimp only; omega, by rw [e1], by rw [e2]; dsimp only; rw [ob_back (by omega)], by rw [e2], by rw [e3]; dsimp only; omega, by rw [e3], ?_⟩
  unfold ER
  rw [e4]
  dsimp only
  rw [if_neg (by omega), if_neg (by omega)]
  have hq : 2 * o.es.length = (eb o.es).length := by omega
  rw [hq, List.drop_length, List.take_length, pairs_eb _ p2]
  exact ⟨rfl, rfl⟩

theorem IsO.uniq {n : Int} {L : List UInt8} : ∀ {r r' : Option OrdV}, IsO n L r → IsO n L r' → r = r'
  | none, none, _, _ => rfl
  | none, some o, h, h' => absurd h'.2 (h o h'.1)
  | some o, none, h, h' => absurd h.2 (h' o h.1)
  | some o, some o', h, h' => by
    have := Ch.self h.1
    rw [h.2, ← h'.2] at this
    rw [(Ch.full h'.1 this).1]

theorem IsO.yes {n : Int} {L : List UInt8} {o : OrdV} (h : Ch L o (some [])) (h0 : oB n o = true) : IsO n L (some o) :=
  ⟨h0, (h.sound (oB_parts h0).2.2.1.2).symm⟩
theorem IsO.no {n : Int} {L : List UInt8} {o : OrdV} {st' : Option (List UInt8)} (h : Ch L o st') (h0 : st' ≠ some [] ∨ oB n o = false) : IsO n L none := by
  intro o' ho' e
  subst e
  obtain ⟨rfl, rfl⟩ := Ch.full ho' h
  rcases h0 with h0 | h0
  · exact h0 rfl
  · rw [ho'] at h0; cases h0
/-- as the specification asks: what was read has these bytes again -/
theorem IsO.back {n : Int} {L : List UInt8} {o : OrdV} {st' : Option (List UInt8)} (h : Ch L o st') (h0 : st' = none ∨ oB n o = false ∨ oText o ≠ L) : IsO n L none := by
  intro o' ho' e
  subst e
  obtain ⟨rfl, rfl⟩ := Ch.full ho' h
  rcases h0 with h0 | h0 | h0
  · cases h0
  · rw [ho'] at h0; cases h0
  · exact h0 rfl

/-- so many labels are read, if there are so many bytes -/
def LR (n : Nat) (st : Option (List UInt8)) (ls : List Int) (st' : Option (List UInt8)) : Prop :=
  match st with
  | none => st' = none
  | some L => if L.length < n then st' = none else st' = some (L.drop n) ∧ ls = (L.take n).map fun c => ((c.toNat : Nat) : Int)

/-- the parts of an answer, one by one -/
def Ca (n : Nat) (L : List UInt8) (a : AnsV) (st' : Option (List UInt8)) : Prop :=
  ∃ s1 s2 s3 s4, a.num = (((nx pN (some L)).1 : Nat) : Int) ∧ s1 = (nx pN (some L)).2 ∧ a.ok = decide ((nx pO s1).1 = 1) ∧ (s2 = (nx pO s1).2 ∨ s2 = none ∧ 1 < (nx pO s1).1) ∧ ER s2 a.es s3 ∧ LR n s3 a.ls s4 ∧ st' = s4

theorem lB_bytes {n : Int} {ls : List Int} (hn : n ≤ 12) (h : lB n ls = true) : (ls.length : Int) = n ∧ ∀ x ∈ ls, 0 ≤ x ∧ x < 256 := by
  unfold lB at h
  simp only [Bool.and_eq_true, decide_eq_true_eq] at h
  refine ⟨h.1, fun x hx => ?_⟩
  obtain ⟨j, hj, rfl⟩ := List.getElem_of_mem hx
  have h2 := h.2
  unfold lbs at h2
  rw [List.all_eq_true] at h2
  have h3 := h2 j (List.mem_range.2 hj)
  unfold lbAt at h3
  rw [List.getElem?_eq_getElem hj] at h3
  simp only [Bool.and_eq_true, decide_eq_true_eq] at h3
  omega

theorem map_back (ls : List Int) (h : ∀ x ∈ ls, 0 ≤ x ∧ x < 256) : ((ls.map ob).map fun c => ((c.toNat : Nat) : Int)) = ls := by
  rw [List.map_map]
  conv => rhs; rw [← List.map_id ls]
  exact List.map_congr_left fun x hx => by simp only [Function.comp, id]; exact ob_back (h x hx)
theorem map_forth (L : List UInt8) : ((L.map fun c => ((c.toNat : Nat) : Int)).map ob) = L := by
  rw [List.map_map]
  conv => rhs; rw [← List.map_id L]
  exact List.map_congr_left fun x _ => by simp only [Function.comp, id]; exact ob_nat x

def okb (b : Bool) : UInt8 := if b then 1 else 0
theorem okb_is (b : Bool) : decide ((okb b).toNat = 1) = b ∧ (okb b).toNat ≤ 1 := by cases b <;> simp [okb]

theorem Ca.full {n : Int} {m : Nat} {a0 a : AnsV} {st' : Option (List UInt8)} (hm : (m : Int) = n) (h0 : aB n a0 = true) (h : Ca m (aText a0) a st') : a = a0 ∧ st' = some [] := by
  obtain ⟨s1, s2, s3, s4, a1, rfl, a2, b2, hE, hL, rfl⟩ := h
  obtain ⟨p0, p1, ⟨p2, p3⟩, p4⟩ := aB_parts h0
  obtain ⟨p5, p6⟩ := lB_bytes p0.2 p4
  have e1 : nx pN (some (aText a0)) = (a0.num.toNat, some (okb a0.ok :: (et a0.es ++ a0.ls.map ob))) := nx_of (pN_vt _ _ (by omega))
  rw [e1] at a1 a2 b2
  have e2 : nx pO (some (okb a0.ok :: (et a0.es ++ a0.ls.map ob))) = ((okb a0.ok).toNat, some (et a0.es ++ a0.ls.map ob)) := nx_of rfl
  dsimp only at a1 a2 b2
  rw [e2] at a2 b2
  dsimp only at a2 b2
  have ho := okb_is a0.ok
  rw [ho.1] at a2
  have hs2 : s2 = some (et a0.es ++ a0.ls.map ob) := by
    rcases b2 with b2 | b2
    · exact b2
    · omega
  subst hs2
  obtain ⟨h5, rfl⟩ := hE.full p3 p2
  unfold LR at hL
  dsimp only at hL
  rw [if_neg (by simp; omega)] at hL
  obtain ⟨h6, h7⟩ := hL
  have hlen : m = (a0.ls.map ob).length := by simp; omega
  rw [hlen, List.drop_length] at h6
  rw [hlen, List.take_length, map_back _ p6] at h7
  obtain ⟨a', b', c', d'⟩ := a
  obtain ⟨a'', b'', c'', d''⟩ := a0
  dsimp only at *
  refine ⟨?_, h6⟩
  simp only [AnsV.mk.injEq]
  exact ⟨by omega, a2, h5, h7⟩

theorem Ca.sound {n : Nat} {L : List UInt8} {a : AnsV} (h : Ca n L a (some [])) (hl : a.es.length ≤ 66)
    (hf : (nx pO (nx pN (some L)).2).1 ≤ 1) : L = aText a := by
  obtain ⟨s1, s2, s3, s4, a1, b1, a2, b2, hE, hL, hs4⟩ := h
  subst hs4
  cases s3 with
  | none => simp [LR] at hL
  | some M =>
    unfold LR at hL
    dsimp only at hL
    split at hL
    · cases hL
    · rename_i hlen
      obtain ⟨h6, h7⟩ := hL
      simp only [Option.some.injEq] at h6
      have hM : M = a.ls.map ob := by
        rw [h7, map_forth]
        conv => lhs; rw [← List.take_append_drop n M, ← h6, List.append_nil]
      obtain ⟨L2, rfl, hL2, _⟩ := hE.sound hl
      have b2' : some L2 = (nx pO s1).2 := by
        rcases b2 with b2 | ⟨b2, _⟩
        · exact b2
        · cases b2
      obtain ⟨L1, rfl, h2⟩ := nx_some (f := pO) (st := s1) (n := (nx pO s1).1) (r := L2) (by rw [b2'])
      obtain ⟨L0, hL0, h1⟩ := nx_some (f := pN) (st := some L) (n := (nx pN (some L)).1) (r := L1) (by rw [b1])
      simp only [Option.some.injEq] at hL0
      subst hL0
      rw [← b1] at hf
      have q1 := (pN_some h1).1
      have q2 : L1 = okb a.ok :: L2 := by
        cases L1 with
        | nil => simp [pO] at h2
        | cons c r =>
          simp only [pO, Option.some.injEq, Prod.mk.injEq] at h2
          have hc : c = okb a.ok := by
            rw [a2, ← h2.1]
            have : c.toNat ≤ 1 := by rw [h2.1]; exact hf
            by_cases h : c.toNat = 1
            · simp [okb, h]; exact UInt8.toNat_inj.1 (by simp [h])
            · simp [okb, h]; exact UInt8.toNat_inj.1 (by simp; omega)
          rw [hc, h2.2]
      unfold aText
      rw [a1, Int.toNat_natCast, ← hM]
      show L = _ ++ okb a.ok :: _
      rw [← hL2, ← q2]
      exact q1

def IsA (n : Int) (L : List UInt8) : Option AnsV → Prop
  | none => ∀ a, aB n a = true → aText a ≠ L
  | some a => aB n a = true ∧ aText a = L

theorem Ca.self {n : Int} {m : Nat} {a : AnsV} (hm : (m : Int) = n) (h0 : aB n a = true) : Ca m (aText a) a (some []) := by
  obtain ⟨p0, p1, ⟨p2, p3⟩, p4⟩ := aB_parts h0
  obtain ⟨p5, p6⟩ := lB_bytes p0.2 p4
  have e1 : nx pN (some (aText a)) = (a.num.toNat, some (okb a.ok :: (et a.es ++ a.ls.map ob))) := nx_of (pN_vt _ _ (by omega))
  have e2 : nx pO (some (okb a.ok :: (et a.es ++ a.ls.map ob))) = ((okb a.ok).toNat, some (et a.es ++ a.ls.map ob)) := nx_of rfl
  have e4 : nx pN (some (et a.es ++ a.ls.map ob)) = (a.es.length, some (eb a.es ++ a.ls.map ob)) := nx_of (by unfold et; rw [List.append_assoc]; exact pN_vt _ _ (by omega))
  have hle := eb_length a.es
  refine ⟨some (okb a.ok :: (et a.es ++ a.ls.map ob)), some (et a.es ++ a.ls.map ob), some (a.ls.map ob), some [], by rw [e1]; dsimp only; omega, by rw [e1], by rw [e2]; exact (okb_is a.ok).1.symm, .inl (by rw [e2]), ?_, ?_, rfl⟩
  · unfold ER
    rw [e4]
    dsimp only
    rw [if_neg (by omega), if_neg (by simp; omega)]
    have hq : 2 * a.es.length = (eb a.es).length := by omega
    rw [hq, List.drop_left, List.take_left, pairs_eb _ p2]
    exact ⟨rfl, rfl⟩
  · have hlen : m = (a.ls.map ob).length := by simp; omega
    unfold LR
    dsimp only
    rw [if_neg (by omega), hlen, List.drop_length, List.take_length, map_back _ p6]
    exact ⟨rfl, rfl⟩

theorem IsA.uniq {n : Int} {L : List UInt8} : ∀ {r r' : Option AnsV}, IsA n L r → IsA n L r' → r = r'
  | none, none, _, _ => rfl
  | none, some o, h, h' => absurd h'.2 (h o h'.1)
  | some o, none, h, h' => absurd h.2 (h' o h.1)
  | some a, some a', h, h' => by
    have hp := (aB_parts h.1).1
    have := Ca.self (m := n.toNat) (by omega) h.1
    rw [h.2, ← h'.2] at this
    rw [(Ca.full (by omega) h'.1 this).1]

theorem IsA.yes {n : Int} {m : Nat} {L : List UInt8} {a : AnsV} (h : Ca m L a (some [])) (h0 : aB n a = true) (hf : (nx pO (nx pN (some L)).2).1 ≤ 1) : IsA n L (some a) := by
  obtain ⟨_, _, ⟨_, p3⟩, _⟩ := aB_parts h0
  exact ⟨h0, (h.sound p3 hf).symm⟩
theorem IsA.no {n : Int} {m : Nat} {L : List UInt8} {a : AnsV} {st' : Option (List UInt8)} (hm : (m : Int) = n) (h : Ca m L a st') (h0 : st' ≠ some [] ∨ aB n a = false) : IsA n L none := by
  intro o' ho' e
  subst e
  obtain ⟨rfl, rfl⟩ := Ca.full hm ho' h
  rcases h0 with h0 | h0
  · exact h0 rfl
  · rw [ho'] at h0; cases h0
theorem IsA.back {n : Int} {m : Nat} {L : List UInt8} {a : AnsV} {st' : Option (List UInt8)} (hm : (m : Int) = n) (h : Ca m L a st') (h0 : st' = none ∨ aB n a = false ∨ aText a ≠ L) : IsA n L none := by
  intro o' ho' e
  subst e
  obtain ⟨rfl, rfl⟩ := Ca.full hm ho' h
  rcases h0 with h0 | h0 | h0
  · cases h0
  · rw [ho'] at h0; cases h0
  · exact h0 rfl
theorem IsA.out {n : Int} {L : List UInt8} (h : ¬ (1 ≤ n ∧ n ≤ 12)) : IsA n L none := fun _ ha _ => h (aB_parts ha).1
end Go.Proofs.YtcieanhbipbhgaaGreatDoor
