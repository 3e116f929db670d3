/- Plain mathematics on reading a number out of bytes: no program is named here. -/
import Derived.Test.YtegknhnmfaafmaaDoorVt
namespace Go.Proofs.YtegknhnmfaafmaaDoor.Vt

def big (c : UInt8) : Bool := decide (128 ≤ c.toNat)

def val : List UInt8 → Nat
  | [] => 0
  | c :: r => c.toNat % 128 + 128 * val r

theorem val_snoc (p : List UInt8) (c : UInt8) : val (p ++ [c]) = val p + c.toNat % 128 * 128 ^ p.length := by
  induction p with
  | nil => simp [val]
  | cons b p ih =>
    simp only [List.cons_append, val, ih, List.length_cons, Nat.pow_succ]
    rw [Nat.mul_add, Nat.add_assoc]
    congr 2
    rw [Nat.mul_comm 128, Nat.mul_assoc]

theorem val_lt (p : List UInt8) : val p < 128 ^ p.length := by
  induction p with
  | nil => simp [val]
  | cons b p ih =>
    simp only [val, List.length_cons, Nat.pow_succ]
    omega

/-- the number that stands at the head of L, and the place behind it -/
def rv (a : Nat) (L : List UInt8) : Option (Nat × Nat) :=
  match L.dropWhile big with
  | [] => none
  | c :: _ =>
    if (L.takeWhile big).length < 5 ∧ ¬ (c.toNat = 0 ∧ 0 < (L.takeWhile big).length) ∧ val (L.takeWhile big ++ [c]) ≤ 1000000000 then some (val (L.takeWhile big ++ [c]), a + (L.takeWhile big).length + 1) else none

theorem split_at (p : List UInt8) (hp : ∀ b ∈ p, big b = true) (c : UInt8) (hc : big c = false) (r : List UInt8) :
    (p ++ c :: r).takeWhile big = p ∧ (p ++ c :: r).dropWhile big = c :: r := by
  induction p with
  | nil => simp [hc]
  | cons b p ih =>
    have hb := hp b (by simp)
    have := ih (fun x hx => hp x (by simp [hx]))
    simp [hb, this.1, this.2]

theorem rv_at (a : Nat) (p : List UInt8) (hp : ∀ b ∈ p, big b = true) (c : UInt8) (hc : big c = false) (r : List UInt8) :
    rv a (p ++ c :: r) = if p.length < 5 ∧ ¬ (c.toNat = 0 ∧ 0 < p.length) ∧ val (p ++ [c]) ≤ 1000000000 then some (val (p ++ [c]), a + p.length + 1) else none := by
  have h := split_at p hp c hc r
  unfold rv
  rw [h.1, h.2]

theorem rv_all (a : Nat) (p : List UInt8) (hp : ∀ b ∈ p, big b = true) : rv a p = none := by
  have : p.dropWhile big = [] := by
    induction p with
    | nil => rfl
    | cons b p ih =>
      rw [List.dropWhile_cons_of_pos (hp b (by simp))]
      exact ih (fun x hx => hp x (by simp [hx]))
  unfold rv
  rw [this]

theorem rv_five (a : Nat) (p r : List UInt8) (hp : ∀ b ∈ p, big b = true) (h5 : 5 ≤ p.length) : rv a (p ++ r) = none := by
  induction r generalizing p with
  | nil => rw [List.append_nil]; exact rv_all a p hp
  | cons c r ih =>
    by_cases hc : big c = true
    · have := ih (p ++ [c]) (by intro b hb; rcases List.mem_append.1 hb with h | h; exact hp b h; simp at h; subst h; exact hc) (by simp; omega)
      simpa using this
    · rw [rv_at a p hp c (by simpa using hc) r, if_neg (by omega)]

theorem rv_some {a : Nat} {L : List UInt8} {n j : Nat} (h : rv a L = some (n, j)) : n ≤ 1000000000 ∧ a < j ∧ j ≤ a + L.length := by
  unfold rv at h
  split at h
  · cases h
  · rename_i c r hd
    split at h
    · rename_i hc
      simp only [Option.some.injEq, Prod.mk.injEq] at h
      obtain ⟨rfl, rfl⟩ := h
      have e : L.takeWhile big ++ L.dropWhile big = L := List.takeWhile_append_dropWhile
      have hl : (L.takeWhile big).length + (L.dropWhile big).length = L.length := by rw [← List.length_append, e]
      rw [hd] at hl
      simp at hl
      omega
    · cases h

/-- the shortest form of a number is just what is read, where its last byte is no needless nought -/
theorem vt_val (p : List UInt8) (hp : ∀ b ∈ p, big b = true) (c : UInt8) (hc : big c = false) :
    vt (val (p ++ [c])) = p ++ [c] ↔ ¬ (c.toNat = 0 ∧ 0 < p.length) := by
  have hc' : c.toNat < 128 := by simpa [big] using hc
  induction p with
  | nil =>
    simp only [List.nil_append, val, List.length_nil, Nat.lt_irrefl, and_false, not_false_eq_true, iff_true]
    rw [vt_small _ (by omega)]
    congr 1
    apply UInt8.toNat_inj.1
    simp
    omega
  | cons b p ih =>
    have hb : 128 ≤ b.toNat := by simpa [big] using hp b (by simp)
    have hb2 := UInt8.toNat_lt b
    have ih := ih (fun x hx => hp x (by simp [hx]))
    have hbb : UInt8.ofNat (b.toNat % 128 + 128) = b := by
      apply UInt8.toNat_inj.1
      simp
      omega
    simp only [List.cons_append, val, List.length_cons]
    have hv : c.toNat ≠ 0 → 0 < val (p ++ [c]) := by
      intro h
      rw [val_snoc]
      have : 0 < 128 ^ p.length := Nat.pow_pos (by omega)
      have : 0 < c.toNat % 128 * 128 ^ p.length := Nat.mul_pos (by omega) this
      omega
    by_cases h0 : val (p ++ [c]) = 0
    · have hz : c.toNat = 0 := by
        by_cases h : c.toNat = 0
        · exact h
        · have := hv h; omega
      rw [h0, vt_small _ (by omega)]
      constructor
      · intro h
        have := congrArg List.length h
        simp at this
      · intro h
        exact absurd ⟨hz, by omega⟩ h
    · rw [vt_big _ (by omega)]
      have e1 : (b.toNat % 128 + 128 * val (p ++ [c])) % 128 = b.toNat % 128 := by omega
      have e2 : (b.toNat % 128 + 128 * val (p ++ [c])) / 128 = val (p ++ [c]) := by omega
      rw [e1, e2, hbb]
      simp only [List.cons.injEq, true_and]
      refine Iff.trans ih ?_
      constructor
      · intro h h2
        by_cases hp0 : 0 < p.length
        · exact h ⟨h2.1, hp0⟩
        · have : p = [] := List.length_eq_zero_iff.1 (by omega)
          subst this
          simp [val] at h0
          omega
      · intro h h2
        exact h ⟨h2.1, by omega⟩

end Go.Proofs.YtegknhnmfaafmaaDoor.Vt
