/- Plain mathematics on reading figures: no program is named here. -/
import Derived.WalkKit
namespace Go.Proofs.YtngbaefmejdecaaDoor.Uh

/-- the value of a figure, or -1 -/
def vl (c : UInt8) : Int := if 48 ≤ c.toNat ∧ c.toNat ≤ 57 then c.toNat - 48 else if 97 ≤ c.toNat ∧ c.toNat ≤ 102 then c.toNat - 97 + 10 else -1

theorem vl_le (c : UInt8) : -1 ≤ vl c ∧ vl c ≤ 15 := by unfold vl; split <;> (try split) <;> omega
theorem vl_dec (c : UInt8) (h : 48 ≤ c.toNat) (h2 : c.toNat ≤ 57) : vl c = c.toNat - 48 := by unfold vl; rw [if_pos ⟨h, h2⟩]
theorem vl_let (c : UInt8) (h : 97 ≤ c.toNat) (h2 : c.toNat ≤ 102) : vl c = c.toNat - 97 + 10 := by unfold vl; rw [if_neg (by omega), if_pos ⟨h, h2⟩]
theorem vl_bad (c : UInt8) (h : ¬ (48 ≤ c.toNat ∧ c.toNat ≤ 57)) (h2 : ¬ (97 ≤ c.toNat ∧ c.toNat ≤ 102)) : vl c = -1 := by unfold vl; rw [if_neg h, if_neg h2]

def two (a b : UInt8) : UInt8 := UInt8.ofNat (16 * vl a + vl b).toNat
theorem two_toNat (a b : UInt8) (ha : 0 ≤ vl a) (hb : 0 ≤ vl b) : ((two a b).toNat : Int) = 16 * vl a + vl b := by
  have := vl_le a
  have := vl_le b
  unfold two
  simp
  omega

def uh : List UInt8 → Option (List UInt8)
  | [] => some []
  | [_] => none
  | a :: b :: r => if 0 ≤ vl a ∧ 0 ≤ vl b then (uh r).map (two a b :: ·) else none

theorem uh_some : ∀ (l o : List UInt8), uh l = some o → (∀ c ∈ l, 0 ≤ vl c) ∧ l.length = 2 * o.length
  | [], o, h => by simp [uh] at h; subst h; simp
  | [_], o, h => by simp [uh] at h
  | a :: b :: r, o, h => by
    simp only [uh] at h
    split at h
    · rename_i hc
      cases hr : uh r with
      | none => rw [hr] at h; simp at h
      | some o' =>
        rw [hr] at h
        simp at h
        subst h
        have ih := uh_some r o' hr
        refine ⟨?_, ?_⟩
        · intro c hcm
          simp at hcm
          rcases hcm with rfl | rfl | hcm
          · exact hc.1
          · exact hc.2
          · exact ih.1 c hcm
        · simp; omega
    · cases h

theorem uh_bad (l : List UInt8) (c : UInt8) (hc : c ∈ l) (h : vl c < 0) : uh l = none := by
  cases hu : uh l with
  | none => rfl
  | some o => have := (uh_some l o hu).1 c hc; omega

theorem uh_odd (l : List UInt8) (h : l.length % 2 = 1) : uh l = none := by
  cases hu : uh l with
  | none => rfl
  | some o => have := (uh_some l o hu).2; omega

theorem uh_snoc : ∀ (l o : List UInt8) (a b : UInt8), uh l = some o → 0 ≤ vl a → 0 ≤ vl b → uh (l ++ [a, b]) = some (o ++ [two a b])
  | [], o, a, b, h, ha, hb => by simp [uh] at h; subst h; simp [uh, ha, hb]
  | [_], o, a, b, h, ha, hb => by simp [uh] at h
  | x :: y :: r, o, a, b, h, ha, hb => by
    simp only [uh, List.cons_append] at h ⊢
    split at h
    · rename_i hc
      rw [if_pos hc]
      cases hr : uh r with
      | none => rw [hr] at h; simp at h
      | some o' =>
        rw [hr] at h
        simp at h
        subst h
        rw [uh_snoc r o' a b hr ha hb]
        simp
    · cases h

end Go.Proofs.YtngbaefmejdecaaDoor.Uh
