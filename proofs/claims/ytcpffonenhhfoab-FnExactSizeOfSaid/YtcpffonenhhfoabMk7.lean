/- Rows of numbers, marked one behind the other: pure. -/
import Derived.Test.YtcpffonenhhfoabFB7
namespace Go.Proofs.Ytcpffonenhhfoab
open Go.RowKit

/-- how many numbers the rows have -/
def rn : List Rw → Nat
  | [] => 0
  | r :: R => r.t.length + rn R
theorem rn_app (P S : List Rw) : rn (P ++ S) = rn P + rn S := by
  induction P with
  | nil => simp [rn]
  | cons r P ih => simp only [List.cons_append, rn, ih]; omega
/-- the rows marked from k on -/
def mkR : Nat → List Rw → List Rw
  | _, [] => []
  | k, r :: R => ⟨r.g, r.cp, imarks k r.t.length⟩ :: mkR (k + r.t.length) R
theorem imarks_len (k n : Nat) : (imarks k n).length = n := by simp [imarks]
theorem mkR_len (k : Nat) (R : List Rw) : (mkR k R).length = R.length := by
  induction R generalizing k with
  | nil => rfl
  | cons r R ih => simp [mkR, ih]
theorem mkR_rn (k : Nat) (R : List Rw) : rn (mkR k R) = rn R := by
  induction R generalizing k with
  | nil => rfl
  | cons r R ih => simp [mkR, rn, ih, imarks_len]
theorem mkR_snoc (k : Nat) (P : List Rw) (r : Rw) : mkR k (P ++ [r]) = mkR k P ++ [⟨r.g, r.cp, imarks (k + rn P) r.t.length⟩] := by
  induction P generalizing k with
  | nil => simp [mkR, rn]
  | cons x P ih => simp only [List.cons_append, mkR, ih, rn, Nat.add_assoc]
theorem mkR_at {k j : Nat} {R : List Rw} {r : Rw} (h : R[j]? = some r) : (mkR k R)[j]? = some ⟨r.g, r.cp, imarks (k + rn (R.take j)) r.t.length⟩ := by
  induction R generalizing k j with
  | nil => simp at h
  | cons x R ih =>
    cases j with
    | zero => simp at h; subst h; simp [mkR, rn]
    | succ j =>
      simp at h
      simp only [mkR, List.getElem?_cons_succ, List.take_succ_cons, rn]
      rw [ih h, Nat.add_assoc]
theorem split_at {α : Type} {R : List α} {i : Nat} {r : α} (h : R[i]? = some r) : R.drop i = r :: R.drop (i + 1) := by
  obtain ⟨hi, rfl⟩ := List.getElem?_eq_some_iff.1 h
  exact List.drop_eq_getElem_cons hi
theorem rn_take {R : List Rw} {i : Nat} {r : Rw} (h : R[i]? = some r) : rn (R.take (i + 1)) = rn (R.take i) + r.t.length := by
  rw [take_snocF R i r h, rn_app]
  simp [rn]
theorem rn_take_le (R : List Rw) (i : Nat) : rn (R.take i) ≤ rn R := by
  have := rn_app (R.take i) (R.drop i)
  rw [List.take_append_drop] at this
  omega
theorem rn_at {R : List Rw} {i : Nat} {r : Rw} (h : R[i]? = some r) : rn (R.take i) + r.t.length ≤ rn R := by
  rw [← rn_take h]
  exact rn_take_le R (i + 1)
end Go.Proofs.Ytcpffonenhhfoab
