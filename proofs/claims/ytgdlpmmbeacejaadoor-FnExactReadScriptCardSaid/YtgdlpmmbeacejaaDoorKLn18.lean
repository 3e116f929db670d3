/- A text's lines; what a range over its runes meets: plain mathematics. -/
import Derived.Test.YtgdlpmmbeacejaaDoorKParts
import Derived.Laws.RangeAny
namespace Go.Proofs.YtgdlpmmbeacejaaDoor.Lines
open Go.Proofs.YtgdlpmmbeacejaaDoor.Words

/-- the lines of what is left, with what stands already of the first one -/
def lnsGo (cur : List UInt8) : List UInt8 → List (List UInt8)
  | [] => if cur.isEmpty then [] else [cur]
  | c :: r => if c.toNat = 10 then cur :: lnsGo [] r else lnsGo (cur ++ [c]) r
def lns (l : List UInt8) : List (List UInt8) := lnsGo [] l
theorem lnsGo_len : ∀ (r cur : List UInt8), (lnsGo cur r).length ≤ r.length + 1
  | [], cur => by unfold lnsGo; split <;> simp
  | c :: r, cur => by
    unfold lnsGo
    split
    · have := lnsGo_len r []
      simp; omega
    · have := lnsGo_len r (cur ++ [c])
      simp; omega
theorem lnsGo_small : ∀ (r cur : List UInt8) (x : List UInt8), x ∈ lnsGo cur r → x.length ≤ cur.length + r.length
  | [], cur, x, h => by
    unfold lnsGo at h
    split at h
    · simp at h
    · simp at h; subst h; simp
  | c :: r, cur, x, h => by
    unfold lnsGo at h
    split at h
    · rcases List.mem_cons.1 h with rfl | h
      · simp
      · have := lnsGo_small r [] x h
        simp at this ⊢; omega
    · have := lnsGo_small r (cur ++ [c]) x h
      simp at this ⊢; omega
/-- behind k bytes, the line at hand begins at b, o stand already -/
structure Ln (l : List UInt8) (k b : Nat) (o : List (List UInt8)) : Prop where
  hk : k ≤ l.length
  hb : b ≤ k
  he : lns l = o ++ lnsGo ((l.drop b).take (k - b)) (l.drop k)
theorem Ln.start (l : List UInt8) : Ln l 0 0 [] := ⟨Nat.zero_le _, Nat.le_refl _, by simp [lns]⟩
theorem Ln.char {l : List UInt8} {k b : Nat} {o : List (List UInt8)} (h : Ln l k b o) (hk : k < l.length) (hc : (l[k]).toNat ≠ 10) : Ln l (k + 1) b o := by
  refine ⟨by omega, by have := h.hb; omega, ?_⟩
  rw [h.he, List.drop_eq_getElem_cons hk, lnsGo, if_neg hc, ← cur_more l k b hk h.hb]
theorem Ln.nl {l : List UInt8} {k b : Nat} {o : List (List UInt8)} (h : Ln l k b o) (hk : k < l.length) (hc : (l[k]).toNat = 10) : Ln l (k + 1) (k + 1) (o ++ [(l.drop b).take (k - b)]) := by
  refine ⟨by omega, Nat.le_refl _, ?_⟩
  rw [h.he, List.drop_eq_getElem_cons hk, lnsGo, if_pos hc]
  simp
theorem Ln.chars {l : List UInt8} {b : Nat} {o : List (List UInt8)} : ∀ (d k : Nat), Ln l k b o → k + d ≤ l.length → (∀ j (hj : j < l.length), k ≤ j → j < k + d → (l[j]).toNat ≠ 10) → Ln l (k + d) b o
  | 0, _, h, _, _ => h
  | d + 1, k, h, hl, hc => by
    have h1 := h.char (by omega) (hc k (by omega) (Nat.le_refl _) (by omega))
    have := Ln.chars d (k + 1) h1 (by omega) fun j hj h2 h3 => hc j hj (by omega) (by omega)
    rw [show k + 1 + d = k + (d + 1) by omega] at this
    exact this
theorem Ln.endS {l : List UInt8} {k b : Nat} {o : List (List UInt8)} (h : Ln l k b o) (hk : ¬ k < l.length) (hb : b < k) : o ++ [(l.drop b).take (k - b)] = lns l := by
  have e := h.he
  rw [List.drop_of_length_le (show l.length ≤ k by omega), lnsGo, cur_some l k b h.hk hb] at e
  exact e.symm
theorem Ln.endN {l : List UInt8} {k b : Nat} {o : List (List UInt8)} (h : Ln l k b o) (hk : ¬ k < l.length) (hb : ¬ b < k) : o = lns l := by
  have e := h.he
  have h2 := h.hb
  rw [List.drop_of_length_le (show l.length ≤ k by omega), lnsGo, show k - b = 0 by omega] at e
  simpa using e.symm
theorem Ln.few {l : List UInt8} {k b : Nat} {o : List (List UInt8)} (h : Ln l k b o) : o.length ≤ l.length + 1 := by
  have h1 := congrArg List.length h.he
  have h2 := lnsGo_len l []
  rw [List.length_append] at h1
  have : (lns l).length = (lnsGo [] l).length := rfl
  omega

/-- what a range meets at a place -/
theorem dec_ten (s : ByteArray) (k : Nat) (h : k < s.size) (ht : (s[k]).toNat = 10) : Utf8.decode s k = (10, 1) := by
  rw [decode_ascii s k h (by omega), ht]
theorem get_byte (s : ByteArray) (k : Nat) (h : k < s.size) : s.get! k = s[k] := by
  show s.get! k = _
  simp [ByteArray.get!, getElem!_pos, h]
  rfl
theorem dec_other (s : ByteArray) (k : Nat) (h : k < s.size) (ht : (s[k]).toNat ≠ 10) :
    (Utf8.decode s k).1 ≠ 10 ∧ 1 ≤ (Utf8.decode s k).2 ∧ k + (Utf8.decode s k).2 ≤ s.size ∧ ∀ j (hj : j < s.size), k ≤ j → j < k + (Utf8.decode s k).2 → (s[j]).toNat ≠ 10 := by
  by_cases ha : (s[k]).toNat < 128
  · rw [decode_ascii s k h ha]
    refine ⟨ht, Nat.le_refl _, h, fun j hj h1 h2 => ?_⟩
    obtain rfl : j = k := by simp at h2; omega
    exact ht
  · have hh := decode_high s k h (by omega)
    refine ⟨by omega, hh.2, ?_⟩
    have key : k + (Utf8.decode s k).2 ≤ s.size ∧ ∀ i, 1 ≤ i → i < (Utf8.decode s k).2 → (s.get! (k + i)).toNat / 64 = 2 := by
      simp only [Utf8.decode]
      have hn : ¬ (s.get! (k + 0)).toNat < 128 := by rw [Nat.add_zero, get_byte s k h]; omega
      rw [if_neg hn]
      repeat' split
      all_goals simp only [Bool.and_eq_true, decide_eq_true_eq, beq_iff_eq] at *
      all_goals first
        | exact ⟨by omega, fun i h1 h2 => by omega⟩
        | (refine ⟨by omega, fun i h1 h2 => ?_⟩
           have : i = 1 ∨ i = 2 ∨ i = 3 := by omega
           rcases this with rfl | rfl | rfl <;> first | omega | simp_all)
    refine ⟨key.1, fun j hj h1 h2 => ?_⟩
    by_cases e : j = k
    · subst e; exact ht
    · have := key.2 (j - k) (by omega) (by omega)
      rw [show k + (j - k) = j by omega, get_byte s j hj] at this
      omega
end Go.Proofs.YtgdlpmmbeacejaaDoor.Lines
