/- Plain mathematics on the words of a line: no program is named here. -/
import Derived.WalkKit
import Derived.Lib.Fields
namespace Go.Proofs.YtngbaefmejdecagDoor.Words
open Go.Lib (fields fieldsGo isSp)

def plainC (c : UInt8) : Bool := decide (32 ≤ c.toNat ∧ c.toNat ≤ 126)
def plainB (l : List UInt8) : Bool := l.all plainC

theorem sp_plain (c : UInt8) (h : plainC c = true) (h2 : c.toNat ≠ 32) : isSp c = false := by
  unfold plainC at h
  have hh : 32 ≤ c.toNat ∧ c.toNat ≤ 126 := of_decide_eq_true h
  have hx : ∀ x : UInt8, x.toNat ≤ 32 → (c == x) = false := fun x hx => by
    rw [beq_eq_false_iff_ne]
    intro e
    subst e
    omega
  unfold isSp
  rw [hx 9 (by decide), hx 10 (by decide), hx 11 (by decide), hx 12 (by decide), hx 13 (by decide), hx 32 (by decide)]
  rfl

theorem sp_blank (c : UInt8) (h : c.toNat = 32) : isSp c = true := by
  have e : c = 32 := UInt8.toNat_inj.1 h
  subst e
  rfl

theorem plainB_take (l : List UInt8) (k : Nat) (h : k < l.length) (hp : plainB (l.take k) = true) (hc : plainC (l[k]) = true) : plainB (l.take (k + 1)) = true := by
  rw [List.take_succ_eq_append_getElem h]
  unfold plainB at *
  simp only [List.all_append, hp, List.all_cons, hc, List.all_nil, Bool.and_true]

theorem plainB_bad (l : List UInt8) (k : Nat) (h : k < l.length) (hc : plainC (l[k]) = false) : plainB l = false := by
  unfold plainB
  rw [List.all_eq_false]
  exact ⟨l[k], List.getElem_mem h, by simp [hc]⟩

/-- behind k bytes: the words o are whole, the next one begins at b -/
structure Sp (l : List UInt8) (k b : Nat) (o : List (List UInt8)) : Prop where
  le : k ≤ l.length
  bk : b ≤ k
  eq : o ++ fieldsGo ((l.drop b).take (k - b)) (l.drop k) = fields l

theorem Sp.start (l : List UInt8) : Sp l 0 0 [] := ⟨Nat.zero_le _, Nat.le_refl _, by simp [fields]⟩

theorem cur_more (l : List UInt8) (k b : Nat) (h : k < l.length) (hb : b ≤ k) : (l.drop b).take (k + 1 - b) = (l.drop b).take (k - b) ++ [l[k]] := by
  have e : k + 1 - b = (k - b) + 1 := by omega
  rw [e, List.take_add_one]
  congr 1
  rw [List.getElem?_drop, show b + (k - b) = k by omega, List.getElem?_eq_getElem h]
  rfl

theorem Sp.char {l : List UInt8} {k b : Nat} {o : List (List UInt8)} (h : Sp l k b o) (hk : k < l.length) (hc : isSp (l[k]) = false) : Sp l (k + 1) b o := by
  refine ⟨by omega, by have := h.bk; omega, ?_⟩
  rw [← h.eq, cur_more l k b hk h.bk, List.drop_eq_getElem_cons hk]
  congr 1
  conv => rhs; rw [fieldsGo]
  rw [if_neg (by simp [hc])]

theorem cur_some (l : List UInt8) (k b : Nat) (hk : k ≤ l.length) (hb : b < k) : ((l.drop b).take (k - b)).isEmpty = false := by
  cases h : (l.drop b).take (k - b) with
  | nil =>
    have := congrArg List.length h
    simp at this
    omega
  | cons a r => rfl

theorem Sp.blank_some {l : List UInt8} {k b : Nat} {o : List (List UInt8)} (h : Sp l k b o) (hk : k < l.length) (hc : isSp (l[k]) = true) (hb : b < k) : Sp l (k + 1) (k + 1) (o ++ [(l.drop b).take (k - b)]) := by
  refine ⟨by omega, by omega, ?_⟩
  rw [← h.eq, List.drop_eq_getElem_cons hk]
  conv => rhs; rw [fieldsGo]
  rw [if_pos hc, if_neg (by rw [cur_some l k b (by omega) hb]; simp)]
  simp

theorem Sp.blank_none {l : List UInt8} {k b : Nat} {o : List (List UInt8)} (h : Sp l k b o) (hk : k < l.length) (hc : isSp (l[k]) = true) (hb : ¬ b < k) : Sp l (k + 1) (k + 1) o := by
  have e : b = k := by have := h.bk; omega
  refine ⟨by omega, by omega, ?_⟩
  rw [← h.eq, List.drop_eq_getElem_cons hk, e]
  conv => rhs; rw [fieldsGo]
  rw [if_pos hc]
  simp

theorem Sp.end_some {l : List UInt8} {k b : Nat} {o : List (List UInt8)} (h : Sp l k b o) (hk : ¬ k < l.length) (hb : b < k) : o ++ [(l.drop b).take (k - b)] = fields l := by
  have e : l.drop k = [] := List.drop_eq_nil_of_le (by omega)
  rw [← h.eq, e, fieldsGo, if_neg (by rw [cur_some l k b h.le hb]; simp)]

theorem Sp.end_none {l : List UInt8} {k b : Nat} {o : List (List UInt8)} (h : Sp l k b o) (hk : ¬ k < l.length) (hb : ¬ b < k) : o = fields l := by
  have e : l.drop k = [] := List.drop_eq_nil_of_le (by omega)
  have e2 : k - b = 0 := by have := h.bk; omega
  rw [← h.eq, e, e2, fieldsGo]
  simp

def mkB (l : List UInt8) : ByteArray := ⟨l.toArray⟩

/-- the words that a line is parted into, or nothing -/
def poR (l : List UInt8) : Option (List ByteArray) := if l.length ≤ 600 ∧ plainB l = true ∧ (fields l).length ≤ 10 then some ((fields l).map mkB) else none

theorem poR_long (l : List UInt8) (h : 600 < l.length) : poR l = none := by unfold poR; rw [if_neg (by omega)]
theorem poR_bad (l : List UInt8) (h : plainB l = false) : poR l = none := by unfold poR; rw [if_neg (by simp [h])]
theorem poR_many (l : List UInt8) (h : 10 < (fields l).length) : poR l = none := by unfold poR; rw [if_neg (by omega)]
theorem poR_yes (l : List UInt8) (h : l.length ≤ 600) (hp : plainB l = true) (hf : (fields l).length ≤ 10) : poR l = some ((fields l).map mkB) := by unfold poR; rw [if_pos ⟨h, hp, hf⟩]
theorem poR_length {l : List UInt8} {ss : List ByteArray} (h : poR l = some ss) : ss.length ≤ 10 := by
  unfold poR at h
  split at h
  · rename_i hc
    simp at h
    subst h
    simpa using hc.2.2
  · cases h

end Go.Proofs.YtngbaefmejdecagDoor.Words
