/- A sealed text with one byte turned is not Unsealed: the reckoning, and what the program's functions answer there. -/
import Derived.Test.YtogcfpghbdijdaaDoorIUnseal
import Derived.Test.YtogcfpghbdijdaaDoorDrawSum
namespace Go.Proofs.YtogcfpghbdijdaaDoor
open Go.RowKit Crc

theorem four_turned {x : Nat} (hx : x < 4294967296) (S : List UInt8) (j : Nat) (c : UInt8) (hj : j < (S ++ four (sm x S)).length) (hc : (S ++ four (sm x S))[j] ≠ c) :
    ¬ four (sm x (((S ++ four (sm x S)).set j c).take S.length)) = ((S ++ four (sm x S)).set j c).drop S.length := by
  by_cases h : j < S.length
  · rw [List.set_append_left _ _ h, List.take_left' (by simp), List.drop_left' (by simp)]
    intro e
    have e1 := four_inj (sm_lt hx _) (sm_lt hx _) e
    rw [List.getElem_append_left h] at hc
    have hs : S = S.take j ++ S[j] :: S.drop (j + 1) := by simp
    have hset : S.set j c = S.take j ++ c :: S.drop (j + 1) := by rw [List.set_eq_take_append_cons_drop, if_pos h]
    rw [hset] at e1
    have e2 : sm x (S.take j ++ c :: S.drop (j + 1)) = sm x (S.take j ++ S[j] :: S.drop (j + 1)) := by rw [← hs]; exact e1
    exact sm_turned hx (S.take j) (S.drop (j + 1)) (fun h => hc h.symm) e2
  · rw [List.set_append_right _ _ (by omega), List.take_left' rfl, List.drop_left' rfl]
    intro e
    rw [List.getElem_append_right (by omega)] at hc
    have hl : j - S.length < (four (sm x S)).length := by simp at hj; omega
    have e1 : ((four (sm x S)).set (j - S.length) c)[j - S.length]'(by simpa using hl) = c := by simp
    apply hc
    rw [← e1]
    have e2 : ∀ (m : List UInt8) (h1 : j - S.length < m.length), four (sm x S) = m → (four (sm x S))[j - S.length] = m[j - S.length] := by
      intro m h1 h2; subst h2; rfl
    exact e2 _ (by simpa using hl) e

theorem sz (s : ByteArray) : s.data.toList.length = s.size := by simp

/-- a text, sealed -/
def sl (s : ByteArray) : ByteArray := s ++ fourS (smS s)
theorem sl_list (s : ByteArray) : (sl s).data.toList = s.data.toList ++ four (smS s) := by simp [sl, fourS]
theorem sl_size (s : ByteArray) : (sl s).size = s.size + 4 := by
  have h := congrArg List.length (sl_list s)
  rw [List.length_append, sz, sz, four_length] at h
  exact h
/-- the byte at j -/
def bt (s : ByteArray) (j : Nat) : UInt8 := s.data.toList.getD j 0
/-- a text with the byte at j turned -/
def tn (s : ByteArray) (j : Nat) (c : UInt8) : ByteArray := ⟨(s.data.toList.set j c).toArray⟩
theorem tn_size (s : ByteArray) (j : Nat) (c : UInt8) : (tn s j c).size = s.size := by
  rw [← sz, ← sz]
  simp [tn]

theorem ext_list {a b : ByteArray} (h : a.data.toList = b.data.toList) : a = b := by
  cases a; cases b; simpa using h

theorem take_of (t : ByteArray) (n : Nat) : (t.extract 0 n).data.toList = t.data.toList.take n := by simp
theorem drop_of (t : ByteArray) (n : Nat) : (t.extract n t.size).data.toList = t.data.toList.drop n := by
  rw [ByteArray.data_extract, Array.toList_extract]
  simp
  exact List.take_of_length_le (by rw [List.length_drop, sz]; omega)

theorem sl_front (s : ByteArray) : (sl s).extract 0 ((sl s).size - 4) = s := by
  apply ext_list
  rw [take_of, sl_size, sl_list, show s.size + 4 - 4 = s.data.toList.length by rw [sz]; omega, List.take_left' rfl]
theorem sl_back (s : ByteArray) : (sl s).extract ((sl s).size - 4) (sl s).size = fourS (smS s) := by
  apply ext_list
  rw [drop_of, sl_size, sl_list, show s.size + 4 - 4 = s.data.toList.length by rw [sz]; omega, List.drop_left' rfl]
  rfl

theorem tSeal (s : ByteArray) (hs : s.size ≤ 40) (W : World) (ht : Tab W) :
    Calls Tryd.prog 18 #[.string s] W fun e w' => e = .returned (.tuple #[.string (sl s), .bool true]) ∧ Below W.heap.size W w' := iSealed_yes s (by omega) W ht

theorem tUnseal (s : ByteArray) (hs : s.size ≤ 40) (W : World) (ht : Tab W) :
    Calls Tryd.prog 19 #[.string (sl s)] W fun e w' => e = .returned (.tuple #[.string s, .bool true]) ∧ Below W.heap.size W w' := by
  have hz := sl_size s
  have h := iUnsealed_yes (sl s) (by omega) (by omega) W ht (by rw [sl_front, sl_back])
  rw [sl_front] at h
  exact h

theorem tTurned (s : ByteArray) (hs : s.size ≤ 40) (j : Nat) (hj : j < (sl s).size) (c : UInt8) (hc : bt (sl s) j ≠ c) (W : World) (ht : Tab W) :
    Calls Tryd.prog 19 #[.string (tn (sl s) j c)] W fun e w' => e = .returned (.tuple #[.string ⟨#[]⟩, .bool false]) ∧ Below W.heap.size W w' := by
  have hz := sl_size s
  have hz2 := tn_size (sl s) j c
  refine iUnsealed_neq (tn (sl s) j c) (by omega) (by omega) W ht ?_
  intro e
  have e1 := congrArg (fun b : ByteArray => b.data.toList) e
  rw [drop_of] at e1
  have hd : (tn (sl s) j c).data.toList = (s.data.toList ++ four (sm 4294967295 s.data.toList)).set j c := by
    show (sl s).data.toList.set j c = _
    rw [sl_list]; rfl
  have hn : (tn (sl s) j c).size - 4 = s.data.toList.length := by rw [hz2, hz, sz]; omega
  have hl : j < (s.data.toList ++ four (sm 4294967295 s.data.toList)).length := by rw [List.length_append, sz, four_length]; omega
  have hc2 : (s.data.toList ++ four (sm 4294967295 s.data.toList))[j] ≠ c := by
    have : bt (sl s) j = (s.data.toList ++ four (sm 4294967295 s.data.toList))[j] := by
      unfold bt
      rw [sl_list, List.getD_eq_getElem?_getD]
      show (s.data.toList ++ four (sm 4294967295 s.data.toList))[j]?.getD 0 = _
      rw [List.getElem?_eq_getElem hl]; rfl
    rw [← this]; exact hc
  refine four_turned (by omega) s.data.toList j c hl hc2 ?_
  rw [← hd, ← hn]
  rw [← e1]
  show four (sm 4294967295 _) = four (sm 4294967295 _)
  rw [take_of]

theorem tMore (s : ByteArray) (W : World) (ht : Tab W) :
    Calls Tryd.prog 20 #[.int .u32 ((smS s : Nat) : Int), .string ⟨#[120]⟩] W fun e w' => e = .returned (.int .u32 ((smS (s ++ ⟨#[120]⟩) : Nat) : Int)) ∧ W = w' := by
  have h := iSumMore_any (smS s) (smS_lt s) ⟨#[120]⟩ (by unfold maxLen; show 1 ≤ _; omega) W ht
  have e : smS (s ++ ⟨#[120]⟩) = sm (smS s) [120] := by
    show sm 4294967295 (s ++ ⟨#[120]⟩).data.toList = sm (sm 4294967295 s.data.toList) [120]
    rw [← sm_append]; simp
  rw [e]
  exact h

theorem turned_ne (a v : Nat) (ha : a < 256) (h0 : 1 ≤ v) (h1 : v ≤ 255) (b : UInt8) (hb : b.toNat = a) : b ≠ UInt8.ofNat (a ^^^ v) := by
  intro e
  have hx : a ^^^ v < 256 := Nat.xor_lt_two_pow (n := 8) (by omega) (by omega)
  have h2 := congrArg UInt8.toNat e
  rw [hb] at h2
  simp only [UInt8.toNat_ofNat'] at h2
  rw [Nat.mod_eq_of_lt (by omega)] at h2
  have h3 := congrArg (a ^^^ ·) h2
  simp only [← Nat.xor_assoc, Nat.xor_self, Nat.zero_xor] at h3
  omega
end Go.Proofs.YtogcfpghbdijdaaDoor
