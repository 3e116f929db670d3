/- Records come back from their frames; of frames cut anywhere just the whole ones do: plain mathematics. -/
import Derived.Test.YtegknhnmfaafmaaDoorFr
import Derived.Test.YtegknhnmfaafmaaDoorVtBack
namespace Go.Proofs.YtegknhnmfaafmaaDoor
open Go.RowKit Vt Crc

/-- a frame's bytes -/
theorem frm_list (r : ByteArray) : (frm r).data.toList = vt r.size ++ (four (smS r) ++ r.data.toList) := by simp [frm, vtS, fourS]

theorem list_size (s : ByteArray) : s.data.toList.length = s.size := by simp

theorem eq_of_list {a b : ByteArray} (h : a.data.toList = b.data.toList) : a = b := by
  cases a; cases b; simpa using h

theorem ext_list' (s : ByteArray) (a b : Nat) : (s.extract a b).data.toList = (from_ s a).take (b - a) := by
  rw [Lib.extract_data]; rfl

theorem from_drop (s : ByteArray) (a k : Nat) : from_ s (a + k) = (from_ s a).drop k := by
  unfold from_; rw [List.drop_drop]

theorem rf_frame (s : ByteArray) (a : Nat) (r : ByteArray) (rest : List UInt8) (h1 : 1 ≤ r.size) (h2 : r.size ≤ 9000) (h : from_ s a = (frm r).data.toList ++ rest) : rf s a = some (r, a + (frm r).size) := by
  have hz : (frm r).size = (vt r.size).length + 4 + r.size := by
    rw [← list_size (frm r), frm_list, List.length_append, List.length_append, four_length, list_size]; omega
  rw [frm_list, List.append_assoc] at h
  have hv : rv a (from_ s a) = some (r.size, a + (vt r.size).length) := by rw [h]; exact rv_vt a r.size _ (by omega)
  have hl := congrArg List.length h
  rw [from_length, List.length_append, List.length_append, List.length_append, four_length, list_size] at hl
  have e1 : from_ s (a + (vt r.size).length) = four (smS r) ++ (r.data.toList ++ rest) := by rw [from_drop, h, List.drop_left' rfl, List.append_assoc]
  have e2 : from_ s (a + (vt r.size).length + 4) = r.data.toList ++ rest := by rw [from_drop, e1, List.drop_left' (four_length _)]
  have hr : s.extract (a + (vt r.size).length + 4) (a + (vt r.size).length + 4 + r.size) = r := by
    apply eq_of_list
    rw [ext_list', e2, Nat.add_sub_cancel_left, List.take_left' (list_size r)]
  have hf : s.extract (a + (vt r.size).length) (a + (vt r.size).length + 4) = fourS (smS r) := by
    apply eq_of_list
    rw [ext_list', e1, Nat.add_sub_cancel_left, List.take_left' (four_length _)]
    rfl
  have := rf_yes hv h1 h2 (by omega) (by rw [hr, hf])
  rw [this, hr, hz]
  congr 2
  omega

theorem rf_torn (s : ByteArray) (a t : Nat) (r : ByteArray) (h2 : r.size ≤ 9000) (ht : t < (frm r).size) (ha : a ≤ s.size) (h : from_ s a = (frm r).data.toList.take t) : rf s a = none := by
  have hz : (frm r).size = (vt r.size).length + 4 + r.size := by
    rw [← list_size (frm r), frm_list, List.length_append, List.length_append, four_length, list_size]; omega
  have hl := congrArg List.length h
  rw [from_length, List.length_take, list_size] at hl
  by_cases hc : t < (vt r.size).length
  · obtain ⟨p, c, hp, hb, _, _⟩ := vt_split r.size r.size (Nat.le_refl _)
    apply rf_none
    have e : from_ s a = p.take t := by
      rw [h, frm_list, List.take_append_of_le_length (by omega), hp, List.take_append_of_le_length (by rw [hp] at hc; simp at hc; omega)]
    rw [e]
    exact rv_all a _ (fun b hb' => hb b (List.mem_of_mem_take hb'))
  · have hv : rv a (from_ s a) = some (r.size, a + (vt r.size).length) := by
      rw [h, frm_list, List.take_append, List.take_of_length_le (by omega)]
      exact rv_vt a r.size _ (by omega)
    exact rf_no hv (by omega)

/-- the frames of texts, one behind the other -/
def flat (L : List ByteArray) : List UInt8 := (L.map fun r => (frm r).data.toList).flatten

theorem flat_cons (r : ByteArray) (L : List ByteArray) : flat (r :: L) = (frm r).data.toList ++ flat L := by simp [flat]
theorem flat_nil : flat [] = [] := rfl

theorem un_cut : ∀ (L : List ByteArray) (s : ByteArray) (pre : List ByteArray) (a t : Nat), (∀ r ∈ L, 1 ≤ r.size ∧ r.size ≤ 9000) → UnAt s pre a → from_ s a = (flat L).take t → t ≤ (flat L).length →
    ∃ m, m ≤ L.length ∧ un s = (pre ++ L.take m, a + (flat (L.take m)).length) ∧ (flat (L.take m)).length ≤ t ∧ (m = L.length ∨ t < (flat (L.take (m + 1))).length)
  | [], s, pre, a, t, _, h, hf, ht => by
    have hr : rf s a = none := by
      apply rf_none
      rw [hf, flat_nil, List.take_nil]
      rfl
    exact ⟨0, by simp, by rw [h.done hr]; simp [flat], by simp [flat], .inl rfl⟩
  | r :: L, s, pre, a, t, hL, h, hf, ht => by
    have hr := hL r (by simp)
    by_cases hc : t < (frm r).size
    · have hn : rf s a = none := by
        refine rf_torn s a t r hr.2 hc h.le ?_
        rw [hf, flat_cons, List.take_append_of_le_length (by rw [list_size]; omega)]
      refine ⟨0, by simp, by rw [h.done hn]; simp [flat], by simp [flat], .inr ?_⟩
      show t < (flat ((r :: L).take 1)).length
      rw [List.take_succ_cons, List.take_zero, flat_cons, flat_nil, List.append_nil, list_size]
      exact hc
    · have hsz := list_size (frm r)
      have hfr : from_ s a = (frm r).data.toList ++ (flat L).take (t - (frm r).size) := by
        rw [hf, flat_cons, List.take_append, List.take_of_length_le (by omega), hsz]
      have hy := rf_frame s a r _ hr.1 hr.2 hfr
      have hst := h.step hy
      have hnext : from_ s (a + (frm r).size) = (flat L).take (t - (frm r).size) := by
        rw [from_drop, hfr, List.drop_left' hsz]
      have hlen : t - (frm r).size ≤ (flat L).length := by
        rw [flat_cons, List.length_append, hsz] at ht; omega
      obtain ⟨m, hm, hu, hle, hor⟩ := un_cut L s (pre ++ [r]) (a + (frm r).size) (t - (frm r).size) (fun x hx => hL x (by simp [hx])) hst hnext hlen
      refine ⟨m + 1, by simp; omega, ?_, ?_, ?_⟩
      · rw [hu, List.take_succ_cons, flat_cons, List.length_append, hsz]
        simp
        omega
      · rw [List.take_succ_cons, flat_cons, List.length_append, hsz]; omega
      · rcases hor with h | h
        · exact .inl (by simp [h])
        · refine .inr ?_
          rw [List.take_succ_cons, flat_cons, List.length_append, hsz]; omega

/-- the place behind m frames -/
def endAt (L : List ByteArray) (m : Nat) : Nat := (flat (L.take m)).length

theorem un_of_cut (L : List ByteArray) (s : ByteArray) (hL : ∀ r ∈ L, 1 ≤ r.size ∧ r.size ≤ 9000) (t : Nat) (hs : s.data.toList = (flat L).take t) (ht : t ≤ (flat L).length) (hz : s.size ≤ 20000) :
    ∃ m, m ≤ L.length ∧ un s = (L.take m, endAt L m) ∧ endAt L m ≤ t ∧ (m = L.length ∨ t < endAt L (m + 1)) := by
  obtain ⟨m, h1, h2, h3, h4⟩ := un_cut L s [] 0 t hL (UnAt.start s hz) (by unfold from_; rw [List.drop_zero]; exact hs) ht
  refine ⟨m, h1, ?_, h3, h4⟩
  rw [h2]
  simp [endAt]

theorem endAt_le (L : List ByteArray) (m : Nat) (hm : m < L.length) (hL : ∀ r ∈ L, 1 ≤ r.size) : endAt L m < endAt L (m + 1) ∧ endAt L (m + 1) ≤ (flat L).length := by
  have h1 : L = L.take m ++ (L[m] :: L.drop (m + 1)) := by simp
  have hf : ∀ X Y : List ByteArray, flat (X ++ Y) = flat X ++ flat Y := fun X Y => by simp [flat]
  have h2 : L.take (m + 1) = L.take m ++ [L[m]] := by rw [List.take_succ_eq_append_getElem hm]
  have hp : 1 ≤ (frm L[m]).size := by
    rw [← list_size, frm_list, List.length_append, List.length_append, list_size]
    have := hL _ (List.getElem_mem hm)
    omega
  constructor
  · unfold endAt
    rw [h2, hf, List.length_append, flat_cons, flat_nil, List.append_nil, list_size]; omega
  · unfold endAt
    conv => rhs; rw [← List.take_append_drop (m + 1) L, hf, List.length_append]
    omega

/-- whole, all come -/
theorem un_whole (L : List ByteArray) (s : ByteArray) (hL : ∀ r ∈ L, 1 ≤ r.size ∧ r.size ≤ 9000) (hs : s.data.toList = flat L) (hz : s.size ≤ 20000) : un s = (L, s.size) := by
  obtain ⟨m, h1, h2, h3, h4⟩ := un_of_cut L s hL (flat L).length (by rw [List.take_length]; exact hs) (Nat.le_refl _) hz
  have : m = L.length := by
    rcases h4 with h | h
    · exact h
    · by_cases hm : m < L.length
      · have := (endAt_le L m hm (fun r hr => (hL r hr).1)).2; omega
      · omega
  subst this
  rw [h2]
  unfold endAt
  rw [List.take_length, ← hs, list_size]
end Go.Proofs.YtegknhnmfaafmaaDoor
