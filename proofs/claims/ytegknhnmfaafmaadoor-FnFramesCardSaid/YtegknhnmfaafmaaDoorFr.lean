/- Frames in plain mathematics: the frame of a text, the record that stands at a place, all records of a file. -/
import Derived.Test.YtegknhnmfaafmaaDoorIRead
import Derived.Test.YtegknhnmfaafmaaDoorISeal
import Derived.Lib.Strings
namespace Go.Proofs.YtegknhnmfaafmaaDoor
open Go.RowKit Vt Crc

/-- the bytes of a number, as a text -/
def vtS (n : Nat) : ByteArray := ⟨(vt n).toArray⟩

/-- the frame of a text -/
def frm (s : ByteArray) : ByteArray := vtS s.size ++ fourS (smS s) ++ s

/-- the record of the frame that stands at place a, and the place behind it -/
def rf (s : ByteArray) (a : Nat) : Option (ByteArray × Nat) :=
  match rv a (from_ s a) with
  | none => none
  | some (n, j) =>
    if 1 ≤ n ∧ n ≤ 9000 ∧ j + 4 + n ≤ s.size ∧ fourS (smS (s.extract (j + 4) (j + 4 + n))) = s.extract j (j + 4) then
      some (s.extract (j + 4) (j + 4 + n), j + 4 + n) else none

theorem rf_none {s : ByteArray} {a : Nat} (h : rv a (from_ s a) = none) : rf s a = none := by unfold rf; rw [h]

theorem rf_no {s : ByteArray} {a n j : Nat} (h : rv a (from_ s a) = some (n, j)) (hc : ¬ (1 ≤ n ∧ n ≤ 9000 ∧ j + 4 + n ≤ s.size)) : rf s a = none := by
  unfold rf; rw [h]
  exact if_neg (fun hx => hc ⟨hx.1, hx.2.1, hx.2.2.1⟩)

theorem rf_neq {s : ByteArray} {a n j : Nat} (h : rv a (from_ s a) = some (n, j)) (hc : ¬ fourS (smS (s.extract (j + 4) (j + 4 + n))) = s.extract j (j + 4)) : rf s a = none := by
  unfold rf; rw [h]
  exact if_neg (fun hx => hc hx.2.2.2)

theorem rf_yes {s : ByteArray} {a n j : Nat} (h : rv a (from_ s a) = some (n, j)) (h1 : 1 ≤ n) (h2 : n ≤ 9000) (h3 : j + 4 + n ≤ s.size) (hc : fourS (smS (s.extract (j + 4) (j + 4 + n))) = s.extract j (j + 4)) :
    rf s a = some (s.extract (j + 4) (j + 4 + n), j + 4 + n) := by
  unfold rf; rw [h]
  exact if_pos ⟨h1, h2, h3, hc⟩

theorem rv_bounds {s : ByteArray} {a n j : Nat} (h : rv a (from_ s a) = some (n, j)) : n ≤ 1000000000 ∧ a < j ∧ (a ≤ s.size → j ≤ s.size) := by
  have := rv_some h
  rw [from_length] at this
  exact ⟨this.1, this.2.1, fun ha => by omega⟩

theorem rf_some {s : ByteArray} {a : Nat} {r : ByteArray} {b : Nat} (h : rf s a = some (r, b)) : a + 6 ≤ b ∧ b ≤ s.size ∧ r.size ≤ 9000 := by
  unfold rf at h
  split at h
  · cases h
  · rename_i n j hr
    have hb := rv_bounds hr
    split at h
    · rename_i hc
      simp only [Option.some.injEq, Prod.mk.injEq] at h
      obtain ⟨rfl, rfl⟩ := h
      rw [ByteArray.size_extract]
      omega
    · cases h

/-- what a reader of frames answers -/
def rfV : Option (ByteArray × Nat) → Value
  | none => .tuple #[.string ⟨#[]⟩, .int .i64 0, .bool false]
  | some (r, b) => .tuple #[.string r, .int .i64 (b : Int), .bool true]

/-- the records from place a on, behind those that have come -/
def unF : Nat → ByteArray → List ByteArray → Nat → List ByteArray × Nat
  | 0, _, pre, a => (pre, a)
  | f + 1, s, pre, a =>
    match rf s a with
    | none => (pre, a)
    | some (r, b) => unF f s (pre ++ [r]) b

/-- the records of a file, and the place behind the last -/
def un (s : ByteArray) : List ByteArray × Nat := if s.size ≤ 20000 then unF (s.size + 1) s [] 0 else ([], 0)

/-- behind the records pre the reader stands at place a -/
structure UnAt (s : ByteArray) (pre : List ByteArray) (a : Nat) : Prop where
  le : a ≤ s.size
  few : pre.length * 6 ≤ a
  small : ∀ r ∈ pre, r.size ≤ 9000
  rest : ∃ f, s.size < f + a ∧ unF f s pre a = un s

theorem UnAt.start (s : ByteArray) (hs : s.size ≤ 20000) : UnAt s [] 0 :=
  ⟨by omega, by simp, by simp, s.size + 1, by omega, by unfold un; rw [if_pos hs]⟩

theorem UnAt.step {s : ByteArray} {pre : List ByteArray} {a : Nat} (h : UnAt s pre a) {r : ByteArray} {b : Nat} (hr : rf s a = some (r, b)) : UnAt s (pre ++ [r]) b := by
  obtain ⟨hle, hf, hsm, f, hfa, he⟩ := h
  have hb := rf_some hr
  refine ⟨hb.2.1, by simp; omega, ?_, ?_⟩
  · intro x hx
    rcases List.mem_append.1 hx with h | h
    · exact hsm x h
    · simp at h; subst h; exact hb.2.2
  · cases f with
    | zero => omega
    | succ f =>
      refine ⟨f, by omega, ?_⟩
      rw [← he]
      conv => rhs; unfold unF
      rw [hr]

theorem UnAt.done {s : ByteArray} {pre : List ByteArray} {a : Nat} (h : UnAt s pre a) (hr : rf s a = none) : un s = (pre, a) := by
  obtain ⟨hle, _, _, f, hfa, he⟩ := h
  cases f with
  | zero => omega
  | succ f =>
    rw [← he]
    unfold unF
    rw [hr]

theorem un_long (s : ByteArray) (hs : 20000 < s.size) : un s = ([], 0) := by unfold un; rw [if_neg (by omega)]

theorem un_at (s : ByteArray) (hs : s.size ≤ 20000) : ∃ pre a, un s = (pre, a) ∧ UnAt s pre a ∧ rf s a = none := by
  suffices H : ∀ (k : Nat) (pre : List ByteArray) (a : Nat), s.size < k + a → UnAt s pre a → ∃ pre a, un s = (pre, a) ∧ UnAt s pre a ∧ rf s a = none from
    H (s.size + 1) [] 0 (by omega) (UnAt.start s hs)
  intro k
  induction k with
  | zero => intro pre a hk h; have := h.le; omega
  | succ k ih =>
    intro pre a hk h
    cases hr : rf s a with
    | none => exact ⟨pre, a, h.done hr, h, hr⟩
    | some x =>
      obtain ⟨r, b⟩ := x
      have := rf_some hr
      exact ih _ b (by omega) (h.step hr)

/-- the texts of a file are few and small -/
theorem un_few (s : ByteArray) : (un s).1.length ≤ 4000 ∧ (un s).2 ≤ 20000 := by
  by_cases hs : s.size ≤ 20000
  · obtain ⟨pre, a, he, h, _⟩ := un_at s hs
    rw [he]
    have h1 := h.few
    have h2 := h.le
    exact ⟨by show pre.length ≤ 4000; omega, by show a ≤ 20000; omega⟩
  · rw [un_long s (by omega)]
    exact ⟨by simp, by simp⟩

/-- what stands between a place and the place behind a number that was read there is the shortest form of it -/
theorem rv_text {s : ByteArray} {a n j : Nat} (h : rv a (from_ s a) = some (n, j)) : s.extract a j = vtS n := by
  have hL := rv_bounds h
  unfold rv at h
  split at h
  · cases h
  · rename_i c r hd
    split at h
    · rename_i hc
      simp only [Option.some.injEq, Prod.mk.injEq] at h
      obtain ⟨hn, hj⟩ := h
      have hbig : ∀ b ∈ (from_ s a).takeWhile big, big b = true := fun b hb => by
        have := List.all_takeWhile (l := from_ s a) (p := big)
        exact List.all_eq_true.1 this b hb
      have hcb : big c = false := by
        have := List.head?_dropWhile_not big (from_ s a)
        rw [hd] at this
        simpa using this
      have hv := (vt_val _ hbig c hcb).2 hc.2.1
      have e : (from_ s a).takeWhile big ++ (c :: r) = from_ s a := by rw [← hd]; exact List.takeWhile_append_dropWhile
      generalize (from_ s a).takeWhile big = p at *
      apply ByteArray.ext
      apply Array.toList_inj.1
      rw [Lib.extract_data]
      show (from_ s a).take (j - a) = (vt n).toArray.toList
      have el : j - a = (p ++ [c]).length := by simp; omega
      have ep : p ++ c :: r = (p ++ [c]) ++ r := by simp
      rw [← hn, hv, ← e, ep, el, List.take_left']
      rfl
    · cases h

theorem ext_append (s : ByteArray) {a b c : Nat} (h1 : a ≤ b) (h2 : b ≤ c) : s.extract a b ++ s.extract b c = s.extract a c := by
  apply ByteArray.ext
  apply Array.toList_inj.1
  rw [ByteArray.data_append, Array.toList_append, Lib.extract_data, Lib.extract_data, Lib.extract_data]
  have e : c - a = (b - a) + (c - b) := by omega
  rw [e, List.take_add, List.drop_drop]
  congr 3
  omega

/-- the specification's look at a frame is the program's -/
theorem frm_at {s : ByteArray} {a n j : Nat} (h : rv a (from_ s a) = some (n, j)) (h3 : j + 4 + n ≤ s.size) :
    frm (s.extract (j + 4) (j + 4 + n)) = s.extract a (j + 4 + n) ↔ fourS (smS (s.extract (j + 4) (j + 4 + n))) = s.extract j (j + 4) := by
  have hb := rv_bounds h
  have ht := rv_text h
  have hz : (s.extract (j + 4) (j + 4 + n)).size = n := by rw [ByteArray.size_extract]; omega
  unfold frm
  rw [hz, ← ht, ← ext_append s (a := a) (b := j + 4) (c := j + 4 + n) (by omega) (by omega), ← ext_append s (a := a) (b := j) (c := j + 4) (by omega) (by omega)]
  constructor
  · intro e
    have e1 := congrArg (fun x : ByteArray => x.data.toList) e
    simp only [ByteArray.data_append, Array.toList_append] at e1
    have e2 := List.append_cancel_right e1
    have e3 := List.append_cancel_left e2
    apply ByteArray.ext
    exact Array.toList_inj.1 e3
  · intro e
    rw [e]
end Go.Proofs.YtegknhnmfaafmaaDoor
