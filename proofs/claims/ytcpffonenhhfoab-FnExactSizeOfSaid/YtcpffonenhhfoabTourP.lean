/- Tours, as lists: a walk that goes down to a new vertex, or back up to the one that it came from; a tour from another vertex on; two that are joined; one that is split. -/
import Derived.Test.YtcpffonenhhfoabB6
namespace Go.Proofs.Ytcpffonenhhfoab

/-- v is the vertex that the way came from -/
def isUp : List Int → Int → Bool
  | _ :: p :: _, v => decide (p = v)
  | _, _ => false
/-- one step: w is the way from the root, the last one first; s is what was seen -/
def tstep (w s : List Int) (v : Int) : Option (List Int × List Int) :=
  if isUp w v = true then some (w.tail, s) else if v ∈ s then none else some (v :: w, v :: s)
def trun (w s : List Int) : List Int → Option (List Int × List Int)
  | [] => some (w, s)
  | v :: r => match tstep w s v with
    | none => none
    | some x => trun x.1 x.2 r
/-- a number is that of a vertex -/
def vB (v : Int) : Bool := decide (0 ≤ v ∧ v < 12)
/-- the tour is right -/
def tB (t : List Int) : Bool := t.all vB && (match trun [] [] t with | some x => x.1.length == 1 | none => false)

theorem trun_nil (w s : List Int) : trun w s [] = some (w, s) := rfl
theorem trun_append (w s a b : List Int) : trun w s (a ++ b) = (trun w s a).bind fun x => trun x.1 x.2 b := by
  induction a generalizing w s with
  | nil => rfl
  | cons v a ih =>
    simp only [List.cons_append, trun]
    cases tstep w s v with
    | none => rfl
    | some x => exact ih _ _
theorem trun_up {w s : List Int} {v : Int} {r : List Int} (h : isUp w v = true) : trun w s (v :: r) = trun w.tail s r := by simp [trun, tstep, h]
theorem trun_down {w s : List Int} {v : Int} {r : List Int} (h : isUp w v = false) (hs : v ∉ s) : trun w s (v :: r) = trun (v :: w) (v :: s) r := by simp [trun, tstep, h, hs]
theorem trun_bad {w s : List Int} {v : Int} {r : List Int} (h : isUp w v = false) (hs : v ∈ s) : trun w s (v :: r) = none := by simp [trun, tstep, h, hs]
/-- a step that is done is one of the two -/
theorem trun_cons {w s : List Int} {v : Int} {r : List Int} {x : List Int × List Int} (h : trun w s (v :: r) = some x) :
    (isUp w v = true ∧ trun w.tail s r = some x) ∨ (isUp w v = false ∧ v ∉ s ∧ trun (v :: w) (v :: s) r = some x) := by
  cases hu : isUp w v with
  | true => rw [trun_up hu] at h; exact .inl ⟨rfl, h⟩
  | false =>
    by_cases hs : v ∈ s
    · rw [trun_bad hu hs] at h; simp at h
    · rw [trun_down hu hs] at h; exact .inr ⟨rfl, hs, h⟩
theorem isUp_some {w : List Int} {v : Int} (h : isUp w v = true) : ∃ c q, w = c :: v :: q := by
  match w, h with
  | c :: p :: q, h => simp [isUp] at h; exact ⟨c, q, by rw [h]⟩
theorem isUp_mem {w : List Int} {v : Int} (h : isUp w v = true) : v ∈ w := by obtain ⟨c, q, rfl⟩ := isUp_some h; simp

/-- what is seen: what was, and what stands in the list -/
theorem trun_seen {t w s w' s' : List Int} (h : trun w s t = some (w', s')) (hw : ∀ x ∈ w, x ∈ s) : (∀ x, x ∈ s' ↔ x ∈ s ∨ x ∈ t) ∧ ∀ x ∈ w', x ∈ s' := by
  induction t generalizing w s with
  | nil => simp [trun] at h; obtain ⟨rfl, rfl⟩ := h; exact ⟨fun x => by simp, hw⟩
  | cons v r ih =>
    rcases trun_cons h with ⟨hu, h1⟩ | ⟨hu, hs, h1⟩
    · obtain ⟨a, b⟩ := ih h1 (fun x hx => hw x (List.mem_of_mem_tail hx))
      refine ⟨fun x => ?_, b⟩
      rw [a x]
      have := hw v (isUp_mem hu)
      simp
      constructor
      · rintro (h | h) <;> simp [h]
      · rintro (h | rfl | h)
        · exact .inl h
        · exact .inl this
        · exact .inr h
    · obtain ⟨a, b⟩ := ih h1 (fun x hx => by rcases List.mem_cons.1 hx with rfl | hx; · simp
                                             · exact List.mem_cons_of_mem _ (hw x hx))
      refine ⟨fun x => ?_, b⟩
      rw [a x]
      simp
      constructor
      · rintro ((h | h) | h) <;> simp [h]
      · rintro (h | h | h) <;> simp [h]
theorem trun_nodup {t w s w' s' : List Int} (h : trun w s t = some (w', s')) (hs : s.Nodup) : s'.Nodup := by
  induction t generalizing w s with
  | nil => simp [trun] at h; obtain ⟨rfl, rfl⟩ := h; exact hs
  | cons v r ih =>
    rcases trun_cons h with ⟨hu, h1⟩ | ⟨hu, hv, h1⟩
    · exact ih h1 hs
    · exact ih h1 (List.nodup_cons.2 ⟨hv, hs⟩)
theorem trun_len {t w s w' s' : List Int} (h : trun w s t = some (w', s')) : t.length + w'.length + 2 * s.length = w.length + 2 * s'.length := by
  induction t generalizing w s with
  | nil => simp [trun] at h; obtain ⟨rfl, rfl⟩ := h; simp
  | cons v r ih =>
    rcases trun_cons h with ⟨hu, h1⟩ | ⟨hu, hv, h1⟩
    · obtain ⟨c, q, rfl⟩ := isUp_some hu
      have := ih h1
      simp at this ⊢
      omega
    · have := ih h1
      simp at this ⊢
      omega
/-- the way has the last one of the list on top, the root at its foot -/
theorem trun_foot {t w s w' s' : List Int} (h : trun w s t = some (w', s')) (hw : w ≠ []) : w' ≠ [] ∧ w'.getLast? = w.getLast? := by
  induction t generalizing w s with
  | nil => simp [trun] at h; obtain ⟨rfl, rfl⟩ := h; exact ⟨hw, rfl⟩
  | cons v r ih =>
    rcases trun_cons h with ⟨hu, h1⟩ | ⟨hu, hv, h1⟩
    · obtain ⟨c, q, rfl⟩ := isUp_some hu
      obtain ⟨a, b⟩ := ih h1 (by simp)
      exact ⟨a, by rw [b]; simp [List.getLast?_cons_cons]⟩
    · obtain ⟨a, b⟩ := ih h1 (by simp)
      refine ⟨a, b.trans ?_⟩
      cases w with
      | nil => exact absurd rfl hw
      | cons c q => simp [List.getLast?_cons_cons]
theorem trun_top {t w s w' s' : List Int} {z : Int} (h : trun w s (t ++ [z]) = some (w', s')) : w'.head? = some z := by
  rw [trun_append] at h
  cases hq : trun w s t with
  | none => rw [hq] at h; simp at h
  | some x =>
    rw [hq] at h
    rcases trun_cons h with ⟨hu, h1⟩ | ⟨hu, hv, h1⟩
    · obtain ⟨c, q, e⟩ := isUp_some hu
      simp [trun] at h1
      rw [← h1.1, e]
      rfl
    · simp [trun] at h1
      rw [← h1.1]
      rfl

theorem tB_iff (t : List Int) : tB t = true ↔ (∀ v ∈ t, vB v = true) ∧ ∃ x s, trun [] [] t = some ([x], s) := by
  unfold tB
  rw [Bool.and_eq_true, List.all_eq_true]
  refine and_congr Iff.rfl ?_
  cases trun [] [] t with
  | none => simp
  | some p =>
    obtain ⟨w, s⟩ := p
    simp
    constructor
    · intro h
      match w, h with
      | [x], _ => exact ⟨x, rfl⟩
    · rintro ⟨x, rfl⟩; rfl
/-- a right tour, opened -/
theorem tB_open {t : List Int} (h : tB t = true) : ∃ x r s, t = x :: r ∧ trun [x] [x] r = some ([x], s) ∧ (∀ v ∈ t, vB v = true) ∧ (r = [] ∨ ∃ q, r = q ++ [x]) := by
  obtain ⟨hv, x, s, h⟩ := (tB_iff t).1 h
  cases t with
  | nil => simp [trun] at h
  | cons y r =>
    rw [trun_down (by rfl) (by simp)] at h
    have hf := (trun_foot h (by simp)).2
    simp at hf
    subst hf
    refine ⟨x, r, s, rfl, h, hv, ?_⟩
    rcases List.eq_nil_or_concat r with rfl | ⟨q, z, e⟩
    · exact .inl rfl
    · rw [List.concat_eq_append] at e
      subst e
      have := trun_top h
      simp at this
      subst this
      exact .inr ⟨q, rfl⟩
theorem tB_of {x : Int} {r s : List Int} (hv : ∀ v ∈ x :: r, vB v = true) (h : trun [x] [x] r = some ([x], s)) : tB (x :: r) = true :=
  (tB_iff _).2 ⟨hv, x, s, by rw [trun_down (by rfl) (by simp)]; exact h⟩
theorem tB_ne {t : List Int} (h : tB t = true) : t ≠ [] := by obtain ⟨x, r, s, rfl, _⟩ := tB_open h; simp

/-- so many numbers below n, no two alike, are n at most -/
theorem nodup_le (n : Nat) (s : List Int) (hs : s.Nodup) (hv : ∀ v ∈ s, 0 ≤ v ∧ v < (n : Int)) : s.length ≤ n := by
  induction n generalizing s with
  | zero =>
    cases s with
    | nil => simp
    | cons a s => have := hv a (by simp); omega
  | succ n ih =>
    by_cases hm : (n : Int) ∈ s
    · have h1 := ih (s.erase (n : Int)) (hs.erase _) (fun v hv' => by
        obtain ⟨h2, h3⟩ := (hs.mem_erase_iff).1 hv'
        have := hv v h3
        omega)
      rw [List.length_erase_of_mem hm] at h1
      omega
    · have h1 := ih s hs (fun v hv' => by
        have := hv v hv'
        have : v ≠ (n : Int) := fun e => hm (e ▸ hv')
        omega)
      omega
theorem nodup_short (s : List Int) (hs : s.Nodup) (hv : ∀ v ∈ s, vB v = true) : s.length ≤ 12 :=
  nodup_le 12 s hs fun v h => by have := hv v h; simpa [vB] using this
theorem tB_len {t : List Int} (h : tB t = true) : 1 ≤ t.length ∧ t.length ≤ 23 := by
  obtain ⟨hv, x, s, h⟩ := (tB_iff t).1 h
  have hl := trun_len h
  have hs := trun_nodup h (by simp)
  have hm := (trun_seen h (by simp)).1
  have := nodup_short s hs (fun v hvs => hv v (by rcases (hm v).1 hvs with h | h; · simp at h
                                                  · exact h))
  simp at hl
  omega
end Go.Proofs.Ytcpffonenhhfoab
