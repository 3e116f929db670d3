/- Edges that ascend: where one is put in, and what is left without one. (No walk.) -/
import Derived.Test.YtfkoddhojcjohaaSHas
namespace Go.Proofs.Ytfkoddhojcjohaa

theorem lt_iff (d e : EdgeV) : lt d e = true ↔ (d.1 < e.1 ∨ d.1 = e.1 ∧ d.2 < e.2) := by unfold lt; rw [decide_eq_true_iff]
theorem lt_trans' {a b c : EdgeV} (h1 : lt a b = true) (h2 : lt b c = true) : lt a c = true := by rw [lt_iff] at *; omega
theorem lt_asymm' {a b : EdgeV} (h1 : lt a b = true) : lt b a = false := by
  cases h : lt b a with
  | false => rfl
  | true => rw [lt_iff] at *; omega
theorem lt_irrefl' (a : EdgeV) : lt a a = false := by
  cases h : lt a a with
  | false => rfl
  | true => rw [lt_iff] at h; omega
theorem lt_total' {a b : EdgeV} (h1 : lt a b = false) (h2 : a ≠ b) : lt b a = true := by
  have h3 : ¬ (a.1 < b.1 ∨ a.1 = b.1 ∧ a.2 < b.2) := fun h => by rw [(lt_iff a b).2 h] at h1; cases h1
  rw [lt_iff]
  by_cases h4 : a.1 = b.1
  · have h5 : ¬ a.2 = b.2 := fun h5 => h2 (Prod.ext h4 h5)
    omega
  · omega

/-- they ascend -/
def Asc (es : List EdgeV) : Prop := ∀ (i j : Nat) (d e : EdgeV), i < j → es[i]? = some d → es[j]? = some e → lt d e = true

theorem chk_all {n : Int} {es : List EdgeV} (h : chk n es = true) (j : Nat) (hj : j < es.length) : chkAt n es j = true := by
  unfold chk at h
  rw [List.all_eq_true] at h
  exact h j (List.mem_range.2 hj)
theorem chk_eB {n : Int} {es : List EdgeV} (h : chk n es = true) {e : EdgeV} (he : e ∈ es) : eB n e = true := by
  obtain ⟨j, hj, rfl⟩ := List.getElem_of_mem he
  have h1 := chk_all h j hj
  have h2 : es[j]? = some es[j] := List.getElem?_eq_getElem hj
  cases h3 : eB n es[j] with
  | true => rfl
  | false => rw [chkAt_no h2 h3] at h1; cases h1
theorem chk_next {n : Int} {es : List EdgeV} (h : chk n es = true) {i : Nat} {d e : EdgeV} (hd : es[i]? = some d) (he : es[i + 1]? = some e) : lt d e = true := by
  have h1 := chk_all h (i + 1) (List.getElem?_eq_some_iff.1 he).1
  rw [chkAt_succ he hd, Bool.and_eq_true] at h1
  exact h1.2
theorem asc_of_chk {n : Int} {es : List EdgeV} (h : chk n es = true) : Asc es := by
  intro i j d e hij hd he
  obtain ⟨k, rfl⟩ : ∃ k, j = i + 1 + k := ⟨j - i - 1, by omega⟩
  clear hij
  induction k generalizing e with
  | zero => exact chk_next h hd he
  | succ k ih =>
    have hl := (List.getElem?_eq_some_iff.1 he).1
    have h2 : es[i + 1 + k]? = some (es[i + 1 + k]'(by omega)) := List.getElem?_eq_getElem (by omega)
    exact lt_trans' (ih _ h2) (chk_next h h2 he)

/-- p parts what comes ahead of e from the rest -/
def Split (es : List EdgeV) (e : EdgeV) (p : Nat) : Prop :=
  p ≤ es.length ∧ (∀ m d, m < p → es[m]? = some d → lt d e = true) ∧ (∀ m d, p ≤ m → es[m]? = some d → lt d e = false)

/-- the edge in its place, as the specification puts it -/
def putE (es : List EdgeV) (e : EdgeV) : List EdgeV := es.filter (fun d => lt d e) ++ [e] ++ es.filter (fun d => lt e d)
/-- all but the edge -/
def outE (es : List EdgeV) (e : EdgeV) : List EdgeV := es.filter (fun d => decide (d ≠ e))

theorem mem_take_at {es : List EdgeV} {p : Nat} {d : EdgeV} (h : d ∈ es.take p) : ∃ m, m < p ∧ es[m]? = some d := by
  obtain ⟨m, hm, rfl⟩ := List.getElem_of_mem h
  have h1 : m < p := by simp at hm; omega
  exact ⟨m, h1, by rw [List.getElem_take]; exact List.getElem?_eq_getElem _⟩
theorem mem_drop_at {es : List EdgeV} {p : Nat} {d : EdgeV} (h : d ∈ es.drop p) : ∃ m, p ≤ m ∧ es[m]? = some d := by
  obtain ⟨m, hm, rfl⟩ := List.getElem_of_mem h
  exact ⟨p + m, by omega, by rw [List.getElem_drop]; exact List.getElem?_eq_getElem _⟩

theorem put_split {es : List EdgeV} {e : EdgeV} {p : Nat} (hs : Split es e p) (hn : e ∉ es) : putE es e = es.take p ++ [e] ++ es.drop p := by
  have hd : es = es.take p ++ es.drop p := (List.take_append_drop p es).symm
  unfold putE
  have a1 : (es.take p).filter (fun d => lt d e) = es.take p := List.filter_eq_self.2 fun d hm => by
    obtain ⟨m, h1, h2⟩ := mem_take_at hm
    exact hs.2.1 m d h1 h2
  have a2 : (es.drop p).filter (fun d => lt d e) = [] := List.filter_eq_nil_iff.2 fun d hm => by
    obtain ⟨m, h1, h2⟩ := mem_drop_at hm
    rw [hs.2.2 m d h1 h2]; simp
  have b1 : (es.take p).filter (fun d => lt e d) = [] := List.filter_eq_nil_iff.2 fun d hm => by
    obtain ⟨m, h1, h2⟩ := mem_take_at hm
    rw [lt_asymm' (hs.2.1 m d h1 h2)]; simp
  have b2 : (es.drop p).filter (fun d => lt e d) = es.drop p := List.filter_eq_self.2 fun d hm => by
    obtain ⟨m, h1, h2⟩ := mem_drop_at hm
    exact lt_total' (hs.2.2 m d h1 h2) fun h3 => hn (h3 ▸ List.mem_of_getElem? h2)
  have c1 : es.filter (fun d => lt d e) = es.take p := by
    rw [hd, List.filter_append, ← hd, a1, a2, List.append_nil]
  have c2 : es.filter (fun d => lt e d) = es.drop p := by
    rw [hd, List.filter_append, ← hd, b1, b2, List.nil_append]
  rw [c1, c2]

theorem out_at {es : List EdgeV} {e : EdgeV} {p : Nat} (ha : Asc es) (hp : es[p]? = some e) : outE es e = es.take p ++ es.drop (p + 1) := by
  have hl := (List.getElem?_eq_some_iff.1 hp).1
  have hd : es = es.take p ++ es.drop p := (List.take_append_drop p es).symm
  have h1 : es.drop p = e :: es.drop (p + 1) := by
    rw [List.drop_eq_getElem_cons hl, (List.getElem?_eq_some_iff.1 hp).2]
  unfold outE
  have a1 : (es.take p).filter (fun d => decide (d ≠ e)) = es.take p := List.filter_eq_self.2 fun d hm => by
    obtain ⟨m, h2, h3⟩ := mem_take_at hm
    have h4 := ha m p d e h2 h3 hp
    exact decide_eq_true fun h5 => by rw [h5, lt_irrefl'] at h4; cases h4
  have a2 : (es.drop (p + 1)).filter (fun d => decide (d ≠ e)) = es.drop (p + 1) := List.filter_eq_self.2 fun d hm => by
    obtain ⟨m, h2, h3⟩ := mem_drop_at hm
    have h4 := ha p m e d (by omega) hp h3
    exact decide_eq_true fun h5 => by rw [h5, lt_irrefl'] at h4; cases h4
  have c1 : es.filter (fun d => decide (d ≠ e)) = es.take p ++ es.drop (p + 1) := by
    rw [hd, List.filter_append, ← hd, a1, h1, List.filter_cons_of_neg (by simp), a2]
  exact c1

/-- AddEdge -/
def addE (N : Int) (es : List EdgeV) (e : EdgeV) : Option (List EdgeV) := if gB N es = true ∧ eB N e = true ∧ hasB es e = false then some (putE es e) else none
/-- TakeEdge -/
def takE (N : Int) (es : List EdgeV) (e : EdgeV) : Option (List EdgeV) := if gB N es = true ∧ hasB es e = true then some (outE es e) else none

theorem gB_chk {N : Int} {es : List EdgeV} (h : gB N es = true) : (1 ≤ N ∧ N ≤ 12) ∧ chk N es = true ∧ es.length ≤ 66 := by
  unfold gB at h
  simp only [Bool.and_eq_true, decide_eq_true_eq] at h
  exact ⟨h.1, h.2.1, h.2.2⟩
theorem putE_length (es : List EdgeV) (e : EdgeV) : (putE es e).length ≤ 2 * es.length + 1 := by
  unfold putE
  have h1 := List.length_filter_le (fun d => lt d e) es
  have h2 := List.length_filter_le (fun d => lt e d) es
  simp only [List.length_append, List.length_cons, List.length_nil]
  omega
theorem outE_length (es : List EdgeV) (e : EdgeV) : (outE es e).length ≤ es.length := List.length_filter_le _ _
end Go.Proofs.Ytfkoddhojcjohaa
