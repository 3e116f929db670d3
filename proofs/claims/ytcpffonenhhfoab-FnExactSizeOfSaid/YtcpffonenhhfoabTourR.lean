/- A tour from another of its vertices on is a tour; two that are joined are one; one that is split is two: pure. -/
import Derived.Test.YtcpffonenhhfoabTourP
namespace Go.Proofs.Ytcpffonenhhfoab

/-- what is seen matters as a set alone: fewer, more or others beside -/
theorem trun_less {r w s w1 s1 s' : List Int} (h : trun w s r = some (w1, s1)) (hs : ∀ x ∈ s', x ∈ s) : ∃ s1', trun w s' r = some (w1, s1') := by
  induction r generalizing w s s' with
  | nil => simp [trun] at h; exact ⟨s', by simp [trun, h.1]⟩
  | cons v r ih =>
    rcases trun_cons h with ⟨hu, h1⟩ | ⟨hu, hv, h1⟩
    · obtain ⟨s1', h2⟩ := ih h1 hs
      exact ⟨s1', by rw [trun_up hu]; exact h2⟩
    · obtain ⟨s1', h2⟩ := ih h1 (s' := v :: s') (fun x hx => by
        rcases List.mem_cons.1 hx with rfl | hx
        · simp
        · exact List.mem_cons_of_mem _ (hs x hx))
      exact ⟨s1', by rw [trun_down hu (fun h3 => hv (hs v h3))]; exact h2⟩
/-- the same run further up, over another way, with more that was seen: nothing of that stands in the list -/
theorem trun_over {r w s w1 s1 E s' : List Int} (h : trun w s r = some (w1, s1)) (hw : w ≠ []) (hs : ∀ x ∈ s', x ∈ s ∨ x ∉ r) (hE : ∀ x ∈ E, x ∈ s ∨ x ∉ r) : ∃ s1', trun (w ++ E) s' r = some (w1 ++ E, s1') := by
  induction r generalizing w s s' with
  | nil => simp [trun] at h; exact ⟨s', by simp [trun, h.1]⟩
  | cons v r ih =>
    rcases trun_cons h with ⟨hu, h1⟩ | ⟨hu, hv, h1⟩
    · obtain ⟨c, q, rfl⟩ := isUp_some hu
      obtain ⟨s1', h2⟩ := ih h1 (by simp) (fun x hx => (hs x hx).imp id (fun h3 h4 => h3 (List.mem_cons_of_mem _ h4))) (fun x hx => (hE x hx).imp id (fun h3 h4 => h3 (List.mem_cons_of_mem _ h4)))
      exact ⟨s1', by rw [trun_up (by simp [isUp])]; exact h2⟩
    · obtain ⟨s1', h2⟩ := ih h1 (by simp) (s' := v :: s') (fun x hx => by
          rcases List.mem_cons.1 hx with rfl | hx
          · exact .inl (by simp)
          · exact (hs x hx).imp (fun h3 => List.mem_cons_of_mem _ h3) (fun h3 h4 => h3 (List.mem_cons_of_mem _ h4))) (fun x hx => (hE x hx).imp (fun h3 => List.mem_cons_of_mem _ h3) (fun h3 h4 => h3 (List.mem_cons_of_mem _ h4)))
      have hvs : v ∉ s' := fun h3 => (hs v h3).elim hv (fun h4 => h4 (by simp))
      have hvE : v ∉ E := fun h3 => (hE v h3).elim hv (fun h4 => h4 (by simp))
      refine ⟨s1', ?_⟩
      rw [trun_down ?_ hvs]
      · exact h2
      · match w, hw with
        | [c], _ =>
          cases E with
          | nil => rfl
          | cons e E => simp [isUp]; rintro rfl; exact hvE (by simp)
        | c :: p :: q, _ => simpa [isUp] using hu
/-- what was seen and is not on the way does not stand in the list -/
theorem trun_avoid {r w s w1 s1 : List Int} (h : trun w s r = some (w1, s1)) {X : Int → Prop} (hX : ∀ x, X x → x ∈ s) (hw : ∀ x ∈ w, ¬ X x) : ∀ x ∈ r, ¬ X x := by
  induction r generalizing w s with
  | nil => simp
  | cons v r ih =>
    intro x hx
    rcases trun_cons h with ⟨hu, h1⟩ | ⟨hu, hv, h1⟩
    · rcases List.mem_cons.1 hx with rfl | hx
      · exact hw _ (isUp_mem hu)
      · exact ih h1 hX (fun y hy => hw y (List.mem_of_mem_tail hy)) x hx
    · rcases List.mem_cons.1 hx with rfl | hx
      · exact fun h2 => hv (hX _ h2)
      · exact ih h1 (fun y hy => List.mem_cons_of_mem _ (hX y hy)) (fun y hy => by
          rcases List.mem_cons.1 hy with rfl | hy
          · exact fun h2 => hv (hX _ h2)
          · exact hw y hy) x hx
theorem trun_way {r w s w1 s1 : List Int} (h : trun w s r = some (w1, s1)) (hn : w.Nodup) (hs : ∀ x ∈ w, x ∈ s) : w1.Nodup := by
  induction r generalizing w s with
  | nil => simp [trun] at h; rw [← h.1]; exact hn
  | cons v r ih =>
    rcases trun_cons h with ⟨hu, h1⟩ | ⟨hu, hv, h1⟩
    · exact ih h1 (hn.sublist (List.tail_sublist _)) (fun x hx => hs x (List.mem_of_mem_tail hx))
    · exact ih h1 (List.nodup_cons.2 ⟨fun h2 => hv (hs v h2), hn⟩) (fun x hx => by
        rcases List.mem_cons.1 hx with rfl | hx
        · simp
        · exact List.mem_cons_of_mem _ (hs x hx))

/-- the root c, left behind: a run over [d, c] that ends at c goes, from d on, to c below d -/
theorem trun_turn {r w s s1 : List Int} {c d : Int} {s' : List Int} (h : trun (w ++ [c]) s r = some ([c], s1)) (hw : w.getLast? = some d) (hs : ∀ x, x ∈ s ↔ x = c ∨ x ∈ s') (hc : c ∉ s') (hd : d ∈ s') : ∃ s1', trun w s' r = some ([c, d], s1') := by
  induction r generalizing w s s' with
  | nil =>
    simp [trun] at h
    rw [h.1] at hw
    simp at hw
  | cons v r ih =>
    match w, hw with
    | [e], hw =>
      simp at hw
      subst hw
      rcases trun_cons h with ⟨hu, h1⟩ | ⟨hu, hv, h1⟩
      · simp [isUp] at hu
        subst hu
        have h1' : trun [c] s r = some ([c], s1) := h1
        have hm : ∀ x ∈ c :: s', x ∈ s ∨ x ∉ r := fun x hx => .inl ((hs x).2 (by simpa using hx))
        obtain ⟨s1', h2⟩ := trun_over (E := [e]) h1' (by simp) hm (fun x hx => by simp at hx; subst hx; exact .inl ((hs x).2 (.inr hd)))
        exact ⟨s1', by rw [trun_down (by rfl) hc]; exact h2⟩
      · have hvc : v ≠ c := fun e => hv ((hs v).2 (.inl e))
        have hvs : v ∉ s' := fun e => hv ((hs v).2 (.inr e))
        obtain ⟨s1', h2⟩ := ih (w := [v, e]) (s' := v :: s') h1 (by simp) (fun x => by
          simp only [List.mem_cons, hs]
          constructor
          · rintro (h | h | h) <;> simp [h]
          · rintro (h | h | h) <;> simp [h]) (by simp [hc]; exact fun e => hvc e.symm) (by simp [hd])
        exact ⟨s1', by rw [trun_down (by rfl) hvs]; exact h2⟩
    | x :: y :: w, hw =>
      rcases trun_cons h with ⟨hu, h1⟩ | ⟨hu, hv, h1⟩
      · have hu' : isUp (x :: y :: w) v = true := by simpa [isUp] using hu
        obtain ⟨s1', h2⟩ := ih (w := y :: w) h1 (by simpa [List.getLast?_cons_cons] using hw) hs hc hd
        exact ⟨s1', by rw [trun_up hu']; exact h2⟩
      · have hu' : isUp (x :: y :: w) v = false := by simpa [isUp] using hu
        have hvc : v ≠ c := fun e => hv ((hs v).2 (.inl e))
        have hvs : v ∉ s' := fun e => hv ((hs v).2 (.inr e))
        obtain ⟨s1', h2⟩ := ih (w := v :: x :: y :: w) (s' := v :: s') h1 (by simpa [List.getLast?_cons_cons] using hw) (fun z => by
          simp only [List.mem_cons, hs]
          constructor
          · rintro (h | h | h) <;> simp [h]
          · rintro (h | h | h) <;> simp [h]) (by simp [hc]; exact fun e => hvc e.symm) (by simp [hd])
        exact ⟨s1', by rw [trun_down hu' hvs]; exact h2⟩
/-- a tour from its second vertex on -/
theorem tour_turn {c d : Int} {m : List Int} (h : tB (c :: d :: (m ++ [c])) = true) : tB (d :: (m ++ [c] ++ [d])) = true := by
  obtain ⟨x, r, s, e, hr, hv, _⟩ := tB_open h
  simp at e
  obtain ⟨rfl, rfl⟩ := e
  rcases trun_cons hr with ⟨hu, _⟩ | ⟨hu, hd, h1⟩
  · simp [isUp] at hu
  · have hdc : d ≠ c := by simpa using hd
    obtain ⟨s1', h2⟩ := trun_turn (w := [d]) (d := d) (s' := [d]) h1 (by simp) (fun x => by simp; exact or_comm) (by simp; exact fun e => hdc e.symm) (by simp)
    refine tB_of (s := s1') (fun v hv' => hv v ?_) ?_
    · simp at hv' ⊢
      rcases hv' with h | h | h | h <;> simp [h]
    · rw [trun_append, h2]
      simp [trun, tstep, isUp]
/-- a tour is a ring of vertices, cut at one of them -/
theorem tour_ring {t : List Int} (h : tB t = true) : (∃ x, t = [x]) ∨ ∃ c d m, t = c :: d :: (m ++ [c]) := by
  obtain ⟨x, r, s, rfl, hr, _, hq⟩ := tB_open h
  rcases hq with rfl | ⟨q, rfl⟩
  · exact .inl ⟨x, rfl⟩
  · cases q with
    | nil =>
      simp [trun, tstep, isUp] at hr
    | cons d m => exact .inr ⟨x, d, m, by simp⟩
/-- the ring, cut at its place k -/
def cutAt (q : List Int) (k : Nat) : List Int := q.drop k ++ (q.take k ++ (q[k]?).toList)
theorem tour_cut {q : List Int} (h : tB (cutAt q 0) = true) (k : Nat) (hk : k < q.length) : tB (cutAt q k) = true := by
  induction k with
  | zero => exact h
  | succ k ih =>
    have h1 := ih (by omega)
    have e1 : q.drop k = q[k]'(by omega) :: q[k + 1] :: q.drop (k + 2) := by
      rw [List.drop_eq_getElem_cons (by omega), List.drop_eq_getElem_cons hk]
    have e2 : cutAt q k = q[k]'(by omega) :: q[k + 1] :: ((q.drop (k + 2) ++ q.take k) ++ [q[k]'(by omega)]) := by
      unfold cutAt
      rw [e1, List.getElem?_eq_getElem (by omega)]
      simp only [Option.toList_some, List.cons_append, List.append_assoc]
    rw [e2] at h1
    have h2 := tour_turn h1
    have e3 : cutAt q (k + 1) = q[k + 1] :: (q.drop (k + 2) ++ q.take k ++ [q[k]'(by omega)] ++ [q[k + 1]]) := by
      unfold cutAt
      rw [List.drop_eq_getElem_cons hk, List.getElem?_eq_getElem hk, List.take_succ_eq_append_getElem (by omega)]
      simp only [Option.toList_some, List.cons_append, List.append_assoc]
    rw [e3]
    exact h2
end Go.Proofs.Ytcpffonenhhfoab
