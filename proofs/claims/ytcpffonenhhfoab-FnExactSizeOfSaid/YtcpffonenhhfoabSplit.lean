/- A tour that is split at an edge, as lists. -/
import Derived.Test.YtcpffonenhhfoabRer
import Derived.Test.YtcpffonenhhfoabFind6b
namespace Go.Proofs.Ytcpffonenhhfoab
open Go.RowKit

/-- a place of a step that is there -/
theorem go_at {t : List Int} {u v : Int} : (∃ k : Nat, goI t u v = (k : Int) ∧ k + 1 < t.length ∧ t[k]? = some u ∧ t[k + 1]? = some v ∧ ∀ j, j < k → goP t u v j = false) ∨ (goI t u v = -1 ∧ ∀ j, j + 1 < t.length → goP t u v j = false) := by
  rcases firstN_cases (goP t u v) (t.length - 1) with ⟨k, h1, h2, h3, h4⟩ | ⟨h1, h2⟩
  · refine .inl ⟨k, h4, by omega, ?_, ?_, h3⟩
    · simp [goP] at h2; exact h2.1
    · simp [goP] at h2; exact h2.2
  · exact .inr ⟨h2, fun j hj => h1 j (by omega)⟩

/-- the step from u to v is in the list -/
theorem goP_append_right {a b : List Int} {u v : Int} {j : Nat} (h : goP b u v j = true) : goP (a ++ b) u v (a.length + j) = true := by
  simp [goP] at h ⊢
  exact ⟨by rw [List.getElem?_append_right (by omega)]; simpa using h.1, by rw [List.getElem?_append_right (by omega)]; simpa [show a.length + j + 1 - a.length = j + 1 by omega] using h.2⟩

/-- a way that has the step from p up to q, or on whose way down q stands right above p, sees the step p to q: a walk that has gone down from q to p and comes to its end at the root goes back from p to q -/
theorem up_there {r : List Int} {w s w' s' : List Int} {p q : Int} {A B : List Int} (h : trun w s r = some (w', s')) (hw : w = A ++ p :: q :: B) (hl : w'.length ≤ B.length + 1) (x : List Int) (hx : w.head? = (x.getLast?)) :
    ∃ j, goP (x ++ r) p q j = true := by
  induction r generalizing w s A x with
  | nil =>
    simp [trun] at h
    rw [← h.1, hw] at hl
    simp at hl
    omega
  | cons v r ih =>
    have hxv : (x ++ [v]).getLast? = some v := by simp
    rcases trun_cons h with ⟨hu, h1⟩ | ⟨hu, hs, h1⟩
    · obtain ⟨c, z, e⟩ := isUp_some hu
      cases A with
      | nil =>
        rw [hw] at e
        simp at e
        obtain ⟨rfl, rfl, _⟩ := e
        -- the step is here
        rw [hw] at hx
        simp at hx
        rcases List.eq_nil_or_concat x with rfl | ⟨y, z2, e2⟩
        · simp at hx
        · rw [List.concat_eq_append] at e2
          subst e2
          simp at hx
          subst hx
          refine ⟨y.length, ?_⟩
          simp [goP]
      | cons d A =>
        have hw2 : w.tail = A ++ p :: q :: B := by rw [hw]; rfl
        have hh : w.tail.head? = some v := by rw [e]; rfl
        obtain ⟨j, hj⟩ := ih h1 hw2 (x ++ [v]) (by rw [hh, hxv])
        rw [List.append_assoc] at hj
        exact ⟨j, hj⟩
    · obtain ⟨j, hj⟩ := ih h1 (A := v :: A) (by rw [hw]; rfl) (x ++ [v]) (by rw [hxv]; rfl)
      rw [List.append_assoc] at hj
      exact ⟨j, hj⟩

theorem goP_append_left {a b : List Int} {u v : Int} {j : Nat} (h : goP a u v j = true) : goP (a ++ b) u v j = true := by
  simp [goP] at h ⊢
  have h1 := (List.getElem?_eq_some_iff.1 h.1).1
  have h2 := (List.getElem?_eq_some_iff.1 h.2).1
  exact ⟨by rw [List.getElem?_append_left h1]; exact h.1, by rw [List.getElem?_append_left h2]; exact h.2⟩
/-- where c stands right above p on the way, the list x has gone from p to c -/
def Adj (w x : List Int) : Prop := ∀ A c p B, w = A ++ c :: p :: B → ∃ j, goP x p c j = true
theorem adj_run {r : List Int} {w s w' s' x : List Int} (h : trun w s r = some (w', s')) (hA : Adj w x) (hx : w.head? = x.getLast?) : Adj w' (x ++ r) := by
  induction r generalizing w s x with
  | nil =>
    simp [trun] at h
    rw [← h.1, List.append_nil]
    exact hA
  | cons v r ih =>
    have hxv : (x ++ [v]).getLast? = some v := by simp
    rcases trun_cons h with ⟨hu, h1⟩ | ⟨hu, hs, h1⟩
    · obtain ⟨c, z, e⟩ := isUp_some hu
      have h2 : Adj w.tail (x ++ [v]) := fun A c2 p B e2 => by
        obtain ⟨j, hj⟩ := hA (c :: A) c2 p B (by rw [e] at e2 ⊢; simp at e2; rw [e2]; rfl)
        exact ⟨j, goP_append_left hj⟩
      have := ih h1 h2 (by rw [hxv, e]; rfl)
      rw [List.append_assoc] at this
      exact this
    · have h2 : Adj (v :: w) (x ++ [v]) := fun A c2 p B e2 => by
        cases A with
        | nil =>
          simp at e2
          obtain ⟨rfl, e2⟩ := e2
          rw [e2] at hx
          simp at hx
          rcases List.eq_nil_or_concat x with rfl | ⟨y, z2, e3⟩
          · simp at hx
          · rw [List.concat_eq_append] at e3
            subst e3
            simp at hx
            subst hx
            exact ⟨y.length, by simp [goP]⟩
        | cons d A =>
          simp at e2
          obtain ⟨j, hj⟩ := hA A c2 p B e2.2
          exact ⟨j, goP_append_left hj⟩
      have := ih h1 h2 (by rw [hxv]; rfl)
      rw [List.append_assoc] at this
      exact this
/-- a right tour that goes along an edge goes back, too -/
theorem go_back {t : List Int} {u v : Int} (hB : tB t = true) {k : Nat} (h1 : t[k]? = some u) (h2 : t[k + 1]? = some v) : ∃ j, goP t v u j = true := by
  obtain ⟨_, x0, s0, hrun⟩ := (tB_iff t).1 hB
  have hk1 := (List.getElem?_eq_some_iff.1 h2).1
  obtain ⟨Y, hY⟩ : ∃ Y, Y = t.drop (k + 2) := ⟨_, rfl⟩
  have e1 : t = t.take (k + 1) ++ (v :: Y) := by
    rw [hY]
    have := List.take_append_drop (k + 1) t
    rw [List.drop_eq_getElem_cons hk1] at this
    have e : t[k + 1] = v := by rw [List.getElem?_eq_getElem hk1] at h2; simpa using h2
    rw [e] at this
    exact this.symm
  have e2 : t.take (k + 1) = t.take k ++ [u] := take_snocF t k u h1
  have hr := hrun
  rw [e1, trun_append] at hr
  cases hq : trun [] [] (t.take (k + 1)) with
  | none => rw [hq] at hr; simp at hr
  | some z =>
    obtain ⟨w, s⟩ := z
    rw [hq] at hr
    simp only [Option.bind_some] at hr
    have htop : w.head? = some u := by rw [e2] at hq; exact trun_top hq
    have hlast : (t.take (k + 1)).getLast? = some u := by rw [e2]; simp
    rcases trun_cons hr with ⟨hu, h3⟩ | ⟨hu, hs, h3⟩
    · obtain ⟨c, z, e⟩ := isUp_some hu
      rw [e] at htop
      simp at htop
      subst htop
      have hadj := adj_run (x := []) hq (fun A c p B e => by simp at e) rfl
      rw [List.nil_append] at hadj
      obtain ⟨j, hj⟩ := hadj [] c v z (by rw [e]; rfl)
      rw [e1]
      exact ⟨j, goP_append_left hj⟩
    · cases w with
      | nil => simp at htop
      | cons c B =>
        simp at htop
        subst htop
        obtain ⟨j, hj⟩ := up_there (A := []) (p := v) (q := c) (B := B) h3 rfl (by simp) [v] rfl
        refine ⟨(t.take (k + 1)).length + j, ?_⟩
        have := goP_append_right (a := t.take (k + 1)) hj
        rw [show t.take (k + 1) ++ ([v] ++ Y) = t from e1.symm] at this
        exact this
theorem go_both {t : List Int} {u v : Int} (hB : tB t = true) {k : Nat} (hk : goI t u v = (k : Int)) : ∃ p : Nat, goI t v u = (p : Int) ∧ p + 1 < t.length ∧ k + 1 < t.length := by
  rcases go_at (t := t) (u := u) (v := v) with ⟨k2, e, hkl, h1, h2, _⟩ | ⟨e, _⟩
  · have hkk : k = k2 := by omega
    subst hkk
    obtain ⟨j, hj⟩ := go_back hB h1 h2
    rcases go_at (t := t) (u := v) (v := u) with ⟨p, e2, hp, _⟩ | ⟨_, hn⟩
    · exact ⟨p, e2, hp, hkl⟩
    · have hj1 : j + 1 < t.length := by
        simp [goP] at hj
        exact (List.getElem?_eq_some_iff.1 hj.2).1
      rw [hn j hj1] at hj
      simp at hj
  · omega

/-- the part with the root, and the other one -/
def spT (t : List Int) (d p : Nat) : List Int × List Int × Bool := (t.take (d + 1) ++ t.drop (p + 2), (t.take (p + 1)).drop (d + 1), true)
/-- a tour, split at the edge of u and v -/
def spO (t : List Int) (u v : Int) : List Int × List Int × Bool :=
  if tB t = true ∧ 0 ≤ goI t u v then spT t (min (goI t u v) (goI t v u)).toNat (max (goI t u v) (goI t v u)).toNat else ([], [], false)
theorem spO_len (t : List Int) (u v : Int) : (spO t u v).1.length ≤ 200 ∧ (spO t u v).2.1.length ≤ 200 := by
  unfold spO
  by_cases h : tB t = true ∧ 0 ≤ goI t u v
  · rw [if_pos h]
    have := tB_len h.1
    simp [spT]
    omega
  · rw [if_neg h]; simp

/-- the answer: two lists, each of its own, and whether there are any -/
def T2Ans (w : World) (o : List Int × List Int × Bool) (e : Ending) (w' : World) : Prop :=
  ∃ a m c a' m' c' mid, e = .returned (.tuple #[.slice a m c, .slice a' m' c', .bool o.2.2]) ∧ w.heap.size ≤ mid ∧ RBox w' w.heap.size mid a m c o.1 ∧ RBox w' mid w'.heap.size a' m' c' o.2.1 ∧ Below w.heap.size w w'
/-- the same, where both may lie at one place -/
def S2Ans (w : World) (o : List Int × List Int × Bool) (e : Ending) (w' : World) : Prop :=
  ∃ a m c a' m' c', e = .returned (.tuple #[.slice a m c, .slice a' m' c', .bool o.2.2]) ∧ RBox w' w.heap.size w'.heap.size a m c o.1 ∧ RBox w' w.heap.size w'.heap.size a' m' c' o.2.1 ∧ Below w.heap.size w w'
theorem t2_no {w u : World} {o : List Int × List Int × Bool} (ho : o = ([], [], false)) (h : Below w.heap.size w u) : T2Ans w o (.returned (.tuple #[.slice none 0 0, .slice none 0 0, .bool false])) u := by
  subst ho
  exact ⟨none, 0, 0, none, 0, 0, w.heap.size, rfl, Nat.le_refl _, ⟨World.ownsRow_nil _ _ _ _, fun g hg => by simp [Value.ownBlock] at hg, h.size⟩, ⟨World.ownsRow_nil _ _ _ _, fun g hg => by simp [Value.ownBlock] at hg, Nat.le_refl _⟩, h⟩
end Go.Proofs.Ytcpffonenhhfoab
