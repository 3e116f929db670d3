/- What a tour that is split at one of its steps, and joined there again, is: pure. -/
import Derived.Test.YtcpffonenhhfoabTourS
namespace Go.Proofs.Ytcpffonenhhfoab

theorem no_stay {t : List Int} {x : Int} {j : Nat} (hB : tB t = true) (h1 : t[j]? = some x) (h2 : t[j + 1]? = some x) : False := by
  obtain ⟨_, x0, s0, hrun⟩ := (tB_iff t).1 hB
  have hj := (List.getElem?_eq_some_iff.1 h2).1
  have e1 : t = t.take (j + 1) ++ (x :: t.drop (j + 2)) := by
    have := List.take_append_drop (j + 1) t
    rw [List.drop_eq_getElem_cons hj] at this
    rw [List.getElem?_eq_getElem hj] at h2
    simp at h2
    rw [h2] at this
    exact this.symm
  have e2 : t.take (j + 1) = t.take j ++ [x] := take_snocF t j x h1
  rw [e1, trun_append] at hrun
  cases hq : trun [] [] (t.take (j + 1)) with
  | none => rw [hq] at hrun; simp at hrun
  | some z =>
    obtain ⟨w, s⟩ := z
    rw [hq] at hrun
    simp only [Option.bind_some] at hrun
    have htop : w.head? = some x := by rw [e2] at hq; exact trun_top hq
    obtain ⟨_, hw⟩ := trun_seen hq (by simp)
    have hn := trun_way hq (by simp) (by simp)
    rcases trun_cons hrun with ⟨hu, _⟩ | ⟨_, hs, _⟩
    · obtain ⟨c, z, rfl⟩ := isUp_some hu
      simp at htop
      subst htop
      simp at hn
    · cases w with
      | nil => simp at htop
      | cons c z => simp at htop; subst htop; exact hs (hw c (by simp))
theorem spl_is {t : List Int} {u v : Int} {k : Nat} (hB : tB t = true) (h1 : t[k]? = some u) (h2 : t[k + 1]? = some v) :
    ∃ A B p c, spO t u v = (A, B, true) ∧ spO t v u = (A, B, true) ∧ SpIs t A B p c ∧ ((u = p ∧ v = c) ∨ (u = c ∧ v = p)) := by
  rcases go_at (t := t) (u := u) (v := v) with ⟨k1, e1, _, a1, a2, a3⟩ | ⟨_, hn⟩
  · rcases go_at (t := t) (u := v) (v := u) with ⟨k2, e2, _, b1, b2, b3⟩ | ⟨_, hn⟩
    · have hne : k1 ≠ k2 := fun e => by
        subst e
        rw [a1] at b1
        simp at b1
        subst b1
        exact no_stay hB a1 a2
      have hs1 : spO t u v = spT t (min k1 k2) (max k1 k2) := by
        unfold spO
        rw [if_pos ⟨hB, by rw [e1]; omega⟩, e1, e2]
        congr 1
        · omega
        · omega
      have hs2 : spO t v u = spT t (min k1 k2) (max k1 k2) := by
        unfold spO
        rw [if_pos ⟨hB, by rw [e2]; omega⟩, e1, e2]
        congr 1
        · omega
        · omega
      rcases Nat.lt_or_gt_of_ne hne with h | h
      · rw [Nat.min_eq_left (by omega), Nat.max_eq_right (by omega)] at hs1 hs2
        refine ⟨_, _, u, v, hs1, hs2, split_is hB a1 a2 b2 h (fun j hj x1 x2 => ?_), .inl ⟨rfl, rfl⟩⟩
        have := b3 j hj
        simp [goP, x1, x2] at this
      · rw [Nat.min_eq_right (by omega), Nat.max_eq_left (by omega)] at hs1 hs2
        refine ⟨_, _, v, u, hs1, hs2, split_is hB b1 b2 a2 h (fun j hj x1 x2 => ?_), .inr ⟨rfl, rfl⟩⟩
        have := a3 j hj
        simp [goP, x1, x2] at this
    · obtain ⟨j, hj⟩ := go_back hB h1 h2
      have hj1 : j + 1 < t.length := by
        simp [goP] at hj
        exact (List.getElem?_eq_some_iff.1 hj.2).1
      rw [hn j hj1] at hj
      simp at hj
  · have := hn k (List.getElem?_eq_some_iff.1 h2).1
    simp [goP, h1, h2] at this
theorem jo_is {t A B : List Int} {p c : Int} (h : SpIs t A B p c) : ∃ J, joO A p B c = some J ∧ tB J = true ∧ J.length = t.length ∧ ∀ x, x ∈ J ↔ x ∈ t := by
  obtain ⟨k, hk, hkl, hkp⟩ := lst_mem h.high
  obtain ⟨r, hr, HR⟩ := re_is h.okb h.low
  obtain ⟨_, _, er⟩ := reO_some hr
  have hcom : comB A B = false := comB_no fun j hj => by
    rw [comP_at (List.getElem?_eq_getElem hj)]
    exact decide_eq_false fun hx => h.apart _ hx (List.getElem_mem hj)
  obtain ⟨j1, j2, j3⟩ := join_is h.oka HR.ok (fun x hx => h.apart x ((HR.mem x).1 hx)) hkp
  refine ⟨joT A k r, ?_, j1, ?_, fun x => ?_⟩
  · unfold joO
    rw [if_pos ⟨⟨h.oka, h.okb⟩, ⟨h.high, h.low⟩, hcom⟩, hk, ← er]
    rfl
  · rw [j2, HR.len]; have := h.len; omega
  · rw [j3, HR.mem, h.mem]
theorem spl_no {t : List Int} (hB : tB t = true) (hl : t.length < 3) (u v : Int) : spO t u v = ([], [], false) := by
  unfold spO
  rw [if_neg]
  rintro ⟨_, h0⟩
  rcases go_at (t := t) (u := u) (v := v) with ⟨k1, _, h1, _⟩ | ⟨e, _⟩
  · rcases tour_ring hB with ⟨x, rfl⟩ | ⟨c, d, m, rfl⟩
    · simp at h1
    · simp at hl; omega
  · omega
end Go.Proofs.Ytcpffonenhhfoab
