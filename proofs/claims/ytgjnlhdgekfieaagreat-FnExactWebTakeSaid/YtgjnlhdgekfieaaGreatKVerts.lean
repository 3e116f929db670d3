/- The program's JoinTours. What a tour that is rerooted, joined or split is: pure. What a tour that is split at one of its steps, and joined there again, is: pure. The edges that a right tour goes along: each is the only way between its ends, they hold all of its vertices together, and the tour has twice as many steps: pure. What a walk that closed no ring has gone along: pure. The vertices of a list of numbers, ascending; a sorted list without its repetitions: pure. -/
import Derived.Test.YtgjnlhdgekfieaaGreatKICom
import Derived.Test.YtgjnlhdgekfieaaGreatKWk
import Derived.Test.YtgjnlhdgekfieaaGreatKLaid
import Derived.Lib.SlicesCompact
namespace Go.Proofs.YtgjnlhdgekfieaaGreat
open Go.RowKit

/-- a up to the place k, r, and a from that place on -/
def joT (t : List Int) (k : Nat) (r : List Int) : List Int := t.take (k + 1) ++ (r ++ t.drop k)
/-- two tours, joined -/
def joO (ta : List Int) (u : Int) (tb : List Int) (v : Int) : Option (List Int) :=
  if (tB ta = true ∧ tB tb = true) ∧ (u ∈ ta ∧ v ∈ tb) ∧ comB ta tb = false then some (joT ta (lstI ta u).toNat (reT tb (fstI tb v).toNat v)) else none
theorem reO_none {t : List Int} {v : Int} (h : reO t v = none) : ¬ (tB t = true ∧ v ∈ t) := by
  unfold reO at h
  by_cases hc : tB t = true ∧ v ∈ t
  · rw [if_pos hc] at h; simp at h
  · exact hc
theorem reO_some {t r : List Int} {v : Int} (h : reO t v = some r) : tB t = true ∧ v ∈ t ∧ r = reT t (fstI t v).toNat v := by
  unfold reO at h
  by_cases hc : tB t = true ∧ v ∈ t
  · rw [if_pos hc] at h; simp at h; exact ⟨hc.1, hc.2, h.symm⟩
  · rw [if_neg hc] at h; simp at h
theorem lst_mem {t : List Int} {v : Int} (h : v ∈ t) : ∃ k : Nat, lstI t v = (k : Int) ∧ k < t.length ∧ t[k]? = some v := by
  rcases lastN_cases (atP t v) t.length with ⟨k, h1, h2, _, h4⟩ | ⟨h1, _⟩
  · exact ⟨k, h4, h1, by simpa [atP] using h2⟩
  · exact absurd h (mem_of_atP rfl h1)
theorem lst_no {t : List Int} {v : Int} (h : v ∉ t) : lstI t v = -1 := by
  rcases lastN_cases (atP t v) t.length with ⟨k, h1, h2, _, h4⟩ | ⟨_, h2⟩
  · exact absurd (List.mem_of_getElem? (by simpa [atP] using h2 : t[k]? = some v)) h
  · exact h2
theorem reT_len {t : List Int} {v : Int} (hB : tB t = true) (k : Nat) : (reT t k v).length ≤ 50 := by
  have := tB_len hB
  simp [reT]
  omega

end Go.Proofs.YtgjnlhdgekfieaaGreat
namespace Go.Proofs.YtgjnlhdgekfieaaGreat

theorem re_cut {t : List Int} {v : Int} {k : Nat} (hv : t[k]? = some v) (hk : k < t.length - 1) : reT t k v = cutAt (t.take (t.length - 1)) k := by
  unfold reT cutAt
  rw [List.getElem?_take_of_lt hk, hv, List.take_take, Nat.min_eq_left (by omega)]
  rfl
theorem ring_zero {t : List Int} (h : tB t = true) (hl : 1 < t.length) : cutAt (t.take (t.length - 1)) 0 = t := by
  rcases tour_ring h with ⟨x, rfl⟩ | ⟨c, d, m, rfl⟩
  · simp at hl
  · have e : (c :: d :: (m ++ [c])).take ((c :: d :: (m ++ [c])).length - 1) = c :: d :: m := by simp
    rw [e]
    simp [cutAt]
theorem cut_mem {q : List Int} {k : Nat} (hk : k < q.length) (x : Int) : x ∈ cutAt q k ↔ x ∈ q := by
  unfold cutAt
  rw [List.getElem?_eq_getElem hk]
  simp only [List.mem_append, Option.toList_some, List.mem_singleton]
  constructor
  · intro h
    rcases h with h | h | h
    · exact List.mem_of_mem_drop h
    · exact List.mem_of_mem_take h
    · rw [h]; exact List.getElem_mem hk
  · intro h
    rw [← List.take_append_drop k q, List.mem_append] at h
    rcases h with h | h
    · exact .inr (.inl h)
    · exact .inl h
theorem cut_len {q : List Int} {k : Nat} (hk : k < q.length) : (cutAt q k).length = q.length + 1 := by
  unfold cutAt
  rw [List.getElem?_eq_getElem hk]
  simp
  omega
/-- a step of the ring, cut at its first place, is one wherever it is cut -/
theorem cut_step {q : List Int} {k : Nat} (hk : k < q.length) {i : Nat} {u w : Int} (h1 : (cutAt q 0)[i]? = some u) (h2 : (cutAt q 0)[i + 1]? = some w) : ∃ j, (cutAt q k)[j]? = some u ∧ (cutAt q k)[j + 1]? = some w := by
  have hl := cut_len (q := q) (k := 0) (by omega)
  have hi : i < q.length := by have := (List.getElem?_eq_some_iff.1 h2).1; omega
  have e0 : cutAt q 0 = q ++ [q[0]] := by unfold cutAt; rw [List.getElem?_eq_getElem (by omega)]; simp
  have ek : cutAt q k = q.drop k ++ (q.take k ++ [q[k]]) := by unfold cutAt; rw [List.getElem?_eq_getElem hk]; simp
  have at0 : ∀ a, a < q.length → (cutAt q 0)[a]? = q[a]? := fun a ha => by rw [e0, List.getElem?_append_left ha]
  have atE : (cutAt q 0)[q.length]? = some (q[0]'(by omega)) := by rw [e0, List.getElem?_append_right (Nat.le_refl _)]; simp
  have atH : ∀ a, k ≤ a → a < q.length → (cutAt q k)[a - k]? = q[a]? := fun a h3 h4 => by
    rw [ek, List.getElem?_append_left (by rw [List.length_drop]; omega), List.getElem?_drop, show k + (a - k) = a by omega]
  have atL : ∀ a, a < k → (cutAt q k)[q.length - k + a]? = q[a]? := fun a h3 => by
    rw [ek, List.getElem?_append_right (by rw [List.length_drop]; omega), List.length_drop, show q.length - k + a - (q.length - k) = a by omega, List.getElem?_append_left (by rw [List.length_take]; omega), List.getElem?_take_of_lt h3]
  have atZ : (cutAt q k)[q.length]? = some q[k] := by
    rw [ek, List.getElem?_append_right (by rw [List.length_drop]; omega), List.length_drop, List.getElem?_append_right (by rw [List.length_take]; omega), List.length_take]
    rw [show q.length - (q.length - k) - min k q.length = 0 by omega]
    rfl
  rw [at0 i hi] at h1
  by_cases hik : k ≤ i
  · refine ⟨i - k, by rw [atH i hik hi]; exact h1, ?_⟩
    by_cases hl2 : i + 1 < q.length
    · rw [at0 _ hl2] at h2
      rw [show i - k + 1 = i + 1 - k by omega, atH _ (by omega) hl2]
      exact h2
    · rw [show i + 1 = q.length by omega, atE] at h2
      by_cases hk0 : k = 0
      · subst hk0
        rw [show i - 0 + 1 = q.length by omega, atZ]
        exact h2
      · have := atL 0 (by omega)
        rw [show i - k + 1 = q.length - k + 0 by omega, this, List.getElem?_eq_getElem (by omega)]
        exact h2
  · refine ⟨q.length - k + i, by rw [atL i (by omega)]; exact h1, ?_⟩
    rw [at0 _ (by omega)] at h2
    by_cases hl2 : i + 1 < k
    · rw [show q.length - k + i + 1 = q.length - k + (i + 1) by omega, atL _ hl2]
      exact h2
    · rw [show q.length - k + i + 1 = q.length by omega, atZ]
      have e : i + 1 = k := by omega
      subst e
      rw [List.getElem?_eq_getElem hk] at h2
      exact h2
/-- a tour from another of its vertices on -/
structure ReIs (t : List Int) (v : Int) (r : List Int) : Prop where
  ok : tB r = true
  len : r.length = t.length
  fst : r[0]? = some v
  mem : ∀ x, x ∈ r ↔ x ∈ t
  step : ∀ (i : Nat) (u w : Int), t[i]? = some u → t[i + 1]? = some w → ∃ j, r[j]? = some u ∧ r[j + 1]? = some w
theorem re_is {t : List Int} {v : Int} (hB : tB t = true) (hv : v ∈ t) : ∃ r, reO t v = some r ∧ ReIs t v r := by
  obtain ⟨k, hk, hkl, hkv, hkf⟩ := fst_at hv
  refine ⟨reT t k v, by unfold reO; rw [if_pos ⟨hB, hv⟩, hk]; rfl, ?_⟩
  rcases fst_lt hB hkl hkv hkf with h | ⟨h0, h1⟩
  · have hl : 1 < t.length := by omega
    have hq : k < (t.take (t.length - 1)).length := by simp; omega
    have e0 := ring_zero hB hl
    rw [re_cut hkv h]
    have hm : ∀ x, x ∈ t ↔ x ∈ t.take (t.length - 1) := fun x => by
      have := cut_mem (q := t.take (t.length - 1)) (k := 0) (by omega) x
      rw [e0] at this
      exact this
    refine ⟨tour_cut (by rw [e0]; exact hB) k hq, by rw [cut_len hq]; simp; omega, ?_, fun x => by rw [cut_mem hq, hm], fun i u w h1 h2 => ?_⟩
    · unfold cutAt
      rw [List.getElem?_append_left (by simp; omega), List.getElem?_drop, Nat.add_zero, List.getElem?_take_of_lt h]
      exact hkv
    · rw [← e0] at h1 h2
      exact cut_step hq h1 h2
  · subst h0
    match t, h1 with
    | [x], _ =>
      simp at hkv
      subst hkv
      exact ⟨hB, rfl, rfl, fun _ => Iff.rfl, fun i u w h1 h2 => ⟨i, h1, h2⟩⟩

/-- what goes down from p to c, above c until it comes back -/
theorem trun_above {M Y S W1 S1 B : List Int} {c p z : Int} (h : trun (Y ++ c :: p :: B) S M = some (W1, S1)) (hz : (Y ++ [c]).head? = some z) (hno : ∀ j, (z :: M)[j]? = some c → (z :: M)[j + 1]? = some p → False) :
    ∃ Y', W1 = Y' ++ c :: p :: B ∧ trun (Y ++ [c]) S M = some (Y' ++ [c], S1) := by
  induction M generalizing Y S z with
  | nil => simp [trun] at h; exact ⟨Y, h.1.symm, by simp [trun, h.2]⟩
  | cons v M ih =>
    have hno' : ∀ j, (v :: M)[j]? = some c → (v :: M)[j + 1]? = some p → False := fun j h1 h2 => hno (j + 1) (by simpa using h1) (by simpa using h2)
    have hsame : Y ≠ [] → isUp (Y ++ c :: p :: B) v = isUp (Y ++ [c]) v := by
      intro hY
      match Y, hY with
      | [y], _ => rfl
      | y :: y2 :: Y, _ => rfl
    rcases trun_cons h with ⟨hu, h1⟩ | ⟨hu, hv, h1⟩
    · cases Y with
      | nil =>
        simp [isUp] at hu
        simp at hz
        exact absurd (hno 0 (by simp [hz]) (by simp [hu])) (by simp)
      | cons y Y =>
        have hu2 : isUp (y :: Y ++ [c]) v = true := by rw [← hsame (by simp)]; exact hu
        obtain ⟨Y', e1, e2⟩ := ih (Y := Y) h1 (z := v) (by obtain ⟨c2, q2, e⟩ := isUp_some hu2; simp at e; rw [e.2]; rfl) hno'
        exact ⟨Y', e1, by rw [trun_up hu2]; exact e2⟩
    · have hu2 : isUp (Y ++ [c]) v = false := by
        cases Y with
        | nil => rfl
        | cons y Y => rw [← hsame (by simp)]; exact hu
      obtain ⟨Y', e1, e2⟩ := ih (Y := v :: Y) h1 (z := v) (by simp) hno'
      exact ⟨Y', e1, by rw [trun_down hu2 hv]; exact e2⟩

/-- the two parts of a tour that is split between p and c, p above c -/
structure SpIs (t a b : List Int) (p c : Int) : Prop where
  oka : tB a = true
  okb : tB b = true
  apart : ∀ x ∈ b, x ∉ a
  low : c ∈ b
  high : p ∈ a
  mem : ∀ x, x ∈ t ↔ x ∈ a ∨ x ∈ b
  fst : a[0]? = t[0]?
  len : a.length + b.length + 1 = t.length
theorem split_is {t : List Int} {p c : Int} {d q : Nat} (hB : tB t = true) (h1 : t[d]? = some p) (h2 : t[d + 1]? = some c) (h4 : t[q + 1]? = some p) (hdq : d < q)
    (hno : ∀ j, j < q → t[j]? = some c → t[j + 1]? = some p → False) : SpIs t (t.take (d + 1) ++ t.drop (q + 2)) ((t.take (q + 1)).drop (d + 1)) p c := by
  have hql := (List.getElem?_eq_some_iff.1 h4).1
  obtain ⟨hv, x, s, hrun⟩ := (tB_iff t).1 hB
  obtain ⟨A, hA⟩ : ∃ A, A = t.take (d + 1) := ⟨_, rfl⟩
  obtain ⟨M, hM⟩ : ∃ M, M = (t.take (q + 1)).drop (d + 2) := ⟨_, rfl⟩
  obtain ⟨D, hD⟩ : ∃ D, D = t.drop (q + 2) := ⟨_, rfl⟩
  have hb : (t.take (q + 1)).drop (d + 1) = c :: M := by
    rw [List.drop_eq_getElem_cons (by simp; omega), hM]
    congr 1
    rw [List.getElem?_eq_getElem (by omega)] at h2
    simpa using h2
  have hAp : A = t.take d ++ [p] := by rw [hA]; exact take_snocF t d p h1
  have ht : t = A ++ (c :: M ++ (p :: D)) := by
    have e1 : t = t.take (q + 1) ++ t.drop (q + 1) := (List.take_append_drop _ _).symm
    have e2 : t.drop (q + 1) = p :: D := by
      rw [List.drop_eq_getElem_cons (by omega), hD]
      congr 1
      rw [List.getElem?_eq_getElem (by omega)] at h4
      simpa using h4
    have e3 : t.take (q + 1) = (t.take (q + 1)).take (d + 1) ++ (t.take (q + 1)).drop (d + 1) := (List.take_append_drop _ _).symm
    rw [List.take_take, Nat.min_eq_left (by omega), hb, ← hA] at e3
    rw [e2, e3, List.append_assoc] at e1
    exact e1
  have hbl : (c :: M).length = q - d := by rw [← hb]; simp; omega
  have hat : ∀ j, j < q - d → (c :: M)[j]? = t[d + 1 + j]? := fun j hj => by
    rw [← hb, List.getElem?_drop, List.getElem?_take_of_lt (by omega)]
  rw [hb, ← hA, ← hD]
  rw [ht, trun_append] at hrun
  cases hq0 : trun [] [] A with
  | none => rw [hq0] at hrun; simp at hrun
  | some z =>
    obtain ⟨w, s0⟩ := z
    rw [hq0] at hrun
    simp only [Option.bind_some] at hrun
    have htop : w.head? = some p := by rw [hAp] at hq0; exact trun_top hq0
    obtain ⟨hs0, hw0⟩ := trun_seen hq0 (by simp)
    have hs0' : ∀ y, y ∈ s0 ↔ y ∈ A := fun y => by rw [hs0]; simp
    have hwn := trun_way hq0 (by simp) (by simp)
    have hpA : p ∈ A := by rw [hAp]; simp
    cases w with
    | nil => simp at htop
    | cons p' B =>
      simp at htop
      subst htop
      rcases trun_cons hrun with ⟨hu, _⟩ | ⟨hu, hcs, h5⟩
      · obtain ⟨c2, Z, e⟩ := isUp_some hu
        simp at e
        have hadj := adj_run (x := []) hq0 (fun A c p B e => by simp at e) rfl
        rw [List.nil_append] at hadj
        obtain ⟨j, hj⟩ := hadj [] p' c Z (by rw [e.2]; rfl)
        simp [goP] at hj
        have hj1 := (List.getElem?_eq_some_iff.1 hj.2).1
        rw [hA] at hj hj1
        simp at hj1
        rw [List.getElem?_take_of_lt (by omega), List.getElem?_take_of_lt (by omega)] at hj
        exact absurd (hno j (by omega) hj.1 hj.2) (by simp)
      · have hcw : (c :: p' :: B).Nodup := List.nodup_cons.2 ⟨fun h => hcs (hw0 c h), hwn⟩
        have hws : ∀ y ∈ c :: p' :: B, y ∈ c :: s0 := fun y hy => by
          rcases List.mem_cons.1 hy with rfl | hy
          · simp
          · exact List.mem_cons_of_mem _ (hw0 y hy)
        change trun (c :: p' :: B) (c :: s0) (M ++ (p' :: D)) = some ([x], s) at h5
        rw [trun_append] at h5
        cases hqM : trun (c :: p' :: B) (c :: s0) M with
        | none => rw [hqM] at h5; simp at h5
        | some z =>
          obtain ⟨w1, s1⟩ := z
          rw [hqM] at h5
          simp only [Option.bind_some] at h5
          obtain ⟨hs1, _⟩ := trun_seen hqM hws
          have hw1n := trun_way hqM hcw hws
          obtain ⟨Y', e1, e2⟩ := trun_above (Y := []) (z := c) hqM rfl (fun j ha hb2 => by
            have hj2 : j + 1 < q - d := by have := (List.getElem?_eq_some_iff.1 hb2).1; omega
            rw [hat j (by omega)] at ha
            rw [hat (j + 1) hj2] at hb2
            exact hno (d + 1 + j) (by omega) ha (by rw [show d + 1 + j + 1 = d + 1 + (j + 1) by omega]; exact hb2))
          have hcp : c ≠ p' := fun e => hcs (by rw [e]; exact (hs0' p').2 hpA)
          have hps1 : p' ∈ s1 := (hs1 p').2 (.inl (List.mem_cons_of_mem _ ((hs0' p').2 hpA)))
          have hY : Y' = [] := by
            rcases trun_cons h5 with ⟨hu2, _⟩ | ⟨_, hn, _⟩
            · cases Y' with
              | nil => rfl
              | cons y Y' =>
                exfalso
                rw [e1] at hu2 hw1n
                cases Y' with
                | nil => simp [isUp] at hu2; exact hcp hu2
                | cons y2 Y' =>
                  simp [isUp] at hu2
                  subst hu2
                  simp at hw1n
            · exact absurd hps1 hn
          subst hY
          rw [List.nil_append] at e1 e2
          subst e1
          have h6 : trun (p' :: B) s1 D = some ([x], s) := by
            rcases trun_cons h5 with ⟨_, h6⟩ | ⟨_, hn, _⟩
            · exact h6
            · exact absurd hps1 hn
          have e2' : trun [c] (c :: s0) M = some ([c], s1) := e2
          have hMs : ∀ y ∈ M, y ∉ s0 := trun_avoid e2' (X := fun y => y ∈ s0) (fun y hy => List.mem_cons_of_mem _ hy) (fun y hy => by simp at hy; subst hy; exact hcs)
          have hbs : ∀ y ∈ c :: M, y ∉ s0 := fun y hy => by
            rcases List.mem_cons.1 hy with rfl | hy
            · exact hcs
            · exact hMs y hy
          have hDb : ∀ y ∈ D, y ∉ c :: M := trun_avoid h6 (X := fun y => y ∈ c :: M) (fun y hy => (hs1 y).2 (by
              rcases List.mem_cons.1 hy with rfl | hy
              · exact .inl (by simp)
              · exact .inr hy)) (fun y hy h7 => hbs y h7 (hw0 y hy))
          have hvt : ∀ y, (y ∈ A ∨ y ∈ c :: M ∨ y ∈ D) → vB y = true := fun y hy => hv y (by
            rw [ht]
            simp at hy ⊢
            rcases hy with h | (h | h) | h <;> simp [h])
          refine ⟨?_, ?_, ?_, by simp, by simp [hpA], fun y => ?_, ?_, ?_⟩
          · obtain ⟨s2, h7⟩ := trun_less h6 (s' := s0) (fun y hy => (hs1 y).2 (.inl (List.mem_cons_of_mem _ hy)))
            refine (tB_iff _).2 ⟨fun y hy => hvt y ?_, x, s2, by rw [trun_append, hq0]; exact h7⟩
            simp at hy
            rcases hy with h | h <;> simp [h]
          · obtain ⟨s2, h7⟩ := trun_less e2' (s' := [c]) (fun y hy => by simp at hy; simp [hy])
            exact tB_of (fun y hy => hvt y (.inr (.inl hy))) h7
          · intro y hy h7
            rw [List.mem_append] at h7
            rcases h7 with h7 | h7
            · exact hbs y hy ((hs0' y).2 h7)
            · exact hDb y h7 hy
          · rw [ht]
            simp
            constructor
            · rintro (h | h | h | h | h)
              · simp [h]
              · simp [h]
              · simp [h]
              · rw [h]; simp [hpA]
              · simp [h]
            · rintro ((h | h) | h | h) <;> simp [h]
          · rw [hA, List.getElem?_append_left (by simp; omega), List.getElem?_take_of_lt (by omega)]
          · have e3 := congrArg List.length ht
            simp at e3 ⊢
            omega

/-- two tours of different vertices, joined -/
theorem join_is {a r : List Int} {u : Int} {k : Nat} (ha : tB a = true) (hr : tB r = true) (hap : ∀ x ∈ r, x ∉ a) (hk : a[k]? = some u) :
    tB (joT a k r) = true ∧ (joT a k r).length = a.length + r.length + 1 ∧ ∀ x, x ∈ joT a k r ↔ x ∈ a ∨ x ∈ r := by
  have hkl := (List.getElem?_eq_some_iff.1 hk).1
  have ej : joT a k r = a.take (k + 1) ++ (r ++ a.drop k) := rfl
  have ed : a.drop k = u :: a.drop (k + 1) := by
    rw [List.drop_eq_getElem_cons hkl]
    congr 1
    rw [List.getElem?_eq_getElem hkl] at hk
    simpa using hk
  have et : a.take (k + 1) = a.take k ++ [u] := take_snocF a k u hk
  have ea : a = a.take (k + 1) ++ a.drop (k + 1) := (List.take_append_drop _ _).symm
  have hua : u ∈ a := List.mem_of_getElem? hk
  obtain ⟨hva, x, s, hrun⟩ := (tB_iff a).1 ha
  obtain ⟨v', r', sr, er, hr2, hvr, _⟩ := tB_open hr
  refine ⟨?_, by rw [ej]; simp; omega, fun y => ?_⟩
  · rw [ea, trun_append] at hrun
    cases hq : trun [] [] (a.take (k + 1)) with
    | none => rw [hq] at hrun; simp at hrun
    | some z =>
      obtain ⟨w, s0⟩ := z
      rw [hq] at hrun
      simp only [Option.bind_some] at hrun
      have htop : w.head? = some u := by rw [et] at hq; exact trun_top hq
      obtain ⟨hs0, hw0⟩ := trun_seen hq (by simp)
      have hs0a : ∀ y ∈ s0, y ∈ a := fun y hy => by
        have := (hs0 y).1 hy
        simp at this
        exact List.mem_of_mem_take this
      cases w with
      | nil => simp at htop
      | cons u' B =>
        simp at htop
        subst htop
        have hvs : v' ∉ s0 := fun h => hap v' (by rw [er]; simp) (hs0a _ h)
        have hup : isUp (u' :: B) v' = false := by
          cases h : isUp (u' :: B) v' with
          | false => rfl
          | true => exact absurd (hw0 _ (isUp_mem h)) hvs
        have hr'a : ∀ y ∈ r', y ∉ a := fun y hy => hap y (by rw [er]; simp [hy])
        obtain ⟨s2, h3⟩ := trun_over (E := u' :: B) (s' := v' :: s0) hr2 (by simp) (fun y hy => by
            rcases List.mem_cons.1 hy with rfl | hy
            · exact .inl (by simp)
            · exact .inr (fun h => hr'a y h (hs0a y hy))) (fun y hy => .inr (fun h => hr'a y h (hs0a y (hw0 y hy))))
        obtain ⟨hs2, _⟩ := trun_seen h3 (fun y hy => by
          simp at hy ⊢
          rcases hy with h | h | h
          · exact .inl h
          · exact .inr (hw0 y (by simp [h]))
          · exact .inr (hw0 y (by simp [h])))
        obtain ⟨s3, h4⟩ := trun_over (E := []) (s' := s2) hrun (by simp) (fun y hy => by
          rcases (hs2 y).1 hy with h | h
          · rcases List.mem_cons.1 h with rfl | h
            · exact .inr (fun h5 => hap _ (by rw [er]; simp) (List.mem_of_mem_drop h5))
            · exact .inl h
          · exact .inr (fun h5 => hr'a y h (List.mem_of_mem_drop h5))) (by simp)
        refine (tB_iff _).2 ⟨fun y hy => ?_, x, s3, ?_⟩
        · rw [ej] at hy
          simp only [List.mem_append] at hy
          rcases hy with h | h | h
          · exact hva y (List.mem_of_mem_take h)
          · exact hvr y h
          · exact hva y (List.mem_of_mem_drop h)
        · rw [ej, ed, er, trun_append, hq, Option.bind_some, List.cons_append, trun_down hup hvs, trun_append]
          rw [show v' :: u' :: B = [v'] ++ u' :: B from rfl, h3, Option.bind_some]
          rw [trun_up (by simp [isUp])]
          simpa using h4
  · rw [ej]
    simp only [List.mem_append]
    constructor
    · rintro (h | h | h)
      · exact .inl (List.mem_of_mem_take h)
      · exact .inr h
      · exact .inl (List.mem_of_mem_drop h)
    · rintro (h | h)
      · rw [ea, List.mem_append] at h
        rcases h with h | h
        · exact .inl h
        · exact .inr (.inr (by rw [ed]; simp [h]))
      · exact .inr (.inl h)
end Go.Proofs.YtgjnlhdgekfieaaGreat
namespace Go.Proofs.YtgjnlhdgekfieaaGreat

theorem no_stay {t : List Int} {x : Int} {j : Nat} (hB : tB t = true) (h1 : t[j]? = some x) (h2 : t[j + 1]? = some x) : False := by
  obtain ⟨_, x0, s0, hrun⟩ := (tB_iff t).1 hB
  have hj := (List.getElem?_eq_some_iff.1 h2).1
  have e1 : t = t.take (j + 1) ++ (x :: t.drop (j + 2)) := by
    have := List.take_append_drop (j + 1) t
    rw [List.drop_eq_getElem_cons hj] at this
    rw [List.getElem?_eq_getElem hj] at h2
    simp at h2
    rw [h2] at this
    exact this.symm
  have e2 : t.take (j + 1) = t.take j ++ [x] := take_snocF t j x h1
  rw [e1, trun_append] at hrun
  cases hq : trun [] [] (t.take (j + 1)) with
  | none => rw [hq] at hrun; simp at hrun
  | some z =>
    obtain ⟨w, s⟩ := z
    rw [hq] at hrun
    simp only [Option.bind_some] at hrun
    have htop : w.head? = some x := by rw [e2] at hq; exact trun_top hq
    obtain ⟨_, hw⟩ := trun_seen hq (by simp)
    have hn := trun_way hq (by simp) (by simp)
    rcases trun_cons hrun with ⟨hu, _⟩ | ⟨_, hs, _⟩
    · obtain ⟨c, z, rfl⟩ := isUp_some hu
      simp at htop
      subst htop
      simp at hn
    · cases w with
      | nil => simp at htop
      | cons c z => simp at htop; subst htop; exact hs (hw c (by simp))
theorem spl_is {t : List Int} {u v : Int} {k : Nat} (hB : tB t = true) (h1 : t[k]? = some u) (h2 : t[k + 1]? = some v) :
    ∃ A B p c, spO t u v = (A, B, true) ∧ spO t v u = (A, B, true) ∧ SpIs t A B p c ∧ ((u = p ∧ v = c) ∨ (u = c ∧ v = p)) := by
  rcases go_at (t := t) (u := u) (v := v) with ⟨k1, e1, _, a1, a2, a3⟩ | ⟨_, hn⟩
  · rcases go_at (t := t) (u := v) (v := u) with ⟨k2, e2, _, b1, b2, b3⟩ | ⟨_, hn⟩
    · have hne : k1 ≠ k2 := fun e => by
        subst e
        rw [a1] at b1
        simp at b1
        subst b1
        exact no_stay hB a1 a2
      have hs1 : spO t u v = spT t (min k1 k2) (max k1 k2) := by
        unfold spO
        rw [if_pos ⟨hB, by rw [e1]; omega⟩, e1, e2]
        congr 1
        · omega
        · omega
      have hs2 : spO t v u = spT t (min k1 k2) (max k1 k2) := by
        unfold spO
        rw [if_pos ⟨hB, by rw [e2]; omega⟩, e1, e2]
        congr 1
        · omega
        · omega
      rcases Nat.lt_or_gt_of_ne hne with h | h
      · rw [Nat.min_eq_left (by omega), Nat.max_eq_right (by omega)] at hs1 hs2
        refine ⟨_, _, u, v, hs1, hs2, split_is hB a1 a2 b2 h (fun j hj x1 x2 => ?_), .inl ⟨rfl, rfl⟩⟩
        have := b3 j hj
        simp [goP, x1, x2] at this
      · rw [Nat.min_eq_right (by omega), Nat.max_eq_left (by omega)] at hs1 hs2
        refine ⟨_, _, v, u, hs1, hs2, split_is hB b1 b2 a2 h (fun j hj x1 x2 => ?_), .inr ⟨rfl, rfl⟩⟩
        have := a3 j hj
        simp [goP, x1, x2] at this
    · obtain ⟨j, hj⟩ := go_back hB h1 h2
      have hj1 : j + 1 < t.length := by
        simp [goP] at hj
        exact (List.getElem?_eq_some_iff.1 hj.2).1
      rw [hn j hj1] at hj
      simp at hj
  · have := hn k (List.getElem?_eq_some_iff.1 h2).1
    simp [goP, h1, h2] at this
theorem jo_is {t A B : List Int} {p c : Int} (h : SpIs t A B p c) : ∃ J, joO A p B c = some J ∧ tB J = true ∧ J.length = t.length ∧ ∀ x, x ∈ J ↔ x ∈ t := by
  obtain ⟨k, hk, hkl, hkp⟩ := lst_mem h.high
  obtain ⟨r, hr, HR⟩ := re_is h.okb h.low
  obtain ⟨_, _, er⟩ := reO_some hr
  have hcom : comB A B = false := comB_no fun j hj => by
    rw [comP_at (List.getElem?_eq_getElem hj)]
    exact decide_eq_false fun hx => h.apart _ hx (List.getElem_mem hj)
  obtain ⟨j1, j2, j3⟩ := join_is h.oka HR.ok (fun x hx => h.apart x ((HR.mem x).1 hx)) hkp
  refine ⟨joT A k r, ?_, j1, ?_, fun x => ?_⟩
  · unfold joO
    rw [if_pos ⟨⟨h.oka, h.okb⟩, ⟨h.high, h.low⟩, hcom⟩, hk, ← er]
    rfl
  · rw [j2, HR.len]; have := h.len; omega
  · rw [j3, HR.mem, h.mem]
theorem spl_no {t : List Int} (hB : tB t = true) (hl : t.length < 3) (u v : Int) : spO t u v = ([], [], false) := by
  unfold spO
  rw [if_neg]
  rintro ⟨_, h0⟩
  rcases go_at (t := t) (u := u) (v := v) with ⟨k1, _, h1, _⟩ | ⟨e, _⟩
  · rcases tour_ring hB with ⟨x, rfl⟩ | ⟨c, d, m, rfl⟩
    · simp at h1
    · simp at hl; omega
  · omega
end Go.Proofs.YtgjnlhdgekfieaaGreat
namespace Go.Proofs.YtgjnlhdgekfieaaGreat

/-- the edges of the first k steps that go up in number, each once -/
def eK (t : List Int) : Nat → List EdgeV
  | 0 => []
  | i + 1 => match t[i]?, t[i + 1]? with
    | some a, some b => if a < b ∧ (a, b) ∉ eK t i then eK t i ++ [(a, b)] else eK t i
    | _, _ => eK t i
def tE (t : List Int) : List EdgeV := eK t (t.length - 1)
theorem eK_yes {t : List Int} {i : Nat} {a b : Int} (h1 : t[i]? = some a) (h2 : t[i + 1]? = some b) (hl : a < b) (hn : (a, b) ∉ eK t i) : eK t (i + 1) = eK t i ++ [(a, b)] := by
  rw [eK, h1, h2]; exact if_pos ⟨hl, hn⟩
theorem eK_no {t : List Int} {i : Nat} {a b : Int} (h1 : t[i]? = some a) (h2 : t[i + 1]? = some b) (hn : ¬ (a < b ∧ (a, b) ∉ eK t i)) : eK t (i + 1) = eK t i := by
  rw [eK, h1, h2]; exact if_neg hn
theorem eK_len (t : List Int) (k : Nat) : (eK t k).length ≤ k := by
  induction k with
  | zero => simp [eK]
  | succ k ih =>
    rw [eK]
    split
    · split
      · simp; omega
      · omega
    · omega
theorem eK_nodup (t : List Int) (k : Nat) : (eK t k).Nodup := by
  induction k with
  | zero => simp [eK]
  | succ k ih =>
    rw [eK]
    split
    · split
      · rename_i h
        rw [List.nodup_append]
        exact ⟨ih, by simp, fun x hx y hy => by simp at hy; subst hy; exact fun e => h.2 (e ▸ hx)⟩
      · exact ih
    · exact ih
theorem eK_mem (t : List Int) (k : Nat) (e : EdgeV) : e ∈ eK t k ↔ ∃ i, i < k ∧ t[i]? = some e.1 ∧ t[i + 1]? = some e.2 ∧ e.1 < e.2 := by
  induction k with
  | zero => simp [eK]
  | succ k ih =>
    constructor
    · intro h
      rw [eK] at h
      split at h
      · rename_i a b h1 h2
        split at h
        · rename_i hc
          rcases List.mem_append.1 h with h | h
          · obtain ⟨i, hi, h3⟩ := ih.1 h; exact ⟨i, by omega, h3⟩
          · simp at h; subst h; exact ⟨k, by omega, h1, h2, hc.1⟩
        · obtain ⟨i, hi, h3⟩ := ih.1 h; exact ⟨i, by omega, h3⟩
      · obtain ⟨i, hi, h3⟩ := ih.1 h; exact ⟨i, by omega, h3⟩
    · rintro ⟨i, hi, h1, h2, h3⟩
      by_cases hk : i = k
      · subst hk
        by_cases hm : e ∈ eK t i
        · rw [eK_no h1 h2 (fun h => h.2 hm)]; exact hm
        · rw [eK_yes h1 h2 h3 hm]; simp
      · have := ih.2 ⟨i, by omega, h1, h2, h3⟩
        rw [eK]
        split
        · split
          · simp [this]
          · exact this
        · exact this
theorem tE_mem (t : List Int) (e : EdgeV) : e ∈ tE t ↔ ∃ i, t[i]? = some e.1 ∧ t[i + 1]? = some e.2 ∧ e.1 < e.2 := by
  unfold tE
  rw [eK_mem]
  constructor
  · rintro ⟨i, _, h⟩; exact ⟨i, h⟩
  · rintro ⟨i, h1, h2, h3⟩
    have := (List.getElem?_eq_some_iff.1 h2).1
    exact ⟨i, by omega, h1, h2, h3⟩
theorem tE_step {t : List Int} (hB : tB t = true) {i : Nat} {a b : Int} (h1 : t[i]? = some a) (h2 : t[i + 1]? = some b) : mkE a b ∈ tE t := by
  unfold mkE
  by_cases h : a < b
  · rw [if_pos h]; exact (tE_mem t _).2 ⟨i, h1, h2, h⟩
  · rw [if_neg h]
    have hne : a ≠ b := fun e => by subst e; exact no_stay hB h1 h2
    obtain ⟨j, hj⟩ := go_back hB h1 h2
    simp [goP] at hj
    exact (tE_mem t _).2 ⟨j, hj.1, hj.2, by show b < a; omega⟩
theorem tE_ends {t : List Int} (hB : tB t = true) : ∀ e ∈ tE t, 0 ≤ e.1 ∧ e.1 < e.2 ∧ e.2 < ((12 : Nat) : Int) := fun e he => by
  obtain ⟨i, h1, h2, h3⟩ := (tE_mem t e).1 he
  have hv := ((tB_iff t).1 hB).1
  have a1 := hv _ (List.mem_of_getElem? h1)
  have a2 := hv _ (List.mem_of_getElem? h2)
  simp [vB] at a1 a2
  omega
theorem tE_in {t : List Int} : ∀ e ∈ tE t, e.1 ∈ t ∧ e.2 ∈ t := fun e he => by
  obtain ⟨i, h1, h2, _⟩ := (tE_mem t e).1 he
  exact ⟨List.mem_of_getElem? h1, List.mem_of_getElem? h2⟩
/-- below c, and not below c, are apart but for the one edge -/
theorem split_side {t : List Int} {p c : Int} {d q : Nat} (hB : tB t = true) (h1 : t[d]? = some p) (h2 : t[d + 1]? = some c) (h3 : t[q]? = some c) (h4 : t[q + 1]? = some p) (hdq : d < q)
    (hno : ∀ j, j < q → t[j]? = some c → t[j + 1]? = some p → False) : ∃ S : Int → Prop, S c ∧ ¬ S p ∧ ∀ (i : Nat) (a b : Int), t[i]? = some a → t[i + 1]? = some b → mkE a b ≠ mkE p c → (S a ↔ S b) := by
  have SI := split_is hB h1 h2 h4 hdq hno
  refine ⟨fun x => x ∈ (t.take (q + 1)).drop (d + 1), SI.low, fun h => SI.apart p h SI.high, fun i a b ha hb hne => ?_⟩
  have hin : ∀ (j : Nat) (x : Int), t[j]? = some x → d + 1 ≤ j → j ≤ q → x ∈ (t.take (q + 1)).drop (d + 1) := fun j x hx h5 h6 => by
    refine List.mem_of_getElem? (i := j - (d + 1)) ?_
    rw [List.getElem?_drop, show d + 1 + (j - (d + 1)) = j by omega, List.getElem?_take_of_lt (by omega)]
    exact hx
  have hout : ∀ (j : Nat) (x : Int), t[j]? = some x → (j ≤ d ∨ q + 1 ≤ j) → x ∉ (t.take (q + 1)).drop (d + 1) := fun j x hx h5 h6 => by
    refine SI.apart x h6 ?_
    rw [List.mem_append]
    rcases h5 with h5 | h5
    · left
      refine List.mem_of_getElem? (i := j) ?_
      rw [List.getElem?_take_of_lt (by omega)]
      exact hx
    · by_cases h7 : j = q + 1
      · subst h7
        rw [h4] at hx
        simp at hx
        subst hx
        left
        refine List.mem_of_getElem? (i := d) ?_
        rw [List.getElem?_take_of_lt (by omega)]
        exact h1
      · right
        refine List.mem_of_getElem? (i := j - (q + 2)) ?_
        rw [List.getElem?_drop, show q + 2 + (j - (q + 2)) = j by omega]
        exact hx
  by_cases hid : i = d
  · subst hid
    rw [h1] at ha; rw [h2] at hb
    simp at ha hb
    subst ha hb
    exact absurd rfl hne
  · by_cases hiq : i = q
    · subst hiq
      rw [h3] at ha; rw [h4] at hb
      simp at ha hb
      subst ha hb
      exact absurd (mkE_comm (fun e => by subst e; exact no_stay hB h3 h4)) hne
    · by_cases hmid : d + 1 ≤ i ∧ i < q
      · exact ⟨fun _ => hin (i + 1) b hb (by omega) (by omega), fun _ => hin i a ha (by omega) (by omega)⟩
      · exact ⟨fun h => absurd h (hout i a ha (by omega)), fun h => absurd h (hout (i + 1) b hb (by omega))⟩
theorem tE_bridge {t : List Int} (hB : tB t = true) : Bridge (tE t) := fun e he => by
  obtain ⟨i, x1, x2, hlt⟩ := (tE_mem t e).1 he
  have em : mkE e.1 e.2 = e := by unfold mkE; rw [if_pos hlt]
  have key : ∃ S : Int → Prop, ((S e.2 ∧ ¬ S e.1) ∨ (S e.1 ∧ ¬ S e.2)) ∧ ∀ (i : Nat) (a b : Int), t[i]? = some a → t[i + 1]? = some b → mkE a b ≠ e → (S a ↔ S b) := by
    rcases go_at (t := t) (u := e.1) (v := e.2) with ⟨k1, _, _, a1, a2, a3⟩ | ⟨_, hn⟩
    · rcases go_at (t := t) (u := e.2) (v := e.1) with ⟨k2, _, _, b1, b2, b3⟩ | ⟨_, hn⟩
      · have hne : k1 ≠ k2 := fun h => by
          subst h
          rw [a1] at b1
          simp at b1
          omega
        rcases Nat.lt_or_gt_of_ne hne with h | h
        · obtain ⟨S, s1, s2, s3⟩ := split_side hB a1 a2 b1 b2 h (fun j hj y1 y2 => by have := b3 j hj; simp [goP, y1, y2] at this)
          exact ⟨S, .inl ⟨s1, s2⟩, fun i a b h1 h2 h3 => s3 i a b h1 h2 (by rw [em]; exact h3)⟩
        · obtain ⟨S, s1, s2, s3⟩ := split_side hB b1 b2 a1 a2 h (fun j hj y1 y2 => by have := a3 j hj; simp [goP, y1, y2] at this)
          exact ⟨S, .inr ⟨s1, s2⟩, fun i a b h1 h2 h3 => s3 i a b h1 h2 (by rw [show mkE e.2 e.1 = e from (mkE_comm (by omega)).trans em]; exact h3)⟩
      · obtain ⟨j, hj⟩ := go_back hB x1 x2
        have hj1 : j + 1 < t.length := by
          simp [goP] at hj
          exact (List.getElem?_eq_some_iff.1 hj.2).1
        rw [hn j hj1] at hj
        simp at hj
    · have := hn i (List.getElem?_eq_some_iff.1 x2).1
      simp [goP, x1, x2] at this
  obtain ⟨S, hS, hSc⟩ := key
  have hcr : ∀ d ∈ tE t, d ≠ e → (S d.1 ↔ S d.2) := fun d hd hne => by
    obtain ⟨j, y1, y2, hl⟩ := (tE_mem t d).1 hd
    have : mkE d.1 d.2 = d := by unfold mkE; rw [if_pos hl]
    exact hSc j d.1 d.2 y1 y2 (by rw [this]; exact hne)
  rcases hS with ⟨s1, s2⟩ | ⟨s1, s2⟩
  · exact ⟨S, s1, s2, hcr⟩
  · exact ⟨fun x => ¬ S x, s2, fun h => h s1, fun d hd hne => not_congr (hcr d hd hne)⟩
/-- a set that no edge leaves has all of the vertices, or none -/
theorem tE_all {t : List Int} (hB : tB t = true) {S : Int → Prop} (hS : ∀ e ∈ tE t, (S e.1 ↔ S e.2)) {x y : Int} (hx : x ∈ t) (hy : y ∈ t) : S x ↔ S y := by
  have key : ∀ (i : Nat) (a z : Int), t[0]? = some z → t[i]? = some a → (S z ↔ S a) := fun i => by
    induction i with
    | zero => intro a z h1 h2; rw [h1] at h2; simp at h2; subst h2; exact Iff.rfl
    | succ i ih =>
      intro a z h1 h2
      have hi := (List.getElem?_eq_some_iff.1 h2).1
      obtain ⟨b, hb⟩ : ∃ b, t[i]? = some b := ⟨t[i]'(by omega), List.getElem?_eq_getElem (by omega)⟩
      have h3 := hS _ (tE_step hB hb h2)
      rw [ih b z h1 hb]
      rcases mkE_ends b a with e | e
      · rw [e] at h3; exact h3
      · rw [e] at h3; exact h3.symm
  obtain ⟨i, hi⟩ := List.mem_iff_getElem?.1 hx
  obtain ⟨j, hj⟩ := List.mem_iff_getElem?.1 hy
  have hl := tB_len hB
  have h0 : t[0]? = some (t[0]'(by omega)) := List.getElem?_eq_getElem (by omega)
  rw [← key i x _ h0 hi, key j y _ h0 hj]

theorem wk_closed {es : List EdgeV} {n : Nat} (hE : ∀ e ∈ es, 0 ≤ e.1 ∧ e.1 < e.2 ∧ e.2 < (n : Int)) (f : Nat) : ∀ (v fr : Int) (seen t sn : List Int), wk es n f v fr seen = some (t, sn) → v ∈ t ∧ ∀ e ∈ es, e ≠ mkE v fr → (e.1 ∈ t ↔ e.2 ∈ t) := by
  induction f with
  | zero => intro v fr seen t sn h; simp [wk] at h
  | succ f ih =>
    intro v fr seen t sn h
    rw [wk] at h
    have key : ∀ (rem k : Nat) (out seen : List Int), rem + k = n → v ∈ out → (∀ e ∈ es, e ≠ mkE v fr → (∀ u : Nat, k ≤ u → u < n → e ≠ mkE v (u : Int)) → (e.1 ∈ out ↔ e.2 ∈ out)) → wkGo (wk es n f) es n v fr rem out seen = some (t, sn) → v ∈ t ∧ ∀ e ∈ es, e ≠ mkE v fr → (e.1 ∈ t ↔ e.2 ∈ t) := by
      intro rem
      induction rem with
      | zero =>
        intro k out seen hk hv hc h
        simp [wkGo] at h
        rw [← h.1]
        exact ⟨hv, fun e he hne => hc e he hne (fun u h1 h2 => by omega)⟩
      | succ rem ihr =>
        intro k out seen hk hv hc h
        have ek : n - (rem + 1) = k := by omega
        by_cases hs : (k : Int) = fr ∨ mkE v (k : Int) ∉ es
        · rw [wkGo_skip ek hs] at h
          refine ihr (k + 1) out seen (by omega) hv (fun e he hne hu => hc e he hne (fun u h1 h2 => ?_)) h
          by_cases huk : u = k
          · subst huk
            rcases hs with hs | hs
            · rw [hs]; exact hne
            · exact fun e2 => hs (e2 ▸ he)
          · exact hu u (by omega) h2
        · have hkf : (k : Int) ≠ fr := fun e => hs (.inl e)
          have he : mkE v (k : Int) ∈ es := Classical.not_not.1 (fun e => hs (.inr e))
          obtain ⟨_, p, hp, hgo⟩ := wkGo_go ek hkf he h
          obtain ⟨hkp, hpc⟩ := ih (k : Int) v seen p.1 p.2 hp
          refine ihr (k + 1) _ p.2 (by omega) (by simp) (fun e he2 hne hu => ?_) hgo
          simp only [List.mem_append, List.mem_singleton]
          by_cases h5 : e = mkE v (k : Int)
          · subst h5
            rcases mkE_ends v (k : Int) with e | e
            · rw [e]; exact ⟨fun _ => .inl (.inr hkp), fun _ => .inl (.inl hv)⟩
            · rw [e]; exact ⟨fun _ => .inl (.inl hv), fun _ => .inl (.inr hkp)⟩
          · have hvk : v ≠ (k : Int) := fun e => by
              have := hE _ he
              rw [← e] at this
              unfold mkE at this
              rw [if_neg (by omega)] at this
              simp at this
            have h6 := hc e he2 hne (fun u h1 h2 => by
              by_cases huk : u = k
              · subst huk; exact h5
              · exact hu u (by omega) h2)
            have h7 := hpc e he2 (by rw [mkE_comm (fun e => hvk e.symm)]; exact h5)
            have hv1 : e.1 = v → e.1 ∈ out := fun e => e ▸ hv
            have hv2 : e.2 = v → e.2 ∈ out := fun e => e ▸ hv
            constructor
            · rintro ((h8 | h8) | h8)
              · exact .inl (.inl (h6.1 h8))
              · exact .inl (.inr (h7.1 h8))
              · exact .inl (.inl (h6.1 (hv1 h8)))
            · rintro ((h8 | h8) | h8)
              · exact .inl (.inl (h6.2 h8))
              · exact .inl (.inr (h7.2 h8))
              · exact .inl (.inl (h6.2 (hv2 h8)))
    refine key n 0 [v] (v :: seen) (by omega) (by simp) (fun e he hne hu => ?_) h
    have h1 := hE e he
    have no : ∀ w : Int, 0 ≤ w → w < (n : Int) → e ≠ mkE v w := fun w h2 h3 => by
      have := hu w.toNat (by omega) (by omega)
      rw [Int.toNat_of_nonneg h2] at this
      exact this
    have n1 : e.1 ≠ v := fun h2 => no e.2 (by omega) (by omega) (by unfold mkE; rw [← h2, if_pos h1.2.1])
    have n2 : e.2 ≠ v := fun h2 => no e.1 (by omega) (by omega) (by unfold mkE; rw [← h2, if_neg (by omega)])
    simp [n1, n2]

theorem nodup_sub {α : Type} [DecidableEq α] : ∀ {a b : List α}, a.Nodup → (∀ x ∈ a, x ∈ b) → a.length ≤ b.length
  | [], _, _, _ => by simp
  | x :: a, b, hn, hs => by
    rw [List.nodup_cons] at hn
    have h1 := nodup_sub (a := a) (b := b.erase x) hn.2 (fun y hy => (List.mem_erase_of_ne (show y ≠ x from fun e => hn.1 (by rw [← e]; exact hy))).2 (hs y (by simp [hy])))
    have h2 := List.length_erase_of_mem (hs x (by simp))
    have h3 : 0 < b.length := List.length_pos_of_mem (hs x (by simp))
    simp
    omega
theorem tour_card {t s : List Int} (ht : tB t = true) (hs : tB s = true) (h : ∀ x, x ∈ t ↔ x ∈ s) : t.length = s.length := by
  obtain ⟨_, x1, s1, r1⟩ := (tB_iff t).1 ht
  obtain ⟨_, x2, s2, r2⟩ := (tB_iff s).1 hs
  have l1 := trun_len r1
  have l2 := trun_len r2
  have n1 := trun_nodup r1 (by simp)
  have n2 := trun_nodup r2 (by simp)
  have m1 := (trun_seen r1 (by simp)).1
  have m2 := (trun_seen r2 (by simp)).1
  have a := nodup_sub n1 (b := s2) (fun y hy => (m2 y).2 (.inr ((h y).1 (by simpa using (m1 y).1 hy))))
  have b := nodup_sub n2 (b := s1) (fun y hy => (m1 y).2 (.inr ((h y).2 (by simpa using (m2 y).1 hy))))
  simp at l1 l2
  omega
/-- the edges along which a run goes down -/
def dRun : List Int → List Int → List EdgeV
  | _, [] => []
  | w, v :: r => if isUp w v = true then dRun w.tail r else (w.head?.toList.map fun p => mkE p v) ++ dRun (v :: w) r
def adjE : List Int → List EdgeV
  | a :: b :: w => mkE a b :: adjE (b :: w)
  | _ => []
theorem dRun_len {r w s w1 s1 : List Int} (h : trun w s r = some (w1, s1)) (hw : w ≠ []) : (dRun w r).length + s.length = s1.length := by
  induction r generalizing w s with
  | nil => simp [trun] at h; simp [dRun, h.2]
  | cons v r ih =>
    rcases trun_cons h with ⟨hu, h1⟩ | ⟨hu, _, h1⟩
    · rw [dRun, if_pos hu]
      obtain ⟨c, q, rfl⟩ := isUp_some hu
      exact ih h1 (by simp)
    · rw [dRun, if_neg (by rw [hu]; simp)]
      have := ih h1 (by simp)
      cases w with
      | nil => exact absurd rfl hw
      | cons p q => simp at this ⊢; omega
theorem dRun_new {r w s w1 s1 : List Int} (h : trun w s r = some (w1, s1)) : ∀ e ∈ dRun w r, e.1 ∉ s ∨ e.2 ∉ s := by
  induction r generalizing w s with
  | nil => simp [dRun]
  | cons v r ih =>
    intro e he
    rcases trun_cons h with ⟨hu, h1⟩ | ⟨hu, hv, h1⟩
    · rw [dRun, if_pos hu] at he
      exact ih h1 e he
    · rw [dRun, if_neg (by rw [hu]; simp)] at he
      rcases List.mem_append.1 he with he | he
      · cases w with
        | nil => simp at he
        | cons p q =>
          simp at he
          subst he
          rcases mkE_ends p v with e | e
          · rw [e]; exact .inr hv
          · rw [e]; exact .inl hv
      · exact (ih h1 e he).imp (fun h2 h3 => h2 (by simp [h3])) (fun h2 h3 => h2 (by simp [h3]))
theorem dRun_nodup {r w s w1 s1 : List Int} (h : trun w s r = some (w1, s1)) (hw : ∀ x ∈ w, x ∈ s) : (dRun w r).Nodup := by
  induction r generalizing w s with
  | nil => simp [dRun]
  | cons v r ih =>
    rcases trun_cons h with ⟨hu, h1⟩ | ⟨hu, hv, h1⟩
    · rw [dRun, if_pos hu]
      exact ih h1 (fun x hx => hw x (List.mem_of_mem_tail hx))
    · rw [dRun, if_neg (by rw [hu]; simp)]
      have hw2 : ∀ x ∈ v :: w, x ∈ v :: s := fun x hx => by
        rcases List.mem_cons.1 hx with rfl | hx
        · simp
        · exact List.mem_cons_of_mem _ (hw x hx)
      have h2 := ih h1 hw2
      cases w with
      | nil => simpa using h2
      | cons p q =>
        simp only [List.head?_cons, Option.toList_some, List.map_cons, List.map_nil, List.singleton_append, List.nodup_cons]
        refine ⟨fun h3 => ?_, h2⟩
        have := dRun_new h1 _ h3
        have hp := hw p (by simp)
        rcases mkE_ends p v with e | e
        · rw [e] at this; simp [hp] at this
        · rw [e] at this; simp [hp] at this
theorem dRun_steps {r w : List Int} {c : Int} (hc : w.head? = some c) : ∀ (i : Nat) (a b : Int), (c :: r)[i]? = some a → (c :: r)[i + 1]? = some b → mkE a b ∈ dRun w r ∨ mkE a b ∈ adjE w ∨ mkE b a ∈ adjE w ∨ mkE b a ∈ dRun w r := by
  induction r generalizing w c with
  | nil => intro i a b h1 h2; simp at h2
  | cons v r ih =>
    intro i a b h1 h2
    cases w with
    | nil => simp at hc
    | cons c' q =>
      simp at hc
      subst hc
      cases hu : isUp (c' :: q) v with
      | true =>
        rw [dRun, if_pos hu]
        obtain ⟨c2, z, e⟩ := isUp_some hu
        simp at e
        obtain ⟨rfl, rfl⟩ := e
        cases i with
        | zero =>
          simp at h1 h2
          subst h1 h2
          exact .inr (.inl (by simp [adjE]))
        | succ i =>
          rcases ih (w := v :: z) rfl i a b (by simpa using h1) (by simpa using h2) with h | h | h | h
          · exact .inl h
          · exact .inr (.inl (by simp [adjE, h]))
          · exact .inr (.inr (.inl (by simp [adjE, h])))
          · exact .inr (.inr (.inr h))
      | false =>
        rw [dRun, if_neg (by rw [hu]; simp)]
        cases i with
        | zero =>
          simp at h1 h2
          subst h1 h2
          exact .inl (by simp)
        | succ i =>
          rcases ih (w := v :: c' :: q) rfl i a b (by simpa using h1) (by simpa using h2) with h | h | h | h
          · exact .inl (by simp [h])
          · simp only [adjE, List.mem_cons] at h
            rcases h with h | h
            · rw [h]
              by_cases hvc : v = c'
              · subst hvc; exact .inl (by simp)
              · rw [mkE_comm hvc]; exact .inl (by simp)
            · exact .inr (.inl (by simpa [adjE] using h))
          · simp only [adjE, List.mem_cons] at h
            rcases h with h | h
            · rw [h]
              by_cases hvc : v = c'
              · subst hvc; exact .inr (.inr (.inr (by simp)))
              · rw [mkE_comm hvc]; exact .inr (.inr (.inr (by simp)))
            · exact .inr (.inr (.inl (by simpa [adjE] using h)))
          · exact .inr (.inr (.inr (by simp [h])))
theorem dRun_isStep {r w s w1 s1 : List Int} {c : Int} (h : trun w s r = some (w1, s1)) (hc : w.head? = some c) : ∀ e ∈ dRun w r, ∃ (i : Nat) (a b : Int), (c :: r)[i]? = some a ∧ (c :: r)[i + 1]? = some b ∧ e = mkE a b := by
  induction r generalizing w s c with
  | nil => simp [dRun]
  | cons v r ih =>
    intro e he
    rcases trun_cons h with ⟨hu, h1⟩ | ⟨hu, _, h1⟩
    · rw [dRun, if_pos hu] at he
      obtain ⟨c2, z, rfl⟩ := isUp_some hu
      obtain ⟨i, a, b, h2, h3, h4⟩ := ih h1 (c := v) rfl e he
      exact ⟨i + 1, a, b, by simpa using h2, by simpa using h3, h4⟩
    · rw [dRun, if_neg (by rw [hu]; simp)] at he
      rcases List.mem_append.1 he with he | he
      · rw [hc] at he
        simp at he
        exact ⟨0, c, v, rfl, rfl, he⟩
      · obtain ⟨i, a, b, h2, h3, h4⟩ := ih h1 (c := v) rfl e he
        exact ⟨i + 1, a, b, by simpa using h2, by simpa using h3, h4⟩
/-- a right tour has twice as many steps as edges -/
theorem tE_count {t : List Int} (hB : tB t = true) : t.length = 2 * (tE t).length + 1 := by
  obtain ⟨x, r, s, rfl, hr, _, _⟩ := tB_open hB
  have l1 := dRun_len hr (by simp)
  have l2 := trun_len hr
  have nd := dRun_nodup hr (by simp)
  have a := nodup_sub nd (b := tE (x :: r)) (fun e he => by
    obtain ⟨i, a, b, h1, h2, rfl⟩ := dRun_isStep hr (c := x) rfl e he
    exact tE_step hB h1 h2)
  have b := nodup_sub (eK_nodup (x :: r) ((x :: r).length - 1)) (b := dRun [x] r) (fun e he => by
    obtain ⟨i, h1, h2, h3⟩ := (tE_mem (x :: r) e).1 he
    have em : mkE e.1 e.2 = e := by unfold mkE; rw [if_pos h3]
    have em2 : mkE e.2 e.1 = e := by rw [mkE_comm (by omega)]; exact em
    have := dRun_steps (r := r) (w := [x]) (c := x) rfl i e.1 e.2 h1 h2
    rw [em, em2] at this
    simpa [adjE] using this)
  change (tE (x :: r)).length ≤ _ at b
  simp at l1 l2 ⊢
  omega
/-- the tour by its edges of a right tour -/
theorem tE_tour {t : List Int} (hB : tB t = true) {x0 : Int} (h0 : t[0]? = some x0) : ∃ s sn, wk (tE t) 12 12 x0 (-1) [] = some (s, sn) ∧ tB s = true ∧ (∀ x, x ∈ s ↔ x ∈ t) ∧ s.length = t.length ∧ 0 ≤ x0 ∧ x0 < 12 := by
  have hx : x0 ∈ t := List.mem_of_getElem? h0
  have hv := ((tB_iff t).1 hB).1 x0 hx
  simp [vB] at hv
  obtain ⟨s, sn, h1, h2⟩ := wk_ok (tE_ends hB) (tE_bridge hB) 12 x0 (-1) [] (by omega) (by omega) (by simp) (by simp) (by simp) ⟨fun _ => True, trivial, by simp, by simp⟩
  have hs : tB s = true := by
    obtain ⟨S', h3⟩ := h2.run [] [] (by simp) (by simp)
    refine (tB_iff s).2 ⟨fun y hy => ?_, x0, S', h3⟩
    have := h2.rng y ((h2.mem y).2 (.inr hy))
    simp [vB]
    omega
  have hm : ∀ x, x ∈ s ↔ x ∈ t := fun x => by
    constructor
    · exact h2.least (fun y => y ∈ t) hx (fun e he _ => ⟨fun _ => (tE_in e he).2, fun _ => (tE_in e he).1⟩) x
    · intro hxt
      obtain ⟨hxs, hcl⟩ := wk_closed (tE_ends hB) 12 x0 (-1) [] s sn h1
      refine (tE_all hB (S := fun y => y ∈ s) (fun e he => hcl e he ?_) hx hxt).1 hxs
      intro e2
      have := tE_ends hB e he
      rw [e2] at this
      rcases mkE_ends x0 (-1) with e3 | e3
      · rw [e3] at this; simp at this; omega
      · rw [e3] at this; simp at this
  exact ⟨s, sn, h1, hs, hm, tour_card hs hB hm, by omega, by omega⟩
/-- two vertices that no edge joins, where there are two edges and more -/
theorem tE_gap {t : List Int} (hB : tB t = true) (h2 : 2 ≤ (tE t).length) : ∃ a b, a ∈ t ∧ b ∈ t ∧ a < b ∧ (a, b) ∉ tE t := by
  refine Classical.byContradiction fun hno => ?_
  have hall : ∀ a b, a ∈ t → b ∈ t → a < b → (a, b) ∈ tE t := fun a b ha hb hl => Classical.byContradiction fun h => hno ⟨a, b, ha, hb, hl, h⟩
  have tri : ∀ a b c, a ∈ t → b ∈ t → c ∈ t → a < b → b < c → False := fun a b c ha hb hc h1 h3 => by
    have e1 := hall a c ha hc (by omega)
    have e2 := hall a b ha hb h1
    have e3 := hall b c hb hc h3
    obtain ⟨S, s1, s2, s3⟩ := tE_bridge hB _ e1
    have i1 := s3 _ e2 (by simp; omega)
    have i2 := s3 _ e3 (by simp; omega)
    simp at s1 s2 i1 i2
    exact s2 (i1.2 (i2.2 s1))
  obtain ⟨d, hd⟩ : ∃ d, (tE t)[0]? = some d := ⟨(tE t)[0]'(by omega), List.getElem?_eq_getElem (by omega)⟩
  obtain ⟨e, he⟩ : ∃ e, (tE t)[1]? = some e := ⟨(tE t)[1]'(by omega), List.getElem?_eq_getElem (by omega)⟩
  have hde : d ≠ e := fun h => by
    have hn := eK_nodup t (t.length - 1)
    obtain ⟨q0, q1⟩ := List.getElem?_eq_some_iff.1 (show (eK t (t.length - 1))[0]? = some d from hd)
    obtain ⟨q2, q3⟩ := List.getElem?_eq_some_iff.1 (show (eK t (t.length - 1))[1]? = some e from he)
    exact List.pairwise_iff_getElem.1 hn 0 1 q0 q2 (by omega) (by rw [q1, q3, h])
  have d1 := tE_in d (List.mem_of_getElem? hd)
  have e1 := tE_in e (List.mem_of_getElem? he)
  have d2 := tE_ends hB d (List.mem_of_getElem? hd)
  have e2 := tE_ends hB e (List.mem_of_getElem? he)
  by_cases h11 : d.1 = e.1
  · have : d.2 ≠ e.2 := fun h => hde (Prod.ext h11 h)
    rcases Nat.lt_or_ge 0 1 with _ | _
    · by_cases hl : d.2 < e.2
      · exact tri d.1 d.2 e.2 d1.1 d1.2 e1.2 (by omega) hl
      · exact tri e.1 e.2 d.2 e1.1 e1.2 d1.2 (by omega) (by omega)
    · omega
  · by_cases hl : d.1 < e.1
    · exact tri d.1 e.1 e.2 d1.1 e1.1 e1.2 hl (by omega)
    · exact tri e.1 d.1 d.2 e1.1 d1.1 d1.2 (by omega) (by omega)
end Go.Proofs.YtgjnlhdgekfieaaGreat
namespace Go.Proofs.YtgjnlhdgekfieaaGreat
open Go.RowKit

/-- the list goes from the one to the other, or back -/
def Stp (t : List Int) (x y : Int) : Prop := ∃ i : Nat, (t[i]? = some x ∧ t[i + 1]? = some y) ∨ (t[i]? = some y ∧ t[i + 1]? = some x)
theorem Stp.left {t : List Int} {x y : Int} (h : Stp t x y) (s : List Int) : Stp (t ++ s) x y := by
  obtain ⟨i, h⟩ := h
  refine ⟨i, ?_⟩
  rcases h with ⟨h1, h2⟩ | ⟨h1, h2⟩
  · exact .inl ⟨by rw [List.getElem?_append_left (List.getElem?_eq_some_iff.1 h1).1]; exact h1, by rw [List.getElem?_append_left (List.getElem?_eq_some_iff.1 h2).1]; exact h2⟩
  · exact .inr ⟨by rw [List.getElem?_append_left (List.getElem?_eq_some_iff.1 h1).1]; exact h1, by rw [List.getElem?_append_left (List.getElem?_eq_some_iff.1 h2).1]; exact h2⟩
theorem Stp.right {t : List Int} {x y : Int} (h : Stp t x y) (s : List Int) : Stp (s ++ t) x y := by
  obtain ⟨i, h⟩ := h
  refine ⟨s.length + i, ?_⟩
  have e : ∀ j, (s ++ t)[s.length + j]? = t[j]? := fun j => by rw [List.getElem?_append_right (by omega)]; congr 1; omega
  rw [show s.length + i + 1 = s.length + (i + 1) by omega, e, e]
  exact h
theorem Stp.comm {t : List Int} {x y : Int} (h : Stp t x y) : Stp t y x := by
  obtain ⟨i, h⟩ := h
  exact ⟨i, h.symm⟩
theorem stp_mid {a b : List Int} {x y : Int} (ha : a.getLast? = some x) (hb : b.head? = some y) : Stp (a ++ b) x y := by
  cases a with
  | nil => simp at ha
  | cons c a =>
    refine ⟨a.length, .inl ⟨?_, ?_⟩⟩
    · rw [List.getElem?_append_left (by simp)]
      rw [List.getLast?_eq_getElem?] at ha
      simpa using ha
    · rw [List.getElem?_append_right (by simp)]
      rw [List.head?_eq_getElem?] at hb
      simpa using hb
structure Wr (es : List EdgeV) (v fr : Int) (seen t seen' : List Int) : Prop where
  head : t.head? = some v
  last : t.getLast? = some v
  mem : ∀ x, x ∈ seen' ↔ x ∈ seen ∨ x ∈ t
  new : ∀ x ∈ t, x ∉ seen
  run : ∀ W S : List Int, (∀ x ∈ W, x ∈ S) → (∀ x ∈ t, x ∉ S) → ∃ S', trun W S t = some (v :: W, S')
  all : ∀ x ∈ t, ∀ y, mkE x y ∈ es → (x = v → y ≠ fr) → Stp t x y
structure Gr (es : List EdgeV) (v fr : Int) (k : Nat) (seen0 out seen : List Int) : Prop where
  head : out.head? = some v
  last : out.getLast? = some v
  mem : ∀ x, x ∈ seen ↔ x ∈ seen0 ∨ x ∈ out
  new : ∀ x ∈ out, x ∉ seen0
  run : ∀ W S : List Int, (∀ x ∈ W, x ∈ S) → (∀ x ∈ out, x ∉ S) → ∃ S', trun W S out = some (v :: W, S')
  all : ∀ x ∈ out, ∀ y, mkE x y ∈ es → (x = v → y ≠ fr ∧ y < (k : Int)) → Stp out x y
theorem Gr.go {es : List EdgeV} {v fr : Int} {k : Nat} {seen0 out seen p seen' : List Int} (h : Gr es v fr k seen0 out seen) (hp : Wr es (k : Int) v seen p seen') : Gr es v fr (k + 1) seen0 (out ++ p ++ [v]) seen' := by
  have hvo : v ∈ out := List.mem_of_getLast? h.last
  have hpk : p.head? = some (k : Int) := hp.head
  have hvp : v ∉ p := fun h2 => hp.new v h2 ((h.mem v).2 (.inr hvo))
  refine ⟨?_, by simp, fun x => ?_, fun x hx => ?_, fun W T hW hT => ?_, fun x hx y he hy => ?_⟩
  · have := h.head
    cases out with
    | nil => simp at this
    | cons a o => simpa using this
  · rw [hp.mem, h.mem]
    simp only [List.mem_append, List.mem_singleton]
    constructor
    · rintro ((h1 | h1) | h1)
      · exact .inl h1
      · exact .inr (.inl (.inl h1))
      · exact .inr (.inl (.inr h1))
    · rintro (h1 | (h1 | h1) | h1)
      · exact .inl (.inl h1)
      · exact .inl (.inr h1)
      · exact .inr h1
      · exact .inl (.inr (by rw [h1]; exact hvo))
  · simp only [List.mem_append, List.mem_singleton] at hx
    rcases hx with (h1 | h1) | h1
    · exact h.new x h1
    · exact fun h2 => hp.new x h1 ((h.mem x).2 (.inl h2))
    · rw [h1]; exact h.new v hvo
  · obtain ⟨S1, h1⟩ := h.run W T hW (fun x hx => hT x (by simp [hx]))
    obtain ⟨hs, hw⟩ := trun_seen h1 hW
    obtain ⟨S2, h2⟩ := hp.run (v :: W) S1 hw (fun x hx h3 => by
      rcases (hs x).1 h3 with h4 | h4
      · exact hT x (by simp [hx]) h4
      · exact hp.new x hx ((h.mem x).2 (.inr h4)))
    refine ⟨S2, ?_⟩
    rw [trun_append, trun_append, h1, Option.bind_some, h2, Option.bind_some, trun_up (by simp [isUp])]
    rfl
  · have hstep : Stp (out ++ p ++ [v]) v (k : Int) := (stp_mid h.last hpk).left [v]
    have hin : x ∈ out → Stp (out ++ p ++ [v]) x y := fun h1 => by
      by_cases hxv : x = v
      · obtain ⟨h2, h3⟩ := hy hxv
        by_cases hyk : y = (k : Int)
        · rw [hxv, hyk]; exact hstep
        · exact ((h.all x h1 y he fun _ => ⟨h2, by omega⟩).left p).left [v]
      · exact ((h.all x h1 y he fun h2 => absurd h2 hxv).left p).left [v]
    simp only [List.mem_append, List.mem_singleton] at hx
    rcases hx with (h1 | h1) | h1
    · exact hin h1
    · by_cases h2 : x = (k : Int) ∧ y = v
      · rw [h2.1, h2.2]; exact hstep.comm
      · exact ((hp.all x h1 y he fun h3 h4 => h2 ⟨h3, h4⟩).right out).left [v]
    · exact hin (h1 ▸ hvo)
theorem wk_wr {es : List EdgeV} {n : Nat} (hE : ∀ e ∈ es, 0 ≤ e.1 ∧ e.1 < e.2 ∧ e.2 < (n : Int)) (f : Nat) : ∀ (v fr : Int) (seen t sn : List Int), v ∉ seen → wk es n f v fr seen = some (t, sn) → Wr es v fr seen t sn := by
  induction f with
  | zero => intro v fr seen t sn _ h; simp [wk] at h
  | succ f ih =>
    intro v fr seen0 t sn hv h
    rw [wk] at h
    have key : ∀ (rem k : Nat) (out seen : List Int), rem + k = n → Gr es v fr k seen0 out seen → wkGo (wk es n f) es n v fr rem out seen = some (t, sn) → Gr es v fr n seen0 t sn := by
      intro rem
      induction rem with
      | zero =>
        intro k out seen hk hg h
        simp [wkGo] at h
        obtain ⟨rfl, rfl⟩ := h
        obtain rfl : k = n := by omega
        exact hg
      | succ rem ihr =>
        intro k out seen hk hg h
        have ek : n - (rem + 1) = k := by omega
        by_cases hs : (k : Int) = fr ∨ mkE v (k : Int) ∉ es
        · rw [wkGo_skip ek hs] at h
          refine ihr (k + 1) out seen (by omega) ⟨hg.head, hg.last, hg.mem, hg.new, hg.run, fun x hx y he hy => hg.all x hx y he fun h1 => ?_⟩ h
          obtain ⟨h2, h3⟩ := hy h1
          refine ⟨h2, ?_⟩
          by_cases hyk : y = (k : Int)
          · rcases hs with hs | hs
            · exact absurd (hyk.trans hs) h2
            · rw [h1, hyk] at he; exact absurd he hs
          · omega
        · have hkf : (k : Int) ≠ fr := fun e => hs (.inl e)
          have he : mkE v (k : Int) ∈ es := Classical.not_not.1 (fun e => hs (.inr e))
          obtain ⟨hks, p, hp, hgo⟩ := wkGo_go ek hkf he h
          exact ihr (k + 1) _ p.2 (by omega) (hg.go (ih (k : Int) v seen p.1 p.2 hks hp)) hgo
    have h3 := key n 0 [v] (v :: seen0) (by omega) ⟨rfl, rfl, fun x => by simp; exact or_comm, fun x hx => by simp at hx; rw [hx]; exact hv, fun W S hW hS => by
      have hvS : v ∉ S := hS v (by simp)
      have hup : isUp W v = false := by
        cases h : isUp W v with
        | false => rfl
        | true => exact absurd (hW _ (isUp_mem h)) hvS
      exact ⟨v :: S, by rw [trun_down hup hvS]; rfl⟩, fun x hx y he hy => by
      simp at hx
      subst hx
      have h1 := hy rfl
      have h2 := hE _ he
      rcases mkE_ends x y with e | e
      · rw [e] at h2; simp at h2; omega
      · rw [e] at h2; simp at h2; omega⟩ h
    refine ⟨h3.head, h3.last, h3.mem, h3.new, h3.run, fun x hx y he hy => h3.all x hx y he fun h1 => ⟨hy h1, ?_⟩⟩
    have h2 := hE _ he
    rcases mkE_ends x y with e | e
    · rw [e] at h2; simp at h2; omega
    · rw [e] at h2; simp at h2; omega
theorem step_split {a b : List Int} {i : Nat} {x y : Int} (h1 : (a ++ b)[i]? = some x) (h2 : (a ++ b)[i + 1]? = some y) :
    (a[i]? = some x ∧ a[i + 1]? = some y) ∨ (a.getLast? = some x ∧ b.head? = some y) ∨ ∃ j, b[j]? = some x ∧ b[j + 1]? = some y := by
  by_cases ha : i + 1 < a.length
  · rw [List.getElem?_append_left (by omega)] at h1 h2
    exact .inl ⟨h1, h2⟩
  · by_cases hb : i < a.length
    · rw [List.getElem?_append_left (by omega)] at h1
      rw [List.getElem?_append_right (by omega)] at h2
      refine .inr (.inl ⟨?_, ?_⟩)
      · rw [List.getLast?_eq_getElem?, show a.length - 1 = i by omega]; exact h1
      · rw [List.head?_eq_getElem?, ← show i + 1 - a.length = 0 by omega]; exact h2
    · rw [List.getElem?_append_right (by omega)] at h1 h2
      exact .inr (.inr ⟨i - a.length, h1, by rw [show i - a.length + 1 = i + 1 - a.length by omega]; exact h2⟩)
theorem wk_steps {es : List EdgeV} {n : Nat} (hE : ∀ e ∈ es, 0 ≤ e.1 ∧ e.1 < e.2 ∧ e.2 < (n : Int)) (f : Nat) : ∀ (v fr : Int) (seen t sn : List Int), wk es n f v fr seen = some (t, sn) →
    t.head? = some v ∧ t.getLast? = some v ∧ ∀ i x y, t[i]? = some x → t[i + 1]? = some y → mkE x y ∈ es := by
  induction f with
  | zero => intro v fr seen t sn h; simp [wk] at h
  | succ f ih =>
    intro v fr seen0 t sn h
    rw [wk] at h
    have key : ∀ (rem k : Nat) (out seen : List Int), rem + k = n → (out.head? = some v ∧ out.getLast? = some v ∧ ∀ i x y, out[i]? = some x → out[i + 1]? = some y → mkE x y ∈ es) → wkGo (wk es n f) es n v fr rem out seen = some (t, sn) →
        t.head? = some v ∧ t.getLast? = some v ∧ ∀ i x y, t[i]? = some x → t[i + 1]? = some y → mkE x y ∈ es := by
      intro rem
      induction rem with
      | zero =>
        intro k out seen hk hg h
        simp [wkGo] at h
        obtain ⟨rfl, rfl⟩ := h
        exact hg
      | succ rem ihr =>
        intro k out seen hk hg h
        have ek : n - (rem + 1) = k := by omega
        by_cases hs : (k : Int) = fr ∨ mkE v (k : Int) ∉ es
        · rw [wkGo_skip ek hs] at h
          exact ihr (k + 1) out seen (by omega) hg h
        · have hkf : (k : Int) ≠ fr := fun e => hs (.inl e)
          have he : mkE v (k : Int) ∈ es := Classical.not_not.1 (fun e => hs (.inr e))
          have hkv : v ≠ (k : Int) := fun e => by
            have := hE _ he
            rw [← e] at this
            unfold mkE at this
            rw [if_neg (by omega)] at this
            simp at this
          obtain ⟨_, p, hp, hgo⟩ := wkGo_go ek hkf he h
          obtain ⟨p1, p2, p3⟩ := ih (k : Int) v seen p.1 p.2 hp
          refine ihr (k + 1) _ p.2 (by omega) ⟨?_, by simp, fun i x y h1 h2 => ?_⟩ hgo
          · have := hg.1
            cases out with
            | nil => simp at this
            | cons a o => simpa using this
          · rcases step_split h1 h2 with ⟨h3, h4⟩ | ⟨h3, h4⟩ | ⟨j, h3, h4⟩
            · rcases step_split h3 h4 with ⟨h5, h6⟩ | ⟨h5, h6⟩ | ⟨j, h5, h6⟩
              · exact hg.2.2 i x y h5 h6
              · rw [hg.2.1] at h5
                rw [p1] at h6
                obtain rfl := Option.some.inj h5
                obtain rfl := Option.some.inj h6
                exact he
              · exact p3 j x y h5 h6
            · have h5 : (k : Int) = x := by
                rw [List.getLast?_append, p2] at h3
                simpa using h3
              simp at h4
              rw [← h5, ← h4, mkE_comm (fun e => hkv e.symm)]
              exact he
            · rcases j with _ | j
              · simp at h4
              · simp at h3
    exact key n 0 [v] (v :: seen0) (by omega) ⟨rfl, rfl, fun i x y h1 h2 => by
      rcases i with _ | i
      · simp at h2
      · simp at h1⟩ h
theorem wk_along {es : List EdgeV} {n : Nat} (hE : ∀ e ∈ es, 0 ≤ e.1 ∧ e.1 < e.2 ∧ e.2 < (n : Int)) (f : Nat) (v fr : Int) (seen t sn : List Int) (h : wk es n f v fr seen = some (t, sn)) : ∀ e ∈ tE t, e ∈ es := fun e he => by
  obtain ⟨i, h1, h2, h3⟩ := (tE_mem t e).1 he
  have := (wk_steps hE f v fr seen t sn h).2.2 i _ _ h1 h2
  unfold mkE at this
  rw [if_pos h3] at this
  exact this
/-- what such a walk tells of the tree that it went around -/
theorem wk_tree {es : List EdgeV} {n : Nat} (hE : ∀ e ∈ es, 0 ≤ e.1 ∧ e.1 < e.2 ∧ e.2 < (n : Int)) (hn : n ≤ 12) {r : Int} (hr0 : 0 ≤ r) (hr : r < (n : Int)) {t sn : List Int} (h : wk es n n r (-1) [] = some (t, sn)) :
    tB t = true ∧ t.head? = some r ∧ (∀ x ∈ t, 0 ≤ x ∧ x < (n : Int)) ∧ (∀ e ∈ es, (e.1 ∈ t ↔ e.2 ∈ t)) ∧ (∀ e ∈ es, e.1 ∈ t → e ∈ tE t) := by
  have hw := wk_wr hE n r (-1) [] t sn (by simp) h
  have hc := (wk_closed hE n r (-1) [] t sn h).2
  have hcl : ∀ e ∈ es, (e.1 ∈ t ↔ e.2 ∈ t) := fun e he => hc e he fun e2 => by
    have := hE e he
    rw [e2] at this
    rcases mkE_ends r (-1) with e | e
    · rw [e] at this; simp at this; omega
    · rw [e] at this; simp at this
  have hrt : r ∈ t := by
    have := hw.head
    cases t with
    | nil => simp at this
    | cons a t => simp at this; simp [this]
  have hrng : ∀ x ∈ t, 0 ≤ x ∧ x < (n : Int) := by
    -- the walk goes along edges alone
    have hs : ∀ x ∈ sn, 0 ≤ x ∧ x < (n : Int) := by
      have key : ∀ (f : Nat) (v fr : Int) (seen t sn : List Int), 0 ≤ v → v < (n : Int) → (∀ x ∈ seen, 0 ≤ x ∧ x < (n : Int)) → wk es n f v fr seen = some (t, sn) → ∀ x ∈ sn, 0 ≤ x ∧ x < (n : Int) := by
        intro f
        induction f with
        | zero => intro v fr seen t sn _ _ _ h; simp [wk] at h
        | succ f ih =>
          intro v fr seen t sn h0 h1 hs h
          rw [wk] at h
          have key : ∀ (rem k : Nat) (out seen : List Int), rem + k = n → (∀ x ∈ seen, 0 ≤ x ∧ x < (n : Int)) → wkGo (wk es n f) es n v fr rem out seen = some (t, sn) → ∀ x ∈ sn, 0 ≤ x ∧ x < (n : Int) := by
            intro rem
            induction rem with
            | zero =>
              intro k out seen hk hs h
              simp [wkGo] at h
              rw [← h.2]
              exact hs
            | succ rem ihr =>
              intro k out seen hk hs h
              have ek : n - (rem + 1) = k := by omega
              by_cases hc : (k : Int) = fr ∨ mkE v (k : Int) ∉ es
              · rw [wkGo_skip ek hc] at h
                exact ihr (k + 1) out seen (by omega) hs h
              · obtain ⟨_, p, hp, hgo⟩ := wkGo_go ek (fun e => hc (.inl e)) (Classical.not_not.1 (fun e => hc (.inr e))) h
                exact ihr (k + 1) _ p.2 (by omega) (ih (k : Int) v seen p.1 p.2 (by omega) (by omega) hs hp) hgo
          exact key n 0 [v] (v :: seen) (by omega) (fun x hx => by
            rcases List.mem_cons.1 hx with rfl | hx
            · exact ⟨h0, h1⟩
            · exact hs x hx) h
      exact key n r (-1) [] t sn hr0 hr (by simp) h
    exact fun x hx => hs x ((hw.mem x).2 (.inr hx))
  have hB : tB t = true := by
    obtain ⟨S', h3⟩ := hw.run [] [] (by simp) (by simp)
    refine (tB_iff t).2 ⟨fun x hx => ?_, r, S', h3⟩
    have := hrng x hx
    simp [vB]
    omega
  refine ⟨hB, hw.head, hrng, hcl, fun e he h1 => ?_⟩
  have hee := hE e he
  have hm : mkE e.1 e.2 = e := by unfold mkE; rw [if_pos hee.2.1]
  obtain ⟨i, hi⟩ := hw.all e.1 h1 e.2 (by rw [hm]; exact he) (fun _ => by omega)
  rcases hi with ⟨a, b⟩ | ⟨a, b⟩
  · have := tE_step hB a b
    rwa [hm] at this
  · have := tE_step hB a b
    rwa [mkE_comm (by omega), hm] at this
end Go.Proofs.YtgjnlhdgekfieaaGreat
namespace Go.Proofs.YtgjnlhdgekfieaaGreat
open Go.Lib

/-- the vertices below k that stand in t, ascending -/
def vsK (t : List Int) (k : Nat) : List Int := ((List.range k).map fun j : Nat => (j : Int)).filter fun x => decide (x ∈ t)
/-- the vertices that stand in t, ascending -/
def vsL (t : List Int) : List Int := vsK t 12
theorem vsK_zero (t : List Int) : vsK t 0 = [] := by simp [vsK]
theorem vsK_yes {t : List Int} {k : Nat} (h : (k : Int) ∈ t) : vsK t (k + 1) = vsK t k ++ [(k : Int)] := by simp [vsK, List.range_succ, h]
theorem vsK_no {t : List Int} {k : Nat} (h : (k : Int) ∉ t) : vsK t (k + 1) = vsK t k := by simp [vsK, List.range_succ, h]
theorem vsK_len (t : List Int) (k : Nat) : (vsK t k).length ≤ k := by
  have := List.length_filter_le (fun x : Int => decide (x ∈ t)) ((List.range k).map fun j : Nat => (j : Int))
  simpa [vsK] using this
theorem vsL_len (t : List Int) : (vsL t).length ≤ 12 := vsK_len t 12
theorem vsL_mem (t : List Int) (x : Int) : x ∈ vsL t ↔ vB x = true ∧ x ∈ t := by
  simp only [vsL, vsK, List.mem_filter, List.mem_map, List.mem_range, vB, decide_eq_true_eq]
  constructor
  · rintro ⟨⟨j, hj, rfl⟩, h⟩
    exact ⟨by simp; omega, h⟩
  · rintro ⟨h1, h2⟩
    exact ⟨⟨x.toNat, by omega, by omega⟩, h2⟩
theorem vsK_asc (t : List Int) (k : Nat) : (vsK t k).Pairwise (· < ·) := by
  refine List.Pairwise.filter _ ?_
  rw [List.pairwise_map]
  exact List.Pairwise.imp (fun h => by omega) (List.pairwise_lt_range (n := k))
/-- two ascending lists with the same members are one -/
theorem asc_ext : ∀ {a b : List Int}, a.Pairwise (· < ·) → b.Pairwise (· < ·) → (∀ x, x ∈ a ↔ x ∈ b) → a = b
  | [], [], _, _, _ => rfl
  | [], y :: b, _, _, h => by have := (h y).2 (by simp); simp at this
  | x :: a, [], _, _, h => by have := (h x).1 (by simp); simp at this
  | x :: a, y :: b, ha, hb, h => by
    rw [List.pairwise_cons] at ha hb
    have hxy : x = y := by
      have h1 := (h x).1 (by simp)
      have h2 := (h y).2 (by simp)
      rcases List.mem_cons.1 h1 with h1 | h1
      · exact h1
      · rcases List.mem_cons.1 h2 with h2 | h2
        · exact h2.symm
        · have := hb.1 x h1; have := ha.1 y h2; omega
    subst hxy
    have : a = b := asc_ext ha.2 hb.2 fun z => by
      have hz := h z
      simp only [List.mem_cons] at hz
      constructor
      · intro h3
        rcases hz.1 (.inr h3) with h4 | h4
        · have := ha.1 z h3; omega
        · exact h4
      · intro h3
        rcases hz.2 (.inr h3) with h4 | h4
        · have := hb.1 z h3; omega
        · exact h4
    rw [this]
theorem comp_asc (d : Array Int) (hs : ∀ i j, i ≤ j → j < d.size → d[i]! ≤ d[j]!) : ∀ m, m ≤ d.size → (compactUpTo d m).Pairwise (· < ·) ∧ ∀ x, x ∈ compactUpTo d m ↔ ∃ j, j < m ∧ d[j]! = x
  | 0, _ => by simp [compactUpTo]
  | m + 1, hm => by
    obtain ⟨h1, h2⟩ := comp_asc d hs m (by omega)
    rw [compactUpTo_succ]
    by_cases hk : keeps d m = true
    · rw [if_pos hk]
      constructor
      · rw [List.pairwise_append]
        refine ⟨h1, by simp, fun x hx y hy => ?_⟩
        obtain ⟨j, hj, rfl⟩ := (h2 x).1 hx
        simp only [List.mem_singleton] at hy
        subst hy
        simp only [keeps, decide_eq_true_eq] at hk
        rcases hk with hk | hk
        · omega
        · have a1 := hs j (m - 1) (by omega) (by omega)
          have a2 := hs (m - 1) m (by omega) (by omega)
          omega
      · intro x
        simp only [List.mem_append, h2, List.mem_singleton]
        constructor
        · rintro (⟨j, hj, rfl⟩ | rfl)
          · exact ⟨j, by omega, rfl⟩
          · exact ⟨m, by omega, rfl⟩
        · rintro ⟨j, hj, rfl⟩
          by_cases e : j = m
          · exact .inr (by rw [e])
          · exact .inl ⟨j, by omega, rfl⟩
    · rw [if_neg hk, List.append_nil]
      refine ⟨h1, fun x => ?_⟩
      rw [h2]
      have hk' : m ≠ 0 ∧ d[m]! = d[m - 1]! := by
        simp only [keeps, decide_eq_true_eq] at hk
        exact ⟨fun e => hk (.inl e), Classical.not_not.1 (fun e => hk (.inr e))⟩
      constructor
      · rintro ⟨j, hj, rfl⟩; exact ⟨j, by omega, rfl⟩
      · rintro ⟨j, hj, rfl⟩
        by_cases e : j = m
        · exact ⟨m - 1, by omega, by rw [e, hk'.2]⟩
        · exact ⟨j, by omega, rfl⟩
/-- sorted, without repetitions, without what is no vertex -/
def vsI (t : List Int) : List Int := (compactUpTo (t.mergeSort fun x y => decide (x ≤ y)).toArray (t.mergeSort fun x y => decide (x ≤ y)).toArray.size).filter fun x => !(!vB x)
theorem vsI_eq (t : List Int) : vsI t = vsL t := by
  have hp : (t.mergeSort fun x y => decide (x ≤ y)).Pairwise (fun x y => decide (x ≤ y) = true) := List.pairwise_mergeSort (fun a b c h1 h2 => by simp at h1 h2 ⊢; omega) (fun a b => by simp; omega) t
  have hm := fun x => (List.mergeSort_perm t fun x y : Int => decide (x ≤ y)).mem_iff (a := x)
  unfold vsI
  generalize (t.mergeSort fun x y => decide (x ≤ y)) = s at hp hm ⊢
  have hs : ∀ i j, i ≤ j → j < s.toArray.size → s.toArray[i]! ≤ s.toArray[j]! := by
    intro i j hij hj
    have hj' : j < s.length := by simpa using hj
    by_cases e : i = j
    · rw [e]; exact Int.le_refl _
    · have := List.pairwise_iff_getElem.1 hp i j (by omega) hj' (by omega)
      simp at this
      simpa [getElem!_pos, hj', show i < s.length by omega] using this
  obtain ⟨h1, h2⟩ := comp_asc s.toArray hs s.toArray.size (Nat.le_refl _)
  refine asc_ext (List.Pairwise.filter _ h1) (vsK_asc t 12) fun x => ?_
  rw [vsL_mem, List.mem_filter, h2]
  have h3 : (∃ j, j < s.toArray.size ∧ s.toArray[j]! = x) ↔ x ∈ t := by
    rw [← hm x]
    constructor
    · rintro ⟨j, hj, rfl⟩
      have hj' : j < s.length := by simpa using hj
      simp [hj']
    · intro hx
      obtain ⟨j, hj, e⟩ := List.getElem_of_mem hx
      exact ⟨j, by simpa using hj, by simp [hj, e]⟩
  rw [h3]
  simp
  exact And.comm
end Go.Proofs.YtgjnlhdgekfieaaGreat
