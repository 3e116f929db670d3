/- Forests linked and cut: pure. -/
import Derived.Test.YtcpffonenhhfoabFo7
import Derived.Test.YtcpffonenhhfoabTourT
namespace Go.Proofs.Ytcpffonenhhfoab
open Go.RowKit

theorem nd_sub {α : Type} [DecidableEq α] : ∀ {a b : List α}, a.Nodup → (∀ x ∈ a, x ∈ b) → a.length ≤ b.length
  | [], _, _, _ => by simp
  | x :: a, b, hn, h => by
    have hn' := List.nodup_cons.1 hn
    have h1 := nd_sub (b := b.erase x) hn'.2 fun y hy => by
      have hne : y ≠ x := fun e => hn'.1 (e ▸ hy)
      exact (List.mem_erase_of_ne hne).2 (h y (by simp [hy]))
    have h2 := List.length_erase_of_mem (h x (by simp))
    have h3 := List.length_pos_of_mem (h x (by simp))
    simp only [List.length_cons]
    omega
theorem vs_nodup (t : List Int) : (vsL t).Nodup := (vsK_asc t 12).imp fun h e => by omega
theorem cnt_two {a b J : List Int} (hap : Apart a b) (h : ∀ x, x ∈ J ↔ x ∈ a ∨ x ∈ b) : (vsL J).length = (vsL a).length + (vsL b).length := by
  have hn : (vsL a ++ vsL b).Nodup := by
    rw [List.nodup_append]
    exact ⟨vs_nodup a, vs_nodup b, fun x hx y hy e => hap x ((vsL_mem a x).1 hx).2 (e ▸ ((vsL_mem b y).1 hy).2)⟩
  have hm : ∀ x, x ∈ vsL J ↔ x ∈ vsL a ++ vsL b := fun x => by
    rw [List.mem_append, vsL_mem, vsL_mem, vsL_mem, h]
    constructor
    · rintro ⟨h1, h2 | h2⟩
      · exact .inl ⟨h1, h2⟩
      · exact .inr ⟨h1, h2⟩
    · rintro (⟨h1, h2⟩ | ⟨h1, h2⟩)
      · exact ⟨h1, .inl h2⟩
      · exact ⟨h1, .inr h2⟩
  have h1 := nd_sub (vs_nodup J) fun x hx => (hm x).1 hx
  have h2 := nd_sub hn fun x hx => (hm x).2 hx
  rw [List.length_append] at h1 h2
  omega

/-- two tours side by side, joined: what comes of it, and where it goes from u to v and back -/
structure JoIs (a b : List Int) (u v : Int) (J : List Int) : Prop where
  ok : tB J = true
  len : J.length = a.length + b.length + 1
  mem : ∀ x, x ∈ J ↔ x ∈ a ∨ x ∈ b
  step : ∃ k : Nat, J[k]? = some u ∧ J[k + 1]? = some v
  back : ∃ r, ReIs b v r ∧ spO J u v = (a, r, true)
theorem jo_two {a b : List Int} {u v : Int} (ha : tB a = true) (hb : tB b = true) (hap : Apart a b) (hu : u ∈ a) (hv : v ∈ b) : ∃ J, joO a u b v = some J ∧ JoIs a b u v J := by
  obtain ⟨k, hk, hkl, hkp⟩ := lst_mem hu
  obtain ⟨r, hr, HR⟩ := re_is hb hv
  obtain ⟨_, _, er⟩ := reO_some hr
  have hapr : ∀ x ∈ r, x ∉ a := fun x hx hxa => hap x hxa ((HR.mem x).1 hx)
  have hcom : comB a b = false := comB_no fun j hj => by
    rw [comP_at (List.getElem?_eq_getElem hj)]
    exact decide_eq_false fun hx => hap _ (List.getElem_mem hj) hx
  obtain ⟨j1, j2, j3⟩ := join_is ha HR.ok hapr hkp
  have hrl : 0 < r.length := tB_pos HR.ok
  have hl1 : (a.take (k + 1)).length = k + 1 := by simp; omega
  have g1 : (joT a k r)[k]? = some u := by
    unfold joT
    rw [List.getElem?_append_left (by omega), List.getElem?_take_of_lt (by omega)]
    exact hkp
  have g2 : (joT a k r)[k + 1]? = some v := by
    unfold joT
    rw [List.getElem?_append_right (by omega), hl1, Nat.sub_self, List.getElem?_append_left hrl]
    exact HR.fst
  refine ⟨joT a k r, ?_, j1, by rw [j2, HR.len], fun x => by rw [j3, HR.mem], ⟨k, g1, g2⟩, r, HR, ?_⟩
  · unfold joO
    rw [if_pos ⟨⟨ha, hb⟩, ⟨hu, hv⟩, hcom⟩, hk, ← er]
    rfl
  · have hlow : ∀ i x, i ≤ k → (joT a k r)[i]? = some x → x ∈ a := fun i x hi hx => by
      unfold joT at hx
      rw [List.getElem?_append_left (by omega)] at hx
      exact List.mem_of_mem_take (List.mem_of_getElem? hx)
    have hmid : ∀ i x, k < i → i ≤ k + r.length → (joT a k r)[i]? = some x → x ∈ r := fun i x h1 h2 hx => by
      unfold joT at hx
      rw [List.getElem?_append_right (by omega), List.getElem?_append_left (by omega)] at hx
      exact List.mem_of_getElem? hx
    have hhigh : ∀ i x, k + r.length < i → (joT a k r)[i]? = some x → x ∈ a := fun i x h1 hx => by
      unfold joT at hx
      rw [List.getElem?_append_right (by omega), List.getElem?_append_right (by omega)] at hx
      exact List.mem_of_mem_drop (List.mem_of_getElem? hx)
    have hva : v ∉ a := fun h => hap v h hv
    have hur : u ∉ r := fun h => hapr u h hu
    have hone : ∀ i, (joT a k r)[i]? = some u → (joT a k r)[i + 1]? = some v → i = k := fun i h1 h2 => by
      by_cases c1 : i < k
      · exact absurd (hlow (i + 1) v (by omega) h2) hva
      · by_cases c2 : i = k
        · exact c2
        · by_cases c3 : i ≤ k + r.length
          · exact absurd (hmid i u (by omega) c3 h1) hur
          · exact absurd (hhigh (i + 1) v (by omega) h2) hva
    have htwo : ∀ i, (joT a k r)[i]? = some v → (joT a k r)[i + 1]? = some u → i = k + r.length := fun i h1 h2 => by
      by_cases c1 : i ≤ k
      · exact absurd (hlow i v c1 h1) hva
      · by_cases c2 : i < k + r.length
        · exact absurd (hmid (i + 1) u (by omega) (by omega) h2) hur
        · by_cases c3 : i = k + r.length
          · exact c3
          · exact absurd (hhigh i v (by omega) h1) hva
    have e1 : goI (joT a k r) u v = (k : Int) := by
      rcases go_at (t := joT a k r) (u := u) (v := v) with ⟨k1, e1, _, a1, a2, _⟩ | ⟨_, hn⟩
      · rw [e1, hone k1 a1 a2]
      · have := hn k (List.getElem?_eq_some_iff.1 g2).1
        simp [goP, g1, g2] at this
    have e2 : goI (joT a k r) v u = ((k + r.length : Nat) : Int) := by
      obtain ⟨p, e2, _, _⟩ := go_both j1 e1
      rcases go_at (t := joT a k r) (u := v) (v := u) with ⟨k2, e3, _, b1, b2, _⟩ | ⟨e3, _⟩
      · rw [e3, htwo k2 b1 b2]
      · omega
    unfold spO
    rw [if_pos ⟨j1, by rw [e1]; omega⟩, e1, e2, show (min (k : Int) ((k + r.length : Nat) : Int)).toNat = k by omega, show (max (k : Int) ((k + r.length : Nat) : Int)).toNat = k + r.length by omega]
    unfold spT
    have x1 : (joT a k r).take (k + 1) = a.take (k + 1) := by
      unfold joT
      rw [List.take_append_of_le_length (by omega), List.take_take, Nat.min_self]
    have x2 : (joT a k r).drop (k + r.length + 2) = a.drop (k + 1) := by
      unfold joT
      rw [List.drop_append, hl1, List.drop_append, List.drop_of_length_le (by omega), List.drop_of_length_le (by omega), List.drop_drop, List.nil_append, List.nil_append]
      congr 1
      omega
    have x3 : ((joT a k r).take (k + r.length + 1)).drop (k + 1) = r := by
      unfold joT
      rw [List.take_append, hl1, List.take_of_length_le (by omega), show k + r.length + 1 - (k + 1) = r.length by omega, List.take_append_of_le_length (Nat.le_refl _), List.take_of_length_le (Nat.le_refl _), List.drop_append, hl1, List.drop_of_length_le (by omega)]
      simp
    rw [x1, x2, x3, List.take_append_drop]

/-- those of the first k tours whose place is not in out -/
def woK (ts : List (List Int)) (out : List Nat) : Nat → List (List Int)
  | 0 => []
  | k + 1 => woK ts out k ++ (if k ∈ out then [] else ts[k]?.toList)
theorem wo_one {ts : List (List Int)} {i : Nat} {t : List Int} (hi : ts[i]? = some t) (k : Nat) : ((if i < k then [t] else []) ++ woK ts [i] k).Perm (ts.take k) := by
  induction k with
  | zero => simp [woK]
  | succ k ih =>
    rw [List.take_add_one]
    simp only [woK, List.mem_singleton]
    by_cases e : k = i
    · subst e
      rw [if_neg (by omega), List.nil_append] at ih
      rw [if_pos (by omega), if_pos rfl, List.append_nil, hi]
      exact (List.perm_append_comm (l₁ := [t])).trans (ih.append_right [t])
    · rw [if_neg e, ← List.append_assoc]
      have e2 : (if i < k + 1 then [t] else []) = (if i < k then [t] else []) := by
        by_cases h : i < k
        · rw [if_pos h, if_pos (by omega)]
        · rw [if_neg h, if_neg (by omega)]
      rw [e2]
      exact ih.append_right _
theorem wo_two {ts : List (List Int)} {i j : Nat} {s t : List Int} (hi : ts[i]? = some s) (hj : ts[j]? = some t) (hij : i ≠ j) (k : Nat) : ((if i < k then [s] else []) ++ (if j < k then [t] else []) ++ woK ts [i, j] k).Perm (ts.take k) := by
  induction k with
  | zero => simp [woK]
  | succ k ih =>
    rw [List.take_add_one]
    simp only [woK, List.mem_cons, List.not_mem_nil, or_false]
    by_cases e : k = i
    · subst e
      rw [if_neg (by omega), List.nil_append] at ih
      have e2 : (if j < k + 1 then [t] else []) = (if j < k then [t] else []) := by
        by_cases h : j < k
        · rw [if_pos h, if_pos (by omega)]
        · rw [if_neg h, if_neg (by omega)]
      rw [if_pos (show k < k + 1 by omega), e2, if_pos (show k = k ∨ k = j from .inl rfl), List.append_nil, hi, List.append_assoc]
      exact (List.perm_append_comm (l₁ := [s])).trans (ih.append_right [s])
    · have e3 : (if i < k + 1 then [s] else []) = (if i < k then [s] else []) := by
        by_cases h : i < k
        · rw [if_pos h, if_pos (by omega)]
        · rw [if_neg h, if_neg (by omega)]
      by_cases f : k = j
      · subst f
        rw [if_neg (show ¬ k < k by omega), List.append_nil] at ih
        rw [e3, if_pos (show k < k + 1 by omega), if_pos (show k = i ∨ k = k from .inr rfl), List.append_nil, hj]
        have p1 : ((if i < k then [s] else []) ++ [t] ++ woK ts [i, k] k).Perm ((if i < k then [s] else []) ++ woK ts [i, k] k ++ [t]) := by
          rw [List.append_assoc, List.append_assoc]
          exact List.perm_append_comm.append_left _
        exact p1.trans (ih.append_right [t])
      · have e4 : (if j < k + 1 then [t] else []) = (if j < k then [t] else []) := by
          by_cases h : j < k
          · rw [if_pos h, if_pos (by omega)]
          · rw [if_neg h, if_neg (by omega)]
        rw [e3, e4, if_neg (show ¬ (k = i ∨ k = j) by omega), ← List.append_assoc]
        exact ih.append_right _
theorem wo_one_all {ts : List (List Int)} {i : Nat} {t : List Int} (hi : ts[i]? = some t) : (t :: woK ts [i] ts.length).Perm ts := by
  have h := wo_one hi ts.length
  rw [if_pos (List.getElem?_eq_some_iff.1 hi).1, List.take_length] at h
  exact h
theorem wo_two_all {ts : List (List Int)} {i j : Nat} {s t : List Int} (hi : ts[i]? = some s) (hj : ts[j]? = some t) (hij : i ≠ j) : (s :: t :: woK ts [i, j] ts.length).Perm ts := by
  have h := wo_two hi hj hij ts.length
  rw [if_pos (List.getElem?_eq_some_iff.1 hi).1, if_pos (List.getElem?_eq_some_iff.1 hj).1, List.take_length] at h
  exact h
/-- two tours in the place of which their join stands -/
theorem FQ.join {N : Int} {a b J : List Int} {W : List (List Int)} (h : FQ N (a :: b :: W)) (hJ : tB J = true) (hm : ∀ x, x ∈ J ↔ x ∈ a ∨ x ∈ b) : FQ N (W ++ [J]) := by
  obtain ⟨h1, h2, h3⟩ := h
  rw [List.pairwise_cons, List.pairwise_cons] at h2
  obtain ⟨p1, p2, p3⟩ := h2
  have hab : Apart a b := p1 b (by simp)
  refine FQ.perm (a := J :: W) ⟨fun t ht => ?_, ?_, ?_⟩ (List.perm_append_comm (l₁ := [J]))
  · rcases List.mem_cons.1 ht with rfl | ht
    · refine ⟨hJ, fun x hx => ?_⟩
      rcases (hm x).1 hx with hx | hx
      · exact (h1 a (by simp)).2 x hx
      · exact (h1 b (by simp)).2 x hx
    · exact h1 t (by simp [ht])
  · rw [List.pairwise_cons]
    refine ⟨fun t ht x hx => ?_, p3⟩
    rcases (hm x).1 hx with hx | hx
    · exact p1 t (by simp [ht]) x hx
    · exact p2 t ht x hx
  · rw [← h3]
    have := cnt_two hab hm
    simp only [cnt, List.map_cons, List.sum_cons]
    omega
/-- a tour in the place of which its two parts stand -/
theorem FQ.split {N : Int} {t a b : List Int} {p c : Int} {W : List (List Int)} (h : FQ N (t :: W)) (hs : SpIs t a b p c) : FQ N (W ++ [a, b]) := by
  obtain ⟨h1, h2, h3⟩ := h
  rw [List.pairwise_cons] at h2
  obtain ⟨p1, p2⟩ := h2
  have hab : Apart a b := Apart.symm fun x hx => hs.apart x hx
  refine FQ.perm (a := a :: b :: W) ⟨fun s hs' => ?_, ?_, ?_⟩ (List.perm_append_comm (l₁ := [a, b]))
  · rcases List.mem_cons.1 hs' with rfl | hs'
    · exact ⟨hs.oka, fun x hx => (h1 t (by simp)).2 x ((hs.mem x).2 (.inl hx))⟩
    · rcases List.mem_cons.1 hs' with rfl | hs'
      · exact ⟨hs.okb, fun x hx => (h1 t (by simp)).2 x ((hs.mem x).2 (.inr hx))⟩
      · exact h1 s (by simp [hs'])
  · rw [List.pairwise_cons, List.pairwise_cons]
    refine ⟨fun s hs' x hx => ?_, fun s hs' x hx => p1 s hs' x ((hs.mem x).2 (.inr hx)), p2⟩
    rcases List.mem_cons.1 hs' with rfl | hs'
    · exact hab x hx
    · exact p1 s hs' x ((hs.mem x).2 (.inl hx))
  · rw [← h3]
    have := cnt_two hab hs.mem
    simp only [cnt, List.map_cons, List.sum_cons]
    omega
end Go.Proofs.Ytcpffonenhhfoab
