/- Lists of tours in memory; what a right forest is: pure. Right forests, put in order by their least vertices: pure. Forests linked and cut: pure. The trees of a list of edges, each walked from its least vertex: pure. The edges of a forest, its parts, the place of a vertex: pure. A forest linked and cut again: pure. -/
import Derived.Test.YtgjnlhdgekfieaaGreatKLaid
import Derived.Test.YtgjnlhdgekfieaaGreatKVerts
namespace Go.Proofs.YtgjnlhdgekfieaaGreat
open Go.RowKit

/-- a list of lists of numbers stands at a -/
def Ts (w : World) (B : Nat) (a : Option Addr) (n : Nat) (ts : List (List Int)) : Prop :=
  ts.length = n ∧ (n = 0 ∨ ∃ b off, a = some ⟨b, off, none⟩ ∧ b < B ∧ ∀ (j : Nat) (t : List Int), ts[j]? = some t →
    ∃ (a' : Option Addr) (c' : Nat), w.cell? ⟨b, off + j, none⟩ = some (.slice a' t.length c') ∧ Is w B a' t.length t ∧ t.length ≤ c')
theorem Ts.below {w w' : World} {B C : Nat} {a : Option Addr} {n : Nat} {ts : List (List Int)} (h : Ts w B a n ts) (hb : Below C w w') (hB : B ≤ C) : Ts w' B a n ts := by
  refine ⟨h.1, h.2.imp id ?_⟩
  rintro ⟨b, off, ha, hbl, hc⟩
  refine ⟨b, off, ha, hbl, fun j t ht => ?_⟩
  obtain ⟨a', c', h1, h2, h3⟩ := hc j t ht
  exact ⟨a', c', by rw [hb.cell (p := ⟨b, _, none⟩) (by show b < C; omega)]; exact h1, h2.below hb hB, h3⟩
theorem Ts.mono {w : World} {B C : Nat} {a : Option Addr} {n : Nat} {ts : List (List Int)} (h : Ts w B a n ts) (hB : B ≤ C) : Ts w C a n ts := by
  refine ⟨h.1, h.2.imp id ?_⟩
  rintro ⟨b, off, ha, hbl, hc⟩
  refine ⟨b, off, ha, by omega, fun j t ht => ?_⟩
  obtain ⟨a', c', h1, h2, h3⟩ := hc j t ht
  exact ⟨a', c', h1, h2.mono hB, h3⟩
theorem Ts.up {w w' : World} {a : Option Addr} {n : Nat} {ts : List (List Int)} (h : Ts w w.heap.size a n ts) (hb : Below w.heap.size w w') : Ts w' w'.heap.size a n ts := (h.below hb (Nat.le_refl _)).mono hb.size
theorem Ts.at {w : World} {B b off n : Nat} {ts : List (List Int)} (h : Ts w B (some ⟨b, off, none⟩) n ts) {j : Nat} {t : List Int} (ht : ts[j]? = some t) :
    ∃ (a' : Option Addr) (c' : Nat), w.cell? ⟨b, off + j, none⟩ = some (.slice a' t.length c') ∧ Is w B a' t.length t ∧ t.length ≤ c' := by
  have hj := (List.getElem?_eq_some_iff.1 ht).1
  have hn := h.1
  rcases h.2 with h0 | ⟨b', off', hb, _, hc⟩
  · omega
  · simp at hb
    obtain ⟨rfl, rfl⟩ := hb
    exact hc j t ht

/-- the least vertex of a tour -/
def mnV (t : List Int) : Int := (vsL t).headD 0
/-- the tour at i is right beside those before it -/
def FAt (N : Int) (ts : List (List Int)) (i : Nat) : Prop := ∀ t, ts[i]? = some t →
  tB t = true ∧ (∀ x ∈ t, x < N) ∧ (∀ j s, j + 1 = i → ts[j]? = some s → mnV s < mnV t) ∧ ∀ k s, k < i → ts[k]? = some s → ∀ x ∈ t, x ∉ s
/-- the vertices of the first k tours, counted -/
def cntV (ts : List (List Int)) (k : Nat) : Nat := ((ts.take k).map fun t => (vsL t).length).sum
/-- N vertices and these tours are a right forest -/
def FP (N : Int) (ts : List (List Int)) : Prop := 1 ≤ N ∧ N ≤ 12 ∧ ts.length ≤ 12 ∧ (∀ i, FAt N ts i) ∧ (cntV ts ts.length : Int) = N
theorem cntV_zero (ts : List (List Int)) : cntV ts 0 = 0 := by simp [cntV]
theorem cntV_succ {ts : List (List Int)} {k : Nat} {t : List Int} (h : ts[k]? = some t) : cntV ts (k + 1) = cntV ts k + (vsL t).length := by
  unfold cntV
  rw [List.take_add_one, h]
  simp
theorem cntV_le (ts : List (List Int)) (k : Nat) : cntV ts k ≤ 12 * k := by
  induction k with
  | zero => simp [cntV]
  | succ k ih =>
    cases h : ts[k]? with
    | none =>
      have : ts.take (k + 1) = ts.take k := by rw [List.take_add_one, h]; simp
      unfold cntV at ih ⊢
      rw [this]
      omega
    | some t =>
      rw [cntV_succ h]
      have := vsL_len t
      omega
theorem vs_mem_of {t : List Int} (hB : tB t = true) {x : Int} : x ∈ vsL t ↔ x ∈ t := by
  rw [vsL_mem]
  exact ⟨fun h => h.2, fun h => ⟨((tB_iff t).1 hB).1 x h, h⟩⟩
theorem tB_pos {t : List Int} (hB : tB t = true) : 0 < t.length := by
  obtain ⟨_, x, s, h⟩ := (tB_iff t).1 hB
  cases t with
  | nil => simp [trun] at h
  | cons a t => simp
theorem vs_pos {t : List Int} (hB : tB t = true) : 0 < (vsL t).length := by
  have := tB_pos hB
  exact List.length_pos_of_mem ((vs_mem_of hB).2 (List.getElem_mem this))
theorem vs_last {t : List Int} (hB : tB t = true) {N x : Int} (hx : (vsL t)[(vsL t).length - 1]? = some x) : (∀ y ∈ t, y < N) ↔ x < N := by
  constructor
  · exact fun h => h x ((vs_mem_of hB).1 (List.mem_of_getElem? hx))
  · intro h y hy
    obtain ⟨p, hp⟩ := List.mem_iff_getElem?.1 ((vs_mem_of hB).2 hy)
    obtain ⟨p0, p1⟩ := List.getElem?_eq_some_iff.1 hp
    obtain ⟨q0, q1⟩ := List.getElem?_eq_some_iff.1 hx
    by_cases e : p = (vsL t).length - 1
    · subst e
      rw [p1] at q1
      omega
    · have := List.pairwise_iff_getElem.1 (vsK_asc t 12) p ((vsL t).length - 1) p0 q0 (by omega)
      rw [show (vsK t 12)[p]'p0 = y from p1, show (vsK t 12)[(vsL t).length - 1]'q0 = x from q1] at this
      omega
theorem mn_first {t : List Int} {x : Int} (hx : (vsL t)[0]? = some x) : mnV t = x := by
  unfold mnV
  cases h : vsL t with
  | nil => rw [h] at hx; simp at hx
  | cons a l => rw [h] at hx; simp at hx; simpa using hx
end Go.Proofs.YtgjnlhdgekfieaaGreat
namespace Go.Proofs.YtgjnlhdgekfieaaGreat
open Go.RowKit

/-- nothing in common -/
def Apart (s t : List Int) : Prop := ∀ x ∈ s, x ∉ t
theorem Apart.symm {s t : List Int} (h : Apart s t) : Apart t s := fun x hx hs => h x hs hx
/-- how many vertices a list of tours has -/
def cnt (ts : List (List Int)) : Nat := (ts.map fun t => (vsL t).length).sum
theorem cntV_all (ts : List (List Int)) : cntV ts ts.length = cnt ts := by unfold cntV cnt; rw [List.take_length]
theorem cnt_perm {a b : List (List Int)} (h : a.Perm b) : cnt a = cnt b := (h.map _).sum_nat
/-- tours side by side, in whatever order -/
def FQ (N : Int) (ts : List (List Int)) : Prop := (∀ t ∈ ts, tB t = true ∧ ∀ x ∈ t, x < N) ∧ ts.Pairwise Apart ∧ (cnt ts : Int) = N
theorem FQ.perm {N : Int} {a b : List (List Int)} (h : FQ N a) (p : a.Perm b) : FQ N b :=
  ⟨fun t ht => h.1 t (p.mem_iff.2 ht), p.pairwise h.2.1 fun h => h.symm, by rw [← cnt_perm p]; exact h.2.2⟩
theorem cnt_le {ts : List (List Int)} (h : ∀ t ∈ ts, tB t = true) : ts.length ≤ cnt ts := by
  induction ts with
  | nil => simp [cnt]
  | cons t r ih =>
    have h1 := vs_pos (h t (by simp))
    have h2 := ih fun s hs => h s (by simp [hs])
    simp only [cnt, List.map_cons, List.sum_cons, List.length_cons] at h2 ⊢
    omega
/-- neighbours ascend: all ascend -/
theorem asc_all {f : List Int → Int} {ts : List (List Int)} (h : ∀ i t j s, ts[i]? = some t → j + 1 = i → ts[j]? = some s → f s < f t) : ts.Pairwise fun s t => f s < f t := by
  rw [List.pairwise_iff_getElem]
  intro i j hi hj hij
  obtain ⟨d, rfl⟩ : ∃ d, j = i + d + 1 := ⟨j - i - 1, by omega⟩
  clear hij
  induction d with
  | zero => exact h (i + 1) _ i _ (List.getElem?_eq_getElem hj) rfl (List.getElem?_eq_getElem hi)
  | succ d ih =>
    have h1 := ih (by omega)
    have h2 := h (i + (d + 1) + 1) _ (i + d + 1) _ (List.getElem?_eq_getElem hj) rfl (List.getElem?_eq_getElem (by omega))
    omega
theorem FP_iff (N : Int) (ts : List (List Int)) : FP N ts ↔ 1 ≤ N ∧ N ≤ 12 ∧ FQ N ts ∧ ts.Pairwise fun s t => mnV s < mnV t := by
  constructor
  · rintro ⟨h1, h2, _, h4, h5⟩
    rw [cntV_all] at h5
    refine ⟨h1, h2, ⟨fun t ht => ?_, ?_, h5⟩, asc_all fun i t j s ht hj hs => (h4 i t ht).2.2.1 j s hj hs⟩
    · obtain ⟨i, hi⟩ := List.mem_iff_getElem?.1 ht
      exact ⟨(h4 i t hi).1, (h4 i t hi).2.1⟩
    · rw [List.pairwise_iff_getElem]
      intro i j hi hj hij
      exact Apart.symm fun x hx => (h4 j _ (List.getElem?_eq_getElem hj)).2.2.2 i _ hij (List.getElem?_eq_getElem hi) x hx
  · rintro ⟨h1, h2, ⟨h3, h4, h5⟩, h6⟩
    have h7 := cnt_le fun t ht => (h3 t ht).1
    refine ⟨h1, h2, by omega, fun i t ht => ?_, by rw [cntV_all]; exact h5⟩
    obtain ⟨hi, e⟩ := List.getElem?_eq_some_iff.1 ht
    have hm := h3 t (List.mem_of_getElem? ht)
    refine ⟨hm.1, hm.2, fun j s hj hs => ?_, fun k s hk hs x hx hxs => ?_⟩
    · obtain ⟨hj2, e2⟩ := List.getElem?_eq_some_iff.1 hs
      have := List.pairwise_iff_getElem.1 h6 j i hj2 hi (by omega)
      rw [e, e2] at this
      exact this
    · obtain ⟨hk2, e2⟩ := List.getElem?_eq_some_iff.1 hs
      have := List.pairwise_iff_getElem.1 h4 k i hk2 hi hk
      rw [e, e2] at this
      exact this x hxs hx
/-- those with least vertex below k, in order -/
def srtK (l : List (List Int)) : Nat → List (List Int)
  | 0 => []
  | k + 1 => srtK l k ++ l.filter fun t => decide (mnV t = (k : Int))
theorem srtK_mem (l : List (List Int)) (k : Nat) (t : List Int) : t ∈ srtK l k ↔ t ∈ l ∧ ∃ j, j < k ∧ mnV t = ((j : Nat) : Int) := by
  induction k with
  | zero => simp [srtK]
  | succ k ih =>
    simp only [srtK, List.mem_append, ih, List.mem_filter, decide_eq_true_eq]
    constructor
    · rintro (⟨h, j, hj, e⟩ | ⟨h, e⟩)
      · exact ⟨h, j, by omega, e⟩
      · exact ⟨h, k, by omega, e⟩
    · rintro ⟨h, j, hj, e⟩
      by_cases hk : j = k
      · subst hk
        exact .inr ⟨h, e⟩
      · exact .inl ⟨h, j, by omega, e⟩
theorem srtK_cons (t : List Int) (l : List (List Int)) (k : Nat) {j : Nat} (hj : j < k) (e : mnV t = (j : Int)) : (srtK (t :: l) k).Perm (t :: srtK l k) := by
  induction k with
  | zero => omega
  | succ k ih =>
    simp only [srtK]
    by_cases hk : j = k
    · subst hk
      have h0 : srtK (t :: l) j = srtK l j := by
        have : ∀ i, i ≤ j → srtK (t :: l) i = srtK l i := by
          intro i
          induction i with
          | zero => intro _; rfl
          | succ i ih2 =>
            intro hi
            have hne : ¬ mnV t = (i : Int) := by rw [e]; omega
            simp only [srtK]
            rw [ih2 (by omega), List.filter_cons_of_neg (by simpa using hne)]
        exact this j (Nat.le_refl _)
      rw [h0, List.filter_cons_of_pos (by simpa using e)]
      exact List.perm_middle
    · have hne : ¬ mnV t = (k : Int) := by rw [e]; omega
      rw [List.filter_cons_of_neg (by simpa using hne)]
      exact (ih (by omega)).append_right _
theorem srtK_perm {l : List (List Int)} {k : Nat} (h : ∀ t ∈ l, ∃ j, j < k ∧ mnV t = ((j : Nat) : Int)) : (srtK l k).Perm l := by
  induction l with
  | nil =>
    have : ∀ i, srtK [] i = [] := by
      intro i
      induction i with
      | zero => rfl
      | succ i ih => simp [srtK, ih]
    rw [this]
  | cons t l ih =>
    obtain ⟨j, hj, e⟩ := h t (by simp)
    exact (srtK_cons t l k hj e).trans ((ih fun s hs => h s (by simp [hs])).cons t)
theorem mn_mem {t : List Int} (hB : tB t = true) : mnV t ∈ t := by
  have h := vs_pos hB
  have hx : (vsL t)[0]? = some ((vsL t)[0]'h) := List.getElem?_eq_getElem h
  rw [mn_first hx]
  exact (vs_mem_of hB).1 (List.getElem_mem h)
theorem mn_range {t : List Int} (hB : tB t = true) {N : Nat} (hx : ∀ x ∈ t, x < (N : Int)) : ∃ j, j < N ∧ mnV t = ((j : Nat) : Int) := by
  have h1 := mn_mem hB
  have h2 := hx _ h1
  have h3 := ((tB_iff t).1 hB).1 _ h1
  unfold vB at h3
  have h3 := of_decide_eq_true h3
  exact ⟨(mnV t).toNat, by omega, by omega⟩
theorem srtK_asc {l : List (List Int)} (h : l.Pairwise fun s t => mnV s ≠ mnV t) (k : Nat) : (srtK l k).Pairwise fun s t => mnV s < mnV t := by
  induction k with
  | zero => exact List.Pairwise.nil
  | succ k ih =>
    simp only [srtK]
    rw [List.pairwise_append]
    refine ⟨ih, ?_, fun s hs t ht => ?_⟩
    · have h2 : (l.filter fun t => decide (mnV t = (k : Int))).Pairwise fun s t => mnV s ≠ mnV t := h.filter _
      refine h2.imp_of_mem fun hs ht hne => ?_
      have e1 := of_decide_eq_true (List.mem_filter.1 hs).2
      have e2 := of_decide_eq_true (List.mem_filter.1 ht).2
      exact absurd (e1.trans e2.symm) hne
    · obtain ⟨_, j, hj, e⟩ := (srtK_mem l k s).1 hs
      have e2 := of_decide_eq_true (List.mem_filter.1 ht).2
      omega
theorem mn_apart {s t : List Int} (hs : tB s = true) (ht : tB t = true) (h : Apart s t) : mnV s ≠ mnV t := fun e => h _ (mn_mem hs) (e ▸ mn_mem ht)
/-- tours side by side, put in order, are a right forest -/
theorem FP_srt {N : Nat} {l : List (List Int)} (h1 : 1 ≤ N) (h2 : N ≤ 12) (h : FQ (N : Int) l) : FP (N : Int) (srtK l N) := by
  have hp : (srtK l N).Perm l := srtK_perm fun t ht => mn_range (h.1 t ht).1 (h.1 t ht).2
  refine (FP_iff _ _).2 ⟨by omega, by omega, h.perm hp.symm, srtK_asc ?_ N⟩
  exact h.2.1.imp_of_mem fun hs ht hap => mn_apart (h.1 _ hs).1 (h.1 _ ht).1 hap
/-- a right forest is in order already, and two in order with the same tours are one -/
theorem asc_uniq {a b : List (List Int)} (ha : a.Pairwise fun s t => mnV s < mnV t) (hb : b.Pairwise fun s t => mnV s < mnV t) (hp : a.Perm b) : a = b :=
  List.Perm.eq_of_pairwise (fun _ _ _ _ h1 h2 => by omega) ha hb hp
end Go.Proofs.YtgjnlhdgekfieaaGreat
namespace Go.Proofs.YtgjnlhdgekfieaaGreat
open Go.RowKit

theorem nd_sub {α : Type} [DecidableEq α] : ∀ {a b : List α}, a.Nodup → (∀ x ∈ a, x ∈ b) → a.length ≤ b.length
  | [], _, _, _ => by simp
  | x :: a, b, hn, h => by
    have hn' := List.nodup_cons.1 hn
    have h1 := nd_sub (b := b.erase x) hn'.2 fun y hy => by
      have hne : y ≠ x := fun e => hn'.1 (e ▸ hy)
      exact (List.mem_erase_of_ne hne).2 (h y (by simp [hy]))
    have h2 := List.length_erase_of_mem (h x (by simp))
    have h3 := List.length_pos_of_mem (h x (by simp))
    simp only [List.length_cons]
    omega
theorem vs_nodup (t : List Int) : (vsL t).Nodup := (vsK_asc t 12).imp fun h e => by omega
theorem cnt_two {a b J : List Int} (hap : Apart a b) (h : ∀ x, x ∈ J ↔ x ∈ a ∨ x ∈ b) : (vsL J).length = (vsL a).length + (vsL b).length := by
  have hn : (vsL a ++ vsL b).Nodup := by
    rw [List.nodup_append]
    exact ⟨vs_nodup a, vs_nodup b, fun x hx y hy e => hap x ((vsL_mem a x).1 hx).2 (e ▸ ((vsL_mem b y).1 hy).2)⟩
  have hm : ∀ x, x ∈ vsL J ↔ x ∈ vsL a ++ vsL b := fun x => by
    rw [List.mem_append, vsL_mem, vsL_mem, vsL_mem, h]
    constructor
    · rintro ⟨h1, h2 | h2⟩
      · exact .inl ⟨h1, h2⟩
      · exact .inr ⟨h1, h2⟩
    · rintro (⟨h1, h2⟩ | ⟨h1, h2⟩)
      · exact ⟨h1, .inl h2⟩
      · exact ⟨h1, .inr h2⟩
  have h1 := nd_sub (vs_nodup J) fun x hx => (hm x).1 hx
  have h2 := nd_sub hn fun x hx => (hm x).2 hx
  rw [List.length_append] at h1 h2
  omega

/-- two tours side by side, joined: what comes of it, and where it goes from u to v and back -/
structure JoIs (a b : List Int) (u v : Int) (J : List Int) : Prop where
  ok : tB J = true
  len : J.length = a.length + b.length + 1
  mem : ∀ x, x ∈ J ↔ x ∈ a ∨ x ∈ b
  step : ∃ k : Nat, J[k]? = some u ∧ J[k + 1]? = some v
  back : ∃ r, ReIs b v r ∧ spO J u v = (a, r, true)
theorem jo_two {a b : List Int} {u v : Int} (ha : tB a = true) (hb : tB b = true) (hap : Apart a b) (hu : u ∈ a) (hv : v ∈ b) : ∃ J, joO a u b v = some J ∧ JoIs a b u v J := by
  obtain ⟨k, hk, hkl, hkp⟩ := lst_mem hu
  obtain ⟨r, hr, HR⟩ := re_is hb hv
  obtain ⟨_, _, er⟩ := reO_some hr
  have hapr : ∀ x ∈ r, x ∉ a := fun x hx hxa => hap x hxa ((HR.mem x).1 hx)
  have hcom : comB a b = false := comB_no fun j hj => by
    rw [comP_at (List.getElem?_eq_getElem hj)]
    exact decide_eq_false fun hx => hap _ (List.getElem_mem hj) hx
  obtain ⟨j1, j2, j3⟩ := join_is ha HR.ok hapr hkp
  have hrl : 0 < r.length := tB_pos HR.ok
  have hl1 : (a.take (k + 1)).length = k + 1 := by simp; omega
  have g1 : (joT a k r)[k]? = some u := by
    unfold joT
    rw [List.getElem?_append_left (by omega), List.getElem?_take_of_lt (by omega)]
    exact hkp
  have g2 : (joT a k r)[k + 1]? = some v := by
    unfold joT
    rw [List.getElem?_append_right (by omega), hl1, Nat.sub_self, List.getElem?_append_left hrl]
    exact HR.fst
  refine ⟨joT a k r, ?_, j1, by rw [j2, HR.len], fun x => by rw [j3, HR.mem], ⟨k, g1, g2⟩, r, HR, ?_⟩
  · unfold joO
    rw [if_pos ⟨⟨ha, hb⟩, ⟨hu, hv⟩, hcom⟩, hk, ← er]
    rfl
  · have hlow : ∀ i x, i ≤ k → (joT a k r)[i]? = some x → x ∈ a := fun i x hi hx => by
      unfold joT at hx
      rw [List.getElem?_append_left (by omega)] at hx
      exact List.mem_of_mem_take (List.mem_of_getElem? hx)
    have hmid : ∀ i x, k < i → i ≤ k + r.length → (joT a k r)[i]? = some x → x ∈ r := fun i x h1 h2 hx => by
      unfold joT at hx
      rw [List.getElem?_append_right (by omega), List.getElem?_append_left (by omega)] at hx
      exact List.mem_of_getElem? hx
    have hhigh : ∀ i x, k + r.length < i → (joT a k r)[i]? = some x → x ∈ a := fun i x h1 hx => by
      unfold joT at hx
      rw [List.getElem?_append_right (by omega), List.getElem?_append_right (by omega)] at hx
      exact List.mem_of_mem_drop (List.mem_of_getElem? hx)
    have hva : v ∉ a := fun h => hap v h hv
    have hur : u ∉ r := fun h => hapr u h hu
    have hone : ∀ i, (joT a k r)[i]? = some u → (joT a k r)[i + 1]? = some v → i = k := fun i h1 h2 => by
      by_cases c1 : i < k
      · exact absurd (hlow (i + 1) v (by omega) h2) hva
      · by_cases c2 : i = k
        · exact c2
        · by_cases c3 : i ≤ k + r.length
          · exact absurd (hmid i u (by omega) c3 h1) hur
          · exact absurd (hhigh (i + 1) v (by omega) h2) hva
    have htwo : ∀ i, (joT a k r)[i]? = some v → (joT a k r)[i + 1]? = some u → i = k + r.length := fun i h1 h2 => by
      by_cases c1 : i ≤ k
      · exact absurd (hlow i v c1 h1) hva
      · by_cases c2 : i < k + r.length
        · exact absurd (hmid (i + 1) u (by omega) (by omega) h2) hur
        · by_cases c3 : i = k + r.length
          · exact c3
          · exact absurd (hhigh i v (by omega) h1) hva
    have e1 : goI (joT a k r) u v = (k : Int) := by
      rcases go_at (t := joT a k r) (u := u) (v := v) with ⟨k1, e1, _, a1, a2, _⟩ | ⟨_, hn⟩
      · rw [e1, hone k1 a1 a2]
      · have := hn k (List.getElem?_eq_some_iff.1 g2).1
        simp [goP, g1, g2] at this
    have e2 : goI (joT a k r) v u = ((k + r.length : Nat) : Int) := by
      obtain ⟨p, e2, _, _⟩ := go_both j1 e1
      rcases go_at (t := joT a k r) (u := v) (v := u) with ⟨k2, e3, _, b1, b2, _⟩ | ⟨e3, _⟩
      · rw [e3, htwo k2 b1 b2]
      · omega
    unfold spO
    rw [if_pos ⟨j1, by rw [e1]; omega⟩, e1, e2, show (min (k : Int) ((k + r.length : Nat) : Int)).toNat = k by omega, show (max (k : Int) ((k + r.length : Nat) : Int)).toNat = k + r.length by omega]
    unfold spT
    have x1 : (joT a k r).take (k + 1) = a.take (k + 1) := by
      unfold joT
      rw [List.take_append_of_le_length (by omega), List.take_take, Nat.min_self]
    have x2 : (joT a k r).drop (k + r.length + 2) = a.drop (k + 1) := by
      unfold joT
      rw [List.drop_append, hl1, List.drop_append, List.drop_of_length_le (by omega), List.drop_of_length_le (by omega), List.drop_drop, List.nil_append, List.nil_append]
      congr 1
      omega
    have x3 : ((joT a k r).take (k + r.length + 1)).drop (k + 1) = r := by
      unfold joT
      rw [List.take_append, hl1, List.take_of_length_le (by omega), show k + r.length + 1 - (k + 1) = r.length by omega, List.take_append_of_le_length (Nat.le_refl _), List.take_of_length_le (Nat.le_refl _), List.drop_append, hl1, List.drop_of_length_le (by omega)]
      simp
    rw [x1, x2, x3, List.take_append_drop]

/-- those of the first k tours whose place is not in out -/
def woK (ts : List (List Int)) (out : List Nat) : Nat → List (List Int)
  | 0 => []
  | k + 1 => woK ts out k ++ (if k ∈ out then [] else ts[k]?.toList)
theorem wo_one {ts : List (List Int)} {i : Nat} {t : List Int} (hi : ts[i]? = some t) (k : Nat) : ((if i < k then [t] else []) ++ woK ts [i] k).Perm (ts.take k) := by
  induction k with
  | zero => simp [woK]
  | succ k ih =>
    rw [List.take_add_one]
    simp only [woK, List.mem_singleton]
    by_cases e : k = i
    · subst e
      rw [if_neg (by omega), List.nil_append] at ih
      rw [if_pos (by omega), if_pos rfl, List.append_nil, hi]
      exact (List.perm_append_comm (l₁ := [t])).trans (ih.append_right [t])
    · rw [if_neg e, ← List.append_assoc]
      have e2 : (if i < k + 1 then [t] else []) = (if i < k then [t] else []) := by
        by_cases h : i < k
        · rw [if_pos h, if_pos (by omega)]
        · rw [if_neg h, if_neg (by omega)]
      rw [e2]
      exact ih.append_right _
theorem wo_two {ts : List (List Int)} {i j : Nat} {s t : List Int} (hi : ts[i]? = some s) (hj : ts[j]? = some t) (hij : i ≠ j) (k : Nat) : ((if i < k then [s] else []) ++ (if j < k then [t] else []) ++ woK ts [i, j] k).Perm (ts.take k) := by
  induction k with
  | zero => simp [woK]
  | succ k ih =>
    rw [List.take_add_one]
    simp only [woK, List.mem_cons, List.not_mem_nil, or_false]
    by_cases e : k = i
    · subst e
      rw [if_neg (by omega), List.nil_append] at ih
      have e2 : (if j < k + 1 then [t] else []) = (if j < k then [t] else []) := by
        by_cases h : j < k
        · rw [if_pos h, if_pos (by omega)]
        · rw [if_neg h, if_neg (by omega)]
      rw [if_pos (show k < k + 1 by omega), e2, if_pos (show k = k ∨ k = j from .inl rfl), List.append_nil, hi, List.append_assoc]
      exact (List.perm_append_comm (l₁ := [s])).trans (ih.append_right [s])
    · have e3 : (if i < k + 1 then [s] else []) = (if i < k then [s] else []) := by
        by_cases h : i < k
        · rw [if_pos h, if_pos (by omega)]
        · rw [if_neg h, if_neg (by omega)]
      by_cases f : k = j
      · subst f
        rw [if_neg (show ¬ k < k by omega), List.append_nil] at ih
        rw [e3, if_pos (show k < k + 1 by omega), if_pos (show k = i ∨ k = k from .inr rfl), List.append_nil, hj]
        have p1 : ((if i < k then [s] else []) ++ [t] ++ woK ts [i, k] k).Perm ((if i < k then [s] else []) ++ woK ts [i, k] k ++ [t]) := by
          rw [List.append_assoc, List.append_assoc]
          exact List.perm_append_comm.append_left _
        exact p1.trans (ih.append_right [t])
      · have e4 : (if j < k + 1 then [t] else []) = (if j < k then [t] else []) := by
          by_cases h : j < k
          · rw [if_pos h, if_pos (by omega)]
          · rw [if_neg h, if_neg (by omega)]
        rw [e3, e4, if_neg (show ¬ (k = i ∨ k = j) by omega), ← List.append_assoc]
        exact ih.append_right _
theorem wo_one_all {ts : List (List Int)} {i : Nat} {t : List Int} (hi : ts[i]? = some t) : (t :: woK ts [i] ts.length).Perm ts := by
  have h := wo_one hi ts.length
  rw [if_pos (List.getElem?_eq_some_iff.1 hi).1, List.take_length] at h
  exact h
theorem wo_two_all {ts : List (List Int)} {i j : Nat} {s t : List Int} (hi : ts[i]? = some s) (hj : ts[j]? = some t) (hij : i ≠ j) : (s :: t :: woK ts [i, j] ts.length).Perm ts := by
  have h := wo_two hi hj hij ts.length
  rw [if_pos (List.getElem?_eq_some_iff.1 hi).1, if_pos (List.getElem?_eq_some_iff.1 hj).1, List.take_length] at h
  exact h
/-- two tours in the place of which their join stands -/
theorem FQ.join {N : Int} {a b J : List Int} {W : List (List Int)} (h : FQ N (a :: b :: W)) (hJ : tB J = true) (hm : ∀ x, x ∈ J ↔ x ∈ a ∨ x ∈ b) : FQ N (W ++ [J]) := by
  obtain ⟨h1, h2, h3⟩ := h
  rw [List.pairwise_cons, List.pairwise_cons] at h2
  obtain ⟨p1, p2, p3⟩ := h2
  have hab : Apart a b := p1 b (by simp)
  refine FQ.perm (a := J :: W) ⟨fun t ht => ?_, ?_, ?_⟩ (List.perm_append_comm (l₁ := [J]))
  · rcases List.mem_cons.1 ht with rfl | ht
    · refine ⟨hJ, fun x hx => ?_⟩
      rcases (hm x).1 hx with hx | hx
      · exact (h1 a (by simp)).2 x hx
      · exact (h1 b (by simp)).2 x hx
    · exact h1 t (by simp [ht])
  · rw [List.pairwise_cons]
    refine ⟨fun t ht x hx => ?_, p3⟩
    rcases (hm x).1 hx with hx | hx
    · exact p1 t (by simp [ht]) x hx
    · exact p2 t ht x hx
  · rw [← h3]
    have := cnt_two hab hm
    simp only [cnt, List.map_cons, List.sum_cons]
    omega
/-- a tour in the place of which its two parts stand -/
theorem FQ.split {N : Int} {t a b : List Int} {p c : Int} {W : List (List Int)} (h : FQ N (t :: W)) (hs : SpIs t a b p c) : FQ N (W ++ [a, b]) := by
  obtain ⟨h1, h2, h3⟩ := h
  rw [List.pairwise_cons] at h2
  obtain ⟨p1, p2⟩ := h2
  have hab : Apart a b := Apart.symm fun x hx => hs.apart x hx
  refine FQ.perm (a := a :: b :: W) ⟨fun s hs' => ?_, ?_, ?_⟩ (List.perm_append_comm (l₁ := [a, b]))
  · rcases List.mem_cons.1 hs' with rfl | hs'
    · exact ⟨hs.oka, fun x hx => (h1 t (by simp)).2 x ((hs.mem x).2 (.inl hx))⟩
    · rcases List.mem_cons.1 hs' with rfl | hs'
      · exact ⟨hs.okb, fun x hx => (h1 t (by simp)).2 x ((hs.mem x).2 (.inr hx))⟩
      · exact h1 s (by simp [hs'])
  · rw [List.pairwise_cons, List.pairwise_cons]
    refine ⟨fun s hs' x hx => ?_, fun s hs' x hx => p1 s hs' x ((hs.mem x).2 (.inr hx)), p2⟩
    rcases List.mem_cons.1 hs' with rfl | hs'
    · exact hab x hx
    · exact p1 s hs' x ((hs.mem x).2 (.inl hx))
  · rw [← h3]
    have := cnt_two hab hs.mem
    simp only [cnt, List.map_cons, List.sum_cons]
    omega
end Go.Proofs.YtgjnlhdgekfieaaGreat
namespace Go.Proofs.YtgjnlhdgekfieaaGreat
open Go.RowKit

def ftK (es : List EdgeV) (n : Nat) : Nat → Option (List (List Int))
  | 0 => some []
  | k + 1 => match ftK es n k with
    | none => none
    | some ts => if (k : Int) ∈ ts.flatten then some ts else match wk es n n (k : Int) (-1) [] with
      | none => none
      | some p => some (ts ++ [p.1])
theorem ftK_there {es : List EdgeV} {n k : Nat} {ts : List (List Int)} (h : ftK es n k = some ts) (hk : (k : Int) ∈ ts.flatten) : ftK es n (k + 1) = some ts := by simp only [ftK, h]; rw [if_pos hk]
theorem ftK_new {es : List EdgeV} {n k : Nat} {ts : List (List Int)} {t sn : List Int} (h : ftK es n k = some ts) (hk : (k : Int) ∉ ts.flatten) (hw : wk es n n (k : Int) (-1) [] = some (t, sn)) : ftK es n (k + 1) = some (ts ++ [t]) := by simp only [ftK, h]; rw [if_neg hk, hw]
theorem ftK_ring {es : List EdgeV} {n k : Nat} {ts : List (List Int)} (h : ftK es n k = some ts) (hk : (k : Int) ∉ ts.flatten) (hw : wk es n n (k : Int) (-1) [] = none) : ftK es n (k + 1) = none := by simp only [ftK, h]; rw [if_neg hk, hw]
theorem ftK_none {es : List EdgeV} {n k : Nat} (h : ftK es n k = none) (m : Nat) (hm : k ≤ m) : ftK es n m = none := by
  induction m with
  | zero => obtain rfl : k = 0 := by omega
            exact h
  | succ m ih =>
    by_cases e : k = m + 1
    · subst e; exact h
    · simp only [ftK, ih (by omega)]
theorem ftK_back {es : List EdgeV} {n k : Nat} {ts : List (List Int)} (h : ftK es n (k + 1) = some ts) : ∃ ts', ftK es n k = some ts' := by
  cases h2 : ftK es n k with
  | none => rw [ftK_none h2 (k + 1) (by omega)] at h; cases h
  | some ts' => exact ⟨ts', rfl⟩

structure FtIs (es : List EdgeV) (n k : Nat) (ts : List (List Int)) : Prop where
  tour : ∀ t ∈ ts, ∃ r : Nat, r < k ∧ (∃ sn, wk es n n (r : Int) (-1) [] = some (t, sn)) ∧ t.head? = some (r : Int) ∧ (∀ x ∈ t, (r : Int) ≤ x)
  cov : ∀ v : Nat, v < k → (v : Int) ∈ ts.flatten
  asc : ts.Pairwise fun s t => s.headD 0 < t.headD 0
  apart : ts.Pairwise Apart
theorem ft_any {es : List EdgeV} {n : Nat} (hE : ∀ e ∈ es, 0 ≤ e.1 ∧ e.1 < e.2 ∧ e.2 < (n : Int)) (hn : n ≤ 12) (k : Nat) (hk : k ≤ n) : ∀ {ts : List (List Int)}, ftK es n k = some ts → FtIs es n k ts := by
  induction k with
  | zero =>
    intro ts h
    simp only [ftK, Option.some.injEq] at h
    subst h
    exact ⟨by simp, by omega, List.Pairwise.nil, List.Pairwise.nil⟩
  | succ k ih =>
    intro ts h
    obtain ⟨ts', h'⟩ := ftK_back h
    have hi := ih (by omega) h'
    by_cases hm : (k : Int) ∈ ts'.flatten
    · rw [ftK_there h' hm] at h
      obtain rfl := Option.some.inj h
      refine ⟨fun t ht => ?_, fun v hv => ?_, hi.asc, hi.apart⟩
      · obtain ⟨r, h1, h2⟩ := hi.tour t ht
        exact ⟨r, by omega, h2⟩
      · by_cases e : v = k
        · subst e; exact hm
        · exact hi.cov v (by omega)
    · cases hw : wk es n n (k : Int) (-1) [] with
      | none => rw [ftK_ring h' hm hw] at h; cases h
      | some p =>
        obtain ⟨t, sn⟩ := p
        rw [ftK_new h' hm hw] at h
        obtain rfl := Option.some.inj h
        obtain ⟨hB, hh, hr, hcl, _⟩ := wk_tree hE hn (by omega) (by omega) hw
        have hkt : (k : Int) ∈ t := by
          cases t with
          | nil => simp at hh
          | cons a t => simp at hh; simp [hh]
        have hap : ∀ s ∈ ts', Apart s t := fun s hs x hx hxt => by
          obtain ⟨r, h1, ⟨sn2, h2⟩, h3, h4⟩ := hi.tour s hs
          obtain ⟨hB2, hh2, hr2, hcl2, _⟩ := wk_tree hE hn (by omega) (by omega) h2
          have h5 : (x ∈ s ↔ (k : Int) ∈ s) := by
            have hst := fun e (he : e ∈ tE t) => (show e.1 ∈ s ↔ e.2 ∈ s from by
              exact hcl2 e (wk_along hE n (k : Int) (-1) [] t sn hw e he))
            exact tE_all hB hst hxt hkt
          exact hm (List.mem_flatten.2 ⟨s, hs, h5.1 hx⟩)
        have hlow : ∀ x ∈ t, (k : Int) ≤ x := fun x hx => Classical.byContradiction fun hlt => by
          have hx0 := hr x hx
          have := hi.cov x.toNat (by omega)
          rw [Int.toNat_of_nonneg hx0.1] at this
          obtain ⟨s, hs, hxs⟩ := List.mem_flatten.1 this
          exact hap s hs x hxs hx
        refine ⟨fun s hs => ?_, fun v hv => ?_, ?_, ?_⟩
        · rcases List.mem_append.1 hs with hs | hs
          · obtain ⟨r, h1, h2⟩ := hi.tour s hs
            exact ⟨r, by omega, h2⟩
          · simp at hs
            subst hs
            exact ⟨k, by omega, ⟨sn, hw⟩, hh, hlow⟩
        · by_cases e : v = k
          · subst e; simp [hkt]
          · have := hi.cov v (by omega)
            simp [List.mem_flatten.1 this]
        · rw [List.pairwise_append]
          refine ⟨hi.asc, by simp, fun s hs u hu => ?_⟩
          simp at hu
          subst hu
          obtain ⟨r, h1, _, h3, _⟩ := hi.tour s hs
          cases s with
          | nil => simp at h3
          | cons a s => cases u with
            | nil => simp at hh
            | cons b u => simp at h3 hh ⊢; omega
        · rw [List.pairwise_append]
          refine ⟨hi.apart, by simp, fun s hs u hu => ?_⟩
          simp at hu
          subst hu
          exact hap s hs
theorem ft_some {es : List EdgeV} {n : Nat} (hE : ∀ e ∈ es, 0 ≤ e.1 ∧ e.1 < e.2 ∧ e.2 < (n : Int)) (hBr : Bridge es) (k : Nat) (hk : k ≤ n) : ∃ ts, ftK es n k = some ts := by
  induction k with
  | zero => exact ⟨[], rfl⟩
  | succ k ih =>
    obtain ⟨ts, h⟩ := ih (by omega)
    by_cases hm : (k : Int) ∈ ts.flatten
    · exact ⟨ts, ftK_there h hm⟩
    · obtain ⟨t, sn, h1, _⟩ := wk_ok hE hBr n (k : Int) (-1) [] (by omega) (by omega) (by simp) (by simp) (by simp) ⟨fun _ => True, trivial, by simp, by simp⟩
      exact ⟨_, ftK_new h hm h1⟩
/-- the tours of trees: what they tell -/
structure FtAll (es : List EdgeV) (n : Nat) (ts : List (List Int)) : Prop where
  fp : FP (n : Int) ts
  mn : ∀ t ∈ ts, t.head? = some (mnV t)
  conn : ∀ t ∈ ts, ∀ x ∈ t, ∀ y : Int, y ∈ t ↔ Conn es x y
  cov : ∀ v : Int, 0 ≤ v → v < (n : Int) → ∃ t ∈ ts, v ∈ t
  edge : ∀ e ∈ es, ∀ t ∈ ts, e.1 ∈ t → e ∈ tE t
theorem mn_leF {t : List Int} (hB : tB t = true) {x : Int} (hx : x ∈ t) : mnV t ≤ x := by
  have h := vs_pos hB
  have h0 : (vsL t)[0]? = some ((vsL t)[0]'h) := List.getElem?_eq_getElem h
  rw [mn_first h0]
  obtain ⟨p, hp, e⟩ := List.getElem_of_mem ((vs_mem_of hB).2 hx)
  by_cases e0 : p = 0
  · subst e0; omega
  · have := List.pairwise_iff_getElem.1 (vsK_asc t 12) 0 p h hp (by omega)
    rw [show (vsK t 12)[p]'hp = x from e] at this
    exact Int.le_of_lt this
theorem cnt_all {n : Nat} {ts : List (List Int)} (hn : n ≤ 12) (hap : ts.Pairwise Apart) (hr : ∀ t ∈ ts, ∀ x ∈ t, 0 ≤ x ∧ x < (n : Int)) (hc : ∀ v : Nat, v < n → (v : Int) ∈ ts.flatten) : cnt ts = n := by
  have e : cnt ts = (ts.map vsL).flatten.length := by rw [List.length_flatten, List.map_map]; rfl
  have hvs : ∀ t ∈ ts, ∀ x, x ∈ vsL t ↔ x ∈ t := fun t ht x => by
    rw [vsL_mem]
    exact ⟨fun h => h.2, fun h => ⟨by have := hr t ht x h; simp [vB]; omega, h⟩⟩
  have hnd : (ts.map vsL).flatten.Nodup := by
    unfold List.Nodup
    rw [List.pairwise_flatten]
    refine ⟨fun l hl => ?_, ?_⟩
    · obtain ⟨t, ht, rfl⟩ := List.mem_map.1 hl
      exact vs_nodup t
    · rw [List.pairwise_map]
      refine hap.imp_of_mem fun hs ht h x hx y hy e => ?_
      subst e
      exact h x ((hvs _ hs x).1 hx) ((hvs _ ht x).1 hy)
  have hm : ∀ x, x ∈ (ts.map vsL).flatten ↔ x ∈ (List.range n).map fun j : Nat => (j : Int) := fun x => by
    rw [List.mem_flatten, List.mem_map]
    constructor
    · rintro ⟨l, hl, hx⟩
      obtain ⟨t, ht, rfl⟩ := List.mem_map.1 hl
      have := hr t ht x ((hvs t ht x).1 hx)
      exact ⟨x.toNat, List.mem_range.2 (by omega), by omega⟩
    · rintro ⟨j, hj, rfl⟩
      obtain ⟨t, ht, hx⟩ := List.mem_flatten.1 (hc j (List.mem_range.1 hj))
      exact ⟨vsL t, List.mem_map.2 ⟨t, ht, rfl⟩, (hvs t ht _).2 hx⟩
  have hrn : ((List.range n).map fun j : Nat => (j : Int)).Nodup := by
    unfold List.Nodup
    rw [List.pairwise_map]
    exact (List.nodup_range (n := n)).imp fun h e => h (by omega)
  have h1 := nodup_sub hnd fun x hx => (hm x).1 hx
  have h2 := nodup_sub hrn fun x hx => (hm x).2 hx
  rw [e]
  simp at h1 h2
  simp
  omega
theorem ft_all {es : List EdgeV} {n : Nat} (hE : ∀ e ∈ es, 0 ≤ e.1 ∧ e.1 < e.2 ∧ e.2 < (n : Int)) (hn1 : 1 ≤ n) (hn : n ≤ 12) {ts : List (List Int)} (h : ftK es n n = some ts) : FtAll es n ts := by
  have hi := ft_any hE hn n (Nat.le_refl _) h
  have htr : ∀ t ∈ ts, tB t = true ∧ t.head? = some (mnV t) ∧ (∀ x ∈ t, 0 ≤ x ∧ x < (n : Int)) ∧ (∀ x ∈ t, ∀ y : Int, y ∈ t ↔ Conn es x y) ∧ (∀ e ∈ es, e.1 ∈ t → e ∈ tE t) := fun t ht => by
    obtain ⟨r, h1, ⟨sn, h2⟩, h3, h4⟩ := hi.tour t ht
    obtain ⟨hB, hh, hr, hcl, hal⟩ := wk_tree hE hn (by omega) (by omega) h2
    have hrt : (r : Int) ∈ t := by
      cases t with
      | nil => simp at hh
      | cons a t => simp at hh; simp [hh]
    have hmn : mnV t = (r : Int) := by
      have a := mn_leF hB hrt
      have b := h4 _ (mn_mem hB)
      omega
    refine ⟨hB, by rw [hmn]; exact hh, hr, fun x hx y => ⟨fun hy => ?_, fun hc => hc (fun z => z ∈ t) hcl hx⟩, hal⟩
    exact fun S hS hSx => (tE_all hB (S := S) (fun e he => hS e (wk_along hE n (r : Int) (-1) [] t sn h2 e he)) hx hy).1 hSx
  have hcnt := cnt_all hn hi.apart (fun t ht => (htr t ht).2.2.1) hi.cov
  refine ⟨(FP_iff _ _).2 ⟨by omega, by omega, ⟨fun t ht => ⟨(htr t ht).1, fun x hx => ((htr t ht).2.2.1 x hx).2⟩, hi.apart, by omega⟩, ?_⟩, fun t ht => (htr t ht).2.1, fun t ht => (htr t ht).2.2.2.1, fun v h0 h1 => ?_, fun e he t ht => (htr t ht).2.2.2.2 e he⟩
  · refine hi.asc.imp_of_mem fun {s t} hs ht hlt => ?_
    have e1 := (htr s hs).2.1
    have e2 := (htr t ht).2.1
    cases s with
    | nil => simp at e1
    | cons a s => cases t with
      | nil => simp at e2
      | cons b t => simp at e1 e2 hlt; omega
  · have := hi.cov v.toNat (by omega)
    rw [Int.toNat_of_nonneg h0] at this
    obtain ⟨t, ht, hv⟩ := List.mem_flatten.1 this
    exact ⟨t, ht, hv⟩
/-- no walk met a ring: there is none -/
theorem ft_bridge {es : List EdgeV} {n : Nat} (hE : ∀ e ∈ es, 0 ≤ e.1 ∧ e.1 < e.2 ∧ e.2 < (n : Int)) (hn1 : 1 ≤ n) (hn : n ≤ 12) {ts : List (List Int)} (h : ftK es n n = some ts) : Bridge es := fun e he => by
  have ha := ft_all hE hn1 hn h
  have hee := hE e he
  obtain ⟨t, ht, h1⟩ := ha.cov e.1 (by omega) (by omega)
  have hB : tB t = true := ((FP_iff _ _).1 ha.fp).2.2.1.1 t ht |>.1
  obtain ⟨S, a, b, c⟩ := tE_bridge hB e (ha.edge e he t ht h1)
  have h2 : e.2 ∈ t := (ha.conn t ht e.1 h1 e.2).2 (Conn.edge he)
  refine ⟨fun x => S x ∧ x ∈ t, ⟨a, h2⟩, fun h => b h.1, fun d hd hne => ?_⟩
  by_cases hdt : d.1 ∈ t
  · have hd2 : d.2 ∈ t := (ha.conn t ht d.1 hdt d.2).2 (Conn.edge hd)
    have := c d (ha.edge d hd t ht hdt) hne
    exact ⟨fun h => ⟨this.1 h.1, hd2⟩, fun h => ⟨this.2 h.1, hdt⟩⟩
  · have hd2 : d.2 ∉ t := fun h3 => hdt ((ha.conn t ht d.2 h3 d.1).2 (Conn.edge hd).symm)
    exact ⟨fun h => absurd h.2 hdt, fun h => absurd h.2 hd2⟩
theorem ft_iff {es : List EdgeV} {n : Nat} (hE : ∀ e ∈ es, 0 ≤ e.1 ∧ e.1 < e.2 ∧ e.2 < (n : Int)) (hn1 : 1 ≤ n) (hn : n ≤ 12) : (∃ ts, ftK es n n = some ts) ↔ Bridge es :=
  ⟨fun ⟨_, h⟩ => ft_bridge hE hn1 hn h, fun h => ft_some hE h n (Nat.le_refl _)⟩
end Go.Proofs.YtgjnlhdgekfieaaGreat
namespace Go.Proofs.YtgjnlhdgekfieaaGreat
open Go.RowKit

/-- the edges of all tours -/
def allE (ts : List (List Int)) : List EdgeV := ts.flatMap tE
theorem allE_mem (ts : List (List Int)) (e : EdgeV) : e ∈ allE ts ↔ ∃ t ∈ ts, e ∈ tE t := by simp [allE]
theorem allE_nodup {ts : List (List Int)} (h : ts.Pairwise Apart) : (allE ts).Nodup := by
  induction ts with
  | nil => simp [allE]
  | cons t r ih =>
    rw [List.pairwise_cons] at h
    show (tE t ++ allE r).Nodup
    rw [List.nodup_append]
    refine ⟨eK_nodup t _, ih h.2, fun e he f hf hef => ?_⟩
    subst hef
    obtain ⟨s, hs, hes⟩ := (allE_mem r e).1 hf
    exact h.1 s hs e.1 (tE_in e he).1 (tE_in e hes).1
theorem allE_len {ts : List (List Int)} (h : ∀ t ∈ ts, tB t = true) : 2 * (allE ts).length + ts.length = (ts.map List.length).sum := by
  induction ts with
  | nil => simp [allE]
  | cons t r ih =>
    have h1 := tE_count (h t (by simp))
    have h2 := ih fun s hs => h s (by simp [hs])
    have h3 : (allE (t :: r)).length = (tE t).length + (allE r).length := by
      show (tE t ++ allE r).length = _
      rw [List.length_append]
    simp only [List.map_cons, List.sum_cons, List.length_cons]
    omega
/-- two lists of the same edges, each told once, are of one length -/
theorem len_same {a b : List EdgeV} (ha : a.Nodup) (hb : b.Nodup) (h : ∀ e, e ∈ a ↔ e ∈ b) : a.length = b.length := by
  have h1 := nd_sub ha fun e he => (h e).1 he
  have h2 := nd_sub hb fun e he => (h e).2 he
  omega
/-- one edge more where two tours are joined -/
theorem allE_join {a b J : List Int} {u v : Int} {W : List (List Int)} (ha : tB a = true) (hb : tB b = true) (hW : ∀ t ∈ W, tB t = true) (hJ : JoIs a b u v J) : (allE (W ++ [J])).length = (allE (a :: b :: W)).length + 1 := by
  have h1 := allE_len (ts := a :: b :: W) fun t ht => by
    simp only [List.mem_cons] at ht
    rcases ht with rfl | rfl | ht
    · exact ha
    · exact hb
    · exact hW t ht
  have h2 := allE_len (ts := W ++ [J]) fun t ht => by
    simp only [List.mem_append, List.mem_singleton] at ht
    rcases ht with ht | rfl
    · exact hW t ht
    · exact hJ.ok
  have h3 := hJ.len
  simp only [List.map_cons, List.sum_cons, List.length_cons, List.map_append, List.sum_append, List.length_append, List.map_nil, List.sum_nil, List.length_nil] at h1 h2
  omega
theorem jo_edge {a b J : List Int} {u v : Int} (hJ : JoIs a b u v J) (hl : u < v) : (u, v) ∈ tE J := by
  obtain ⟨k, h1, h2⟩ := hJ.step
  exact (tE_mem J (u, v)).2 ⟨k, h1, h2, hl⟩

/-- a vertex is in one tour alone -/
theorem FQ.place {N : Int} {ts : List (List Int)} (h : FQ N ts) {i j : Nat} {s t : List Int} {x : Int} (hi : ts[i]? = some s) (hj : ts[j]? = some t) (hs : x ∈ s) (ht : x ∈ t) : i = j := by
  obtain ⟨i0, i1⟩ := List.getElem?_eq_some_iff.1 hi
  obtain ⟨j0, j1⟩ := List.getElem?_eq_some_iff.1 hj
  rcases Nat.lt_trichotomy i j with hlt | hlt | hlt
  · have := List.pairwise_iff_getElem.1 h.2.1 i j i0 j0 hlt
    rw [i1, j1] at this
    exact absurd ht (this x hs)
  · exact hlt
  · have := List.pairwise_iff_getElem.1 h.2.1 j i j0 i0 hlt
    rw [i1, j1] at this
    exact absurd hs (this x ht)
theorem FQ.one {N : Int} {ts : List (List Int)} (h : FQ N ts) {s t : List Int} {x : Int} (hs : s ∈ ts) (ht : t ∈ ts) (h1 : x ∈ s) (h2 : x ∈ t) : s = t := by
  obtain ⟨i, hi⟩ := List.mem_iff_getElem?.1 hs
  obtain ⟨j, hj⟩ := List.mem_iff_getElem?.1 ht
  have := h.place hi hj h1 h2
  subst this
  rw [hi] at hj
  exact Option.some.inj hj
theorem vs_alike {a b : List Int} (h : ∀ x, x ∈ a ↔ x ∈ b) : vsL a = vsL b := asc_ext (vsK_asc a 12) (vsK_asc b 12) fun x => by
  show x ∈ vsL a ↔ x ∈ vsL b
  rw [vsL_mem, vsL_mem, h]
theorem mn_alike {a b : List Int} (h : ∀ x, x ∈ a ↔ x ∈ b) : mnV a = mnV b := by unfold mnV; rw [vs_alike h]
/-- every vertex below N is in a tour -/
theorem FQ.cover {N : Nat} {ts : List (List Int)} (h : FQ (N : Int) ts) {x : Int} (h0 : 0 ≤ x) (h1 : x < (N : Int)) : ∃ t ∈ ts, x ∈ t := by
  have hall : ∀ (l : List (List Int)), (l.flatMap vsL).length = cnt l := fun l => by
    induction l with
    | nil => simp [cnt]
    | cons t r ih =>
      simp only [List.flatMap_cons, List.length_append, ih]
      simp [cnt]
  have hnd : ∀ (l : List (List Int)), l.Pairwise Apart → (l.flatMap vsL).Nodup := fun l hl => by
    induction l with
    | nil => simp
    | cons t r ih =>
      rw [List.pairwise_cons] at hl
      rw [List.flatMap_cons, List.nodup_append]
      refine ⟨vs_nodup t, ih hl.2, fun y hy z hz e => ?_⟩
      subst e
      obtain ⟨s, hs, hys⟩ := List.mem_flatMap.1 hz
      exact hl.1 s hs y ((vsL_mem t y).1 hy).2 ((vsL_mem s y).1 hys).2
  by_cases hx : x ∈ ts.flatMap vsL
  · obtain ⟨t, ht, hxt⟩ := List.mem_flatMap.1 hx
    exact ⟨t, ht, ((vsL_mem t x).1 hxt).2⟩
  · exfalso
    have h2 : (x :: ts.flatMap vsL).Nodup := List.nodup_cons.2 ⟨hx, hnd ts h.2.1⟩
    have h3 := nd_sub (b := (List.range N).map fun j : Nat => (j : Int)) h2 fun y hy => by
      have hy2 : 0 ≤ y ∧ y < (N : Int) := by
        rcases List.mem_cons.1 hy with rfl | hy
        · exact ⟨h0, h1⟩
        · obtain ⟨t, ht, hyt⟩ := List.mem_flatMap.1 hy
          obtain ⟨v1, v2⟩ := (vsL_mem t y).1 hyt
          have v1 := of_decide_eq_true (show decide (0 ≤ y ∧ y < 12) = true from v1)
          exact ⟨v1.1, (h.1 t ht).2 y v2⟩
      exact List.mem_map.2 ⟨y.toNat, List.mem_range.2 (by omega), by omega⟩
    have h4 := h.2.2
    rw [List.length_cons, hall, List.length_map, List.length_range] at h3
    omega
/-- the least vertex of the tree of x -/
def Prt (ts : List (List Int)) (x m : Int) : Prop := ∃ t ∈ ts, x ∈ t ∧ m = mnV t
theorem Prt.uniq {N : Int} {ts : List (List Int)} (h : FQ N ts) {x m m' : Int} (h1 : Prt ts x m) (h2 : Prt ts x m') : m = m' := by
  obtain ⟨s, a1, a2, rfl⟩ := h1
  obtain ⟨t, b1, b2, rfl⟩ := h2
  rw [h.one a1 b1 a2 b2]
theorem Prt.like {a b : List (List Int)} (h : ∀ t ∈ a, ∃ s ∈ b, ∀ x, x ∈ t ↔ x ∈ s) {x m : Int} (hp : Prt a x m) : Prt b x m := by
  obtain ⟨t, h1, h2, rfl⟩ := hp
  obtain ⟨s, h3, h4⟩ := h t h1
  exact ⟨s, h3, (h4 x).1 h2, mn_alike h4⟩
end Go.Proofs.YtgjnlhdgekfieaaGreat
namespace Go.Proofs.YtgjnlhdgekfieaaGreat
open Go.RowKit

theorem FP.q {N : Int} {ts : List (List Int)} (h : FP N ts) : FQ N ts := ((FP_iff N ts).1 h).2.2.1
theorem srt_perm {N : Nat} {l : List (List Int)} (h : FQ (N : Int) l) : (srtK l N).Perm l := srtK_perm fun t ht => mn_range (h.1 t ht).1 (h.1 t ht).2
/-- two trees linked by an edge -/
structure LkIs (N : Nat) (ts : List (List Int)) (i j : Nat) (a b : List Int) (u v : Int) (J : List Int) (g : List (List Int)) : Prop where
  jo : JoIs a b u v J
  eq : g = srtK (woK ts [i, j] ts.length ++ [J]) N
  ok : FP (N : Int) g
  len : g.length + 1 = ts.length
  perm : g.Perm (woK ts [i, j] ts.length ++ [J])
  old : ts.Perm (a :: b :: woK ts [i, j] ts.length)
  there : ∃ k : Nat, g[k]? = some J
theorem lk_is {N : Nat} {ts : List (List Int)} (h : FP (N : Int) ts) {i j : Nat} {a b : List Int} {u v : Int} (hi : ts[i]? = some a) (hj : ts[j]? = some b) (hij : i ≠ j) (hu : u ∈ a) (hv : v ∈ b) :
    ∃ J, joO a u b v = some J ∧ LkIs N ts i j a b u v J (srtK (woK ts [i, j] ts.length ++ [J]) N) := by
  have hq := h.q
  have hp := wo_two_all hi hj hij
  have hq2 := hq.perm hp.symm
  have ha := hq.1 a (List.mem_of_getElem? hi)
  have hb := hq.1 b (List.mem_of_getElem? hj)
  have hap : Apart a b := (List.pairwise_cons.1 hq2.2.1).1 b (by simp)
  obtain ⟨J, e, hJ⟩ := jo_two ha.1 hb.1 hap hu hv
  have hq3 := hq2.join hJ.ok hJ.mem
  have hps := srt_perm hq3
  refine ⟨J, e, hJ, rfl, FP_srt (by have := h.1; omega) (by have := h.2.1; omega) hq3, ?_, hps, hp.symm, ?_⟩
  · have h1 := hps.length_eq
    have h2 := hp.length_eq
    simp only [List.length_cons, List.length_append, List.length_nil] at h1 h2
    omega
  · exact List.mem_iff_getElem?.1 (hps.mem_iff.2 (by simp))
/-- and cut again there -/
theorem lk_cut {N : Nat} {ts : List (List Int)} {i j : Nat} {a b : List Int} {u v : Int} {J : List Int} {g : List (List Int)} (h : FP (N : Int) ts) (L : LkIs N ts i j a b u v J g) {k : Nat} (hk : g[k]? = some J) :
    ∃ r, spO J u v = (a, r, true) ∧ FP (N : Int) (srtK (woK g [k] g.length ++ [a, r]) N) ∧ ∀ x m, Prt (srtK (woK g [k] g.length ++ [a, r]) N) x m ↔ Prt ts x m := by
  obtain ⟨r, HR, hs⟩ := L.jo.back
  have hq := h.q
  have hqg := L.ok.q
  have hp1 := wo_one_all hk
  have hW : (woK g [k] g.length).Perm (woK ts [i, j] ts.length) := by
    have h2 : (J :: woK g [k] g.length).Perm (J :: woK ts [i, j] ts.length) := (hp1.trans L.perm).trans (List.perm_append_comm (l₂ := [J]))
    exact h2.cons_inv
  have hqo := hq.perm L.old
  have hap : Apart a b := (List.pairwise_cons.1 hqo.2.1).1 b (by simp)
  have hlike : ∀ x, x ∈ r ↔ x ∈ b := HR.mem
  have hq2 : FQ (N : Int) (woK g [k] g.length ++ [a, r]) := by
    obtain ⟨h1, h2, h3⟩ := hqo
    have hq3 : FQ (N : Int) (a :: r :: woK ts [i, j] ts.length) := by
      rw [List.pairwise_cons, List.pairwise_cons] at h2
      refine ⟨fun t ht => ?_, ?_, ?_⟩
      · simp only [List.mem_cons] at ht
        rcases ht with rfl | rfl | ht
        · exact h1 t (by simp)
        · exact ⟨HR.ok, fun x hx => (h1 b (by simp)).2 x ((hlike x).1 hx)⟩
        · exact h1 t (by simp [ht])
      · rw [List.pairwise_cons, List.pairwise_cons]
        refine ⟨fun t ht x hx hxt => ?_, fun t ht x hx => h2.2.1 t ht x ((hlike x).1 hx), h2.2.2⟩
        rcases List.mem_cons.1 ht with rfl | ht
        · exact hap x hx ((hlike x).1 hxt)
        · exact h2.1 t (by simp [ht]) x hx hxt
      · rw [← h3]
        simp only [cnt, List.map_cons, List.sum_cons]
        rw [vs_alike hlike]
    exact hq3.perm ((hW.symm.append_left [a, r]).trans List.perm_append_comm)
  refine ⟨r, hs, FP_srt (by have := h.1; omega) (by have := h.2.1; omega) hq2, fun x m => ?_⟩
  have hps := srt_perm hq2
  constructor
  · refine Prt.like fun t ht => ?_
    have ht2 := hps.mem_iff.1 ht
    simp only [List.mem_append, List.mem_cons, List.not_mem_nil, or_false] at ht2
    rcases ht2 with ht2 | rfl | rfl
    · exact ⟨t, L.old.mem_iff.2 (by simp [hW.mem_iff.1 ht2]), fun _ => Iff.rfl⟩
    · exact ⟨t, L.old.mem_iff.2 (by simp), fun _ => Iff.rfl⟩
    · exact ⟨b, L.old.mem_iff.2 (by simp), hlike⟩
  · refine Prt.like fun t ht => ?_
    have ht2 := L.old.mem_iff.1 ht
    simp only [List.mem_cons] at ht2
    rcases ht2 with rfl | rfl | ht2
    · exact ⟨t, hps.mem_iff.2 (by simp), fun _ => Iff.rfl⟩
    · exact ⟨r, hps.mem_iff.2 (by simp), fun x => (hlike x).symm⟩
    · exact ⟨t, hps.mem_iff.2 (by simp [hW.mem_iff.2 ht2]), fun _ => Iff.rfl⟩
end Go.Proofs.YtgjnlhdgekfieaaGreat
