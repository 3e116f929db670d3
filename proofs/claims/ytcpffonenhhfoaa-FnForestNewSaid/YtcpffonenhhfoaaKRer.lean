/- Lists of tours in memory; what a right forest is: pure. Right forests, put in order by their least vertices: pure. A tour from another of its vertices on is a tour; two that are joined are one; one that is split is two: pure. The program's TourOk. The program's laid: pieces of tours, one behind the other, in memory of their own. A tour from another vertex on, as a list; answers that are a list of ints and a word. -/
import Derived.Test.YtcpffonenhhfoaaKVerts
import Derived.Laws.CopyOwn
namespace Go.Proofs.Ytcpffonenhhfoaa
open Go.RowKit

/-- a list of lists of numbers stands at a -/
def Ts (w : World) (B : Nat) (a : Option Addr) (n : Nat) (ts : List (List Int)) : Prop :=
  ts.length = n ∧ (n = 0 ∨ ∃ b off, a = some ⟨b, off, none⟩ ∧ b < B ∧ ∀ (j : Nat) (t : List Int), ts[j]? = some t →
    ∃ (a' : Option Addr) (c' : Nat), w.cell? ⟨b, off + j, none⟩ = some (.slice a' t.length c') ∧ Is w B a' t.length t ∧ t.length ≤ c')
theorem Ts.below {w w' : World} {B C : Nat} {a : Option Addr} {n : Nat} {ts : List (List Int)} (h : Ts w B a n ts) (hb : Below C w w') (hB : B ≤ C) : Ts w' B a n ts := by
  refine ⟨h.1, h.2.imp id ?_⟩
  rintro ⟨b, off, ha, hbl, hc⟩
  refine ⟨b, off, ha, hbl, fun j t ht => ?_⟩
  obtain ⟨a', c', h1, h2, h3⟩ := hc j t ht
  exact ⟨a', c', by rw [hb.cell (p := ⟨b, _, none⟩) (by show b < C; omega)]; exact h1, h2.below hb hB, h3⟩
theorem Ts.mono {w : World} {B C : Nat} {a : Option Addr} {n : Nat} {ts : List (List Int)} (h : Ts w B a n ts) (hB : B ≤ C) : Ts w C a n ts := by
  refine ⟨h.1, h.2.imp id ?_⟩
  rintro ⟨b, off, ha, hbl, hc⟩
  refine ⟨b, off, ha, by omega, fun j t ht => ?_⟩
  obtain ⟨a', c', h1, h2, h3⟩ := hc j t ht
  exact ⟨a', c', h1, h2.mono hB, h3⟩
theorem Ts.up {w w' : World} {a : Option Addr} {n : Nat} {ts : List (List Int)} (h : Ts w w.heap.size a n ts) (hb : Below w.heap.size w w') : Ts w' w'.heap.size a n ts := (h.below hb (Nat.le_refl _)).mono hb.size
theorem Ts.at {w : World} {B b off n : Nat} {ts : List (List Int)} (h : Ts w B (some ⟨b, off, none⟩) n ts) {j : Nat} {t : List Int} (ht : ts[j]? = some t) :
    ∃ (a' : Option Addr) (c' : Nat), w.cell? ⟨b, off + j, none⟩ = some (.slice a' t.length c') ∧ Is w B a' t.length t ∧ t.length ≤ c' := by
  have hj := (List.getElem?_eq_some_iff.1 ht).1
  have hn := h.1
  rcases h.2 with h0 | ⟨b', off', hb, _, hc⟩
  · omega
  · simp at hb
    obtain ⟨rfl, rfl⟩ := hb
    exact hc j t ht

/-- the least vertex of a tour -/
def mnV (t : List Int) : Int := (vsL t).headD 0
/-- the tour at i is right beside those before it -/
def FAt (N : Int) (ts : List (List Int)) (i : Nat) : Prop := ∀ t, ts[i]? = some t →
  tB t = true ∧ (∀ x ∈ t, x < N) ∧ (∀ j s, j + 1 = i → ts[j]? = some s → mnV s < mnV t) ∧ ∀ k s, k < i → ts[k]? = some s → ∀ x ∈ t, x ∉ s
/-- the vertices of the first k tours, counted -/
def cntV (ts : List (List Int)) (k : Nat) : Nat := ((ts.take k).map fun t => (vsL t).length).sum
/-- N vertices and these tours are a right forest -/
def FP (N : Int) (ts : List (List Int)) : Prop := 1 ≤ N ∧ N ≤ 12 ∧ ts.length ≤ 12 ∧ (∀ i, FAt N ts i) ∧ (cntV ts ts.length : Int) = N
theorem cntV_zero (ts : List (List Int)) : cntV ts 0 = 0 := by simp [cntV]
theorem cntV_succ {ts : List (List Int)} {k : Nat} {t : List Int} (h : ts[k]? = some t) : cntV ts (k + 1) = cntV ts k + (vsL t).length := by
  unfold cntV
  rw [List.take_add_one, h]
  simp
theorem cntV_le (ts : List (List Int)) (k : Nat) : cntV ts k ≤ 12 * k := by
  induction k with
  | zero => simp [cntV]
  | succ k ih =>
    cases h : ts[k]? with
    | none =>
      have : ts.take (k + 1) = ts.take k := by rw [List.take_add_one, h]; simp
      unfold cntV at ih ⊢
      rw [this]
      omega
    | some t =>
      rw [cntV_succ h]
      have := vsL_len t
      omega
theorem vs_mem_of {t : List Int} (hB : tB t = true) {x : Int} : x ∈ vsL t ↔ x ∈ t := by
  rw [vsL_mem]
  exact ⟨fun h => h.2, fun h => ⟨((tB_iff t).1 hB).1 x h, h⟩⟩
theorem tB_pos {t : List Int} (hB : tB t = true) : 0 < t.length := by
  obtain ⟨_, x, s, h⟩ := (tB_iff t).1 hB
  cases t with
  | nil => simp [trun] at h
  | cons a t => simp
theorem vs_pos {t : List Int} (hB : tB t = true) : 0 < (vsL t).length := by
  have := tB_pos hB
  exact List.length_pos_of_mem ((vs_mem_of hB).2 (List.getElem_mem this))
theorem vs_last {t : List Int} (hB : tB t = true) {N x : Int} (hx : (vsL t)[(vsL t).length - 1]? = some x) : (∀ y ∈ t, y < N) ↔ x < N := by
  constructor
  · exact fun h => h x ((vs_mem_of hB).1 (List.mem_of_getElem? hx))
  · intro h y hy
    obtain ⟨p, hp⟩ := List.mem_iff_getElem?.1 ((vs_mem_of hB).2 hy)
    obtain ⟨p0, p1⟩ := List.getElem?_eq_some_iff.1 hp
    obtain ⟨q0, q1⟩ := List.getElem?_eq_some_iff.1 hx
    by_cases e : p = (vsL t).length - 1
    · subst e
      rw [p1] at q1
      omega
    · have := List.pairwise_iff_getElem.1 (vsK_asc t 12) p ((vsL t).length - 1) p0 q0 (by omega)
      rw [show (vsK t 12)[p]'p0 = y from p1, show (vsK t 12)[(vsL t).length - 1]'q0 = x from q1] at this
      omega
theorem mn_first {t : List Int} {x : Int} (hx : (vsL t)[0]? = some x) : mnV t = x := by
  unfold mnV
  cases h : vsL t with
  | nil => rw [h] at hx; simp at hx
  | cons a l => rw [h] at hx; simp at hx; simpa using hx
end Go.Proofs.Ytcpffonenhhfoaa
namespace Go.Proofs.Ytcpffonenhhfoaa
open Go.RowKit

/-- nothing in common -/
def Apart (s t : List Int) : Prop := ∀ x ∈ s, x ∉ t
theorem Apart.symm {s t : List Int} (h : Apart s t) : Apart t s := fun x hx hs => h x hs hx
/-- how many vertices a list of tours has -/
def cnt (ts : List (List Int)) : Nat := (ts.map fun t => (vsL t).length).sum
theorem cntV_all (ts : List (List Int)) : cntV ts ts.length = cnt ts := by unfold cntV cnt; rw [List.take_length]
theorem cnt_perm {a b : List (List Int)} (h : a.Perm b) : cnt a = cnt b := (h.map _).sum_nat
/-- tours side by side, in whatever order -/
def FQ (N : Int) (ts : List (List Int)) : Prop := (∀ t ∈ ts, tB t = true ∧ ∀ x ∈ t, x < N) ∧ ts.Pairwise Apart ∧ (cnt ts : Int) = N
theorem FQ.perm {N : Int} {a b : List (List Int)} (h : FQ N a) (p : a.Perm b) : FQ N b :=
  ⟨fun t ht => h.1 t (p.mem_iff.2 ht), p.pairwise h.2.1 fun h => h.symm, by rw [← cnt_perm p]; exact h.2.2⟩
theorem cnt_le {ts : List (List Int)} (h : ∀ t ∈ ts, tB t = true) : ts.length ≤ cnt ts := by
  induction ts with
  | nil => simp [cnt]
  | cons t r ih =>
    have h1 := vs_pos (h t (by simp))
    have h2 := ih fun s hs => h s (by simp [hs])
    simp only [cnt, List.map_cons, List.sum_cons, List.length_cons] at h2 ⊢
    omega
/-- neighbours ascend: all ascend -/
theorem asc_all {f : List Int → Int} {ts : List (List Int)} (h : ∀ i t j s, ts[i]? = some t → j + 1 = i → ts[j]? = some s → f s < f t) : ts.Pairwise fun s t => f s < f t := by
  rw [List.pairwise_iff_getElem]
  intro i j hi hj hij
  obtain ⟨d, rfl⟩ : ∃ d, j = i + d + 1 := ⟨j - i - 1, by omega⟩
  clear hij
  induction d with
  | zero => exact h (i + 1) _ i _ (List.getElem?_eq_getElem hj) rfl (List.getElem?_eq_getElem hi)
  | succ d ih =>
    have h1 := ih (by omega)
    have h2 := h (i + (d + 1) + 1) _ (i + d + 1) _ (List.getElem?_eq_getElem hj) rfl (List.getElem?_eq_getElem (by omega))
    omega
theorem FP_iff (N : Int) (ts : List (List Int)) : FP N ts ↔ 1 ≤ N ∧ N ≤ 12 ∧ FQ N ts ∧ ts.Pairwise fun s t => mnV s < mnV t := by
  constructor
  · rintro ⟨h1, h2, _, h4, h5⟩
    rw [cntV_all] at h5
    refine ⟨h1, h2, ⟨fun t ht => ?_, ?_, h5⟩, asc_all fun i t j s ht hj hs => (h4 i t ht).2.2.1 j s hj hs⟩
    · obtain ⟨i, hi⟩ := List.mem_iff_getElem?.1 ht
      exact ⟨(h4 i t hi).1, (h4 i t hi).2.1⟩
    · rw [List.pairwise_iff_getElem]
      intro i j hi hj hij
      exact Apart.symm fun x hx => (h4 j _ (List.getElem?_eq_getElem hj)).2.2.2 i _ hij (List.getElem?_eq_getElem hi) x hx
  · rintro ⟨h1, h2, ⟨h3, h4, h5⟩, h6⟩
    have h7 := cnt_le fun t ht => (h3 t ht).1
    refine ⟨h1, h2, by omega, fun i t ht => ?_, by rw [cntV_all]; exact h5⟩
    obtain ⟨hi, e⟩ := List.getElem?_eq_some_iff.1 ht
    have hm := h3 t (List.mem_of_getElem? ht)
    refine ⟨hm.1, hm.2, fun j s hj hs => ?_, fun k s hk hs x hx hxs => ?_⟩
    · obtain ⟨hj2, e2⟩ := List.getElem?_eq_some_iff.1 hs
      have := List.pairwise_iff_getElem.1 h6 j i hj2 hi (by omega)
      rw [e, e2] at this
      exact this
    · obtain ⟨hk2, e2⟩ := List.getElem?_eq_some_iff.1 hs
      have := List.pairwise_iff_getElem.1 h4 k i hk2 hi hk
      rw [e, e2] at this
      exact this x hxs hx
/-- those with least vertex below k, in order -/
def srtK (l : List (List Int)) : Nat → List (List Int)
  | 0 => []
  | k + 1 => srtK l k ++ l.filter fun t => decide (mnV t = (k : Int))
theorem srtK_mem (l : List (List Int)) (k : Nat) (t : List Int) : t ∈ srtK l k ↔ t ∈ l ∧ ∃ j, j < k ∧ mnV t = ((j : Nat) : Int) := by
  induction k with
  | zero => simp [srtK]
  | succ k ih =>
    simp only [srtK, List.mem_append, ih, List.mem_filter, decide_eq_true_eq]
    constructor
    · rintro (⟨h, j, hj, e⟩ | ⟨h, e⟩)
      · exact ⟨h, j, by omega, e⟩
      · exact ⟨h, k, by omega, e⟩
    · rintro ⟨h, j, hj, e⟩
      by_cases hk : j = k
      · subst hk
        exact .inr ⟨h, e⟩
      · exact .inl ⟨h, j, by omega, e⟩
theorem srtK_cons (t : List Int) (l : List (List Int)) (k : Nat) {j : Nat} (hj : j < k) (e : mnV t = (j : Int)) : (srtK (t :: l) k).Perm (t :: srtK l k) := by
  induction k with
  | zero => omega
  | succ k ih =>
    simp only [srtK]
    by_cases hk : j = k
    · subst hk
      have h0 : srtK (t :: l) j = srtK l j := by
        have : ∀ i, i ≤ j → srtK (t :: l) i = srtK l i := by
          intro i
          induction i with
          | zero => intro _; rfl
          | succ i ih2 =>
            intro hi
            have hne : ¬ mnV t = (i : Int) := by rw [e]; omega
            simp only [srtK]
            rw [ih2 (by omega), List.filter_cons_of_neg (by simpa using hne)]
        exact this j (Nat.le_refl _)
      rw [h0, List.filter_cons_of_pos (by simpa using e)]
      exact List.perm_middle
    · have hne : ¬ mnV t = (k : Int) := by rw [e]; omega
      rw [List.filter_cons_of_neg (by simpa using hne)]
      exact (ih (by omega)).append_right _
theorem srtK_perm {l : List (List Int)} {k : Nat} (h : ∀ t ∈ l, ∃ j, j < k ∧ mnV t = ((j : Nat) : Int)) : (srtK l k).Perm l := by
  induction l with
  | nil =>
    have : ∀ i, srtK [] i = [] := by
      intro i
      induction i with
      | zero => rfl
      | succ i ih => simp [srtK, ih]
    rw [this]
  | cons t l ih =>
    obtain ⟨j, hj, e⟩ := h t (by simp)
    exact (srtK_cons t l k hj e).trans ((ih fun s hs => h s (by simp [hs])).cons t)
theorem mn_mem {t : List Int} (hB : tB t = true) : mnV t ∈ t := by
  have h := vs_pos hB
  have hx : (vsL t)[0]? = some ((vsL t)[0]'h) := List.getElem?_eq_getElem h
  rw [mn_first hx]
  exact (vs_mem_of hB).1 (List.getElem_mem h)
theorem mn_range {t : List Int} (hB : tB t = true) {N : Nat} (hx : ∀ x ∈ t, x < (N : Int)) : ∃ j, j < N ∧ mnV t = ((j : Nat) : Int) := by
  have h1 := mn_mem hB
  have h2 := hx _ h1
  have h3 := ((tB_iff t).1 hB).1 _ h1
  unfold vB at h3
  have h3 := of_decide_eq_true h3
  exact ⟨(mnV t).toNat, by omega, by omega⟩
theorem srtK_asc {l : List (List Int)} (h : l.Pairwise fun s t => mnV s ≠ mnV t) (k : Nat) : (srtK l k).Pairwise fun s t => mnV s < mnV t := by
  induction k with
  | zero => exact List.Pairwise.nil
  | succ k ih =>
    simp only [srtK]
    rw [List.pairwise_append]
    refine ⟨ih, ?_, fun s hs t ht => ?_⟩
    · have h2 : (l.filter fun t => decide (mnV t = (k : Int))).Pairwise fun s t => mnV s ≠ mnV t := h.filter _
      refine h2.imp_of_mem fun hs ht hne => ?_
      have e1 := of_decide_eq_true (List.mem_filter.1 hs).2
      have e2 := of_decide_eq_true (List.mem_filter.1 ht).2
      exact absurd (e1.trans e2.symm) hne
    · obtain ⟨_, j, hj, e⟩ := (srtK_mem l k s).1 hs
      have e2 := of_decide_eq_true (List.mem_filter.1 ht).2
      omega
theorem mn_apart {s t : List Int} (hs : tB s = true) (ht : tB t = true) (h : Apart s t) : mnV s ≠ mnV t := fun e => h _ (mn_mem hs) (e ▸ mn_mem ht)
/-- tours side by side, put in order, are a right forest -/
theorem FP_srt {N : Nat} {l : List (List Int)} (h1 : 1 ≤ N) (h2 : N ≤ 12) (h : FQ (N : Int) l) : FP (N : Int) (srtK l N) := by
  have hp : (srtK l N).Perm l := srtK_perm fun t ht => mn_range (h.1 t ht).1 (h.1 t ht).2
  refine (FP_iff _ _).2 ⟨by omega, by omega, h.perm hp.symm, srtK_asc ?_ N⟩
  exact h.2.1.imp_of_mem fun hs ht hap => mn_apart (h.1 _ hs).1 (h.1 _ ht).1 hap
/-- a right forest is in order already, and two in order with the same tours are one -/
theorem asc_uniq {a b : List (List Int)} (ha : a.Pairwise fun s t => mnV s < mnV t) (hb : b.Pairwise fun s t => mnV s < mnV t) (hp : a.Perm b) : a = b :=
  List.Perm.eq_of_pairwise (fun _ _ _ _ h1 h2 => by omega) ha hb hp
end Go.Proofs.Ytcpffonenhhfoaa
namespace Go.Proofs.Ytcpffonenhhfoaa

/-- what is seen matters as a set alone: fewer, more or others beside -/
theorem trun_less {r w s w1 s1 s' : List Int} (h : trun w s r = some (w1, s1)) (hs : ∀ x ∈ s', x ∈ s) : ∃ s1', trun w s' r = some (w1, s1') := by
  induction r generalizing w s s' with
  | nil => simp [trun] at h; exact ⟨s', by simp [trun, h.1]⟩
  | cons v r ih =>
    rcases trun_cons h with ⟨hu, h1⟩ | ⟨hu, hv, h1⟩
    · obtain ⟨s1', h2⟩ := ih h1 hs
      exact ⟨s1', by rw [trun_up hu]; exact h2⟩
    · obtain ⟨s1', h2⟩ := ih h1 (s' := v :: s') (fun x hx => by
        rcases List.mem_cons.1 hx with rfl | hx
        · simp
        · exact List.mem_cons_of_mem _ (hs x hx))
      exact ⟨s1', by rw [trun_down hu (fun h3 => hv (hs v h3))]; exact h2⟩
/-- the same run further up, over another way, with more that was seen: nothing of that stands in the list -/
theorem trun_over {r w s w1 s1 E s' : List Int} (h : trun w s r = some (w1, s1)) (hw : w ≠ []) (hs : ∀ x ∈ s', x ∈ s ∨ x ∉ r) (hE : ∀ x ∈ E, x ∈ s ∨ x ∉ r) : ∃ s1', trun (w ++ E) s' r = some (w1 ++ E, s1') := by
  induction r generalizing w s s' with
  | nil => simp [trun] at h; exact ⟨s', by simp [trun, h.1]⟩
  | cons v r ih =>
    rcases trun_cons h with ⟨hu, h1⟩ | ⟨hu, hv, h1⟩
    · obtain ⟨c, q, rfl⟩ := isUp_some hu
      obtain ⟨s1', h2⟩ := ih h1 (by simp) (fun x hx => (hs x hx).imp id (fun h3 h4 => h3 (List.mem_cons_of_mem _ h4))) (fun x hx => (hE x hx).imp id (fun h3 h4 => h3 (List.mem_cons_of_mem _ h4)))
      exact ⟨s1', by rw [trun_up (by simp [isUp])]; exact h2⟩
    · obtain ⟨s1', h2⟩ := ih h1 (by simp) (s' := v :: s') (fun x hx => by
          rcases List.mem_cons.1 hx with rfl | hx
          · exact .inl (by simp)
          · exact (hs x hx).imp (fun h3 => List.mem_cons_of_mem _ h3) (fun h3 h4 => h3 (List.mem_cons_of_mem _ h4))) (fun x hx => (hE x hx).imp (fun h3 => List.mem_cons_of_mem _ h3) (fun h3 h4 => h3 (List.mem_cons_of_mem _ h4)))
      have hvs : v ∉ s' := fun h3 => (hs v h3).elim hv (fun h4 => h4 (by simp))
      have hvE : v ∉ E := fun h3 => (hE v h3).elim hv (fun h4 => h4 (by simp))
      refine ⟨s1', ?_⟩
      rw [trun_down ?_ hvs]
      · exact h2
      · match w, hw with
        | [c], _ =>
          cases E with
          | nil => rfl
          | cons e E => simp [isUp]; rintro rfl; exact hvE (by simp)
        | c :: p :: q, _ => simpa [isUp] using hu
/-- what was seen and is not on the way does not stand in the list -/
theorem trun_avoid {r w s w1 s1 : List Int} (h : trun w s r = some (w1, s1)) {X : Int → Prop} (hX : ∀ x, X x → x ∈ s) (hw : ∀ x ∈ w, ¬ X x) : ∀ x ∈ r, ¬ X x := by
  induction r generalizing w s with
  | nil => simp
  | cons v r ih =>
    intro x hx
    rcases trun_cons h with ⟨hu, h1⟩ | ⟨hu, hv, h1⟩
    · rcases List.mem_cons.1 hx with rfl | hx
      · exact hw _ (isUp_mem hu)
      · exact ih h1 hX (fun y hy => hw y (List.mem_of_mem_tail hy)) x hx
    · rcases List.mem_cons.1 hx with rfl | hx
      · exact fun h2 => hv (hX _ h2)
      · exact ih h1 (fun y hy => List.mem_cons_of_mem _ (hX y hy)) (fun y hy => by
          rcases List.mem_cons.1 hy with rfl | hy
          · exact fun h2 => hv (hX _ h2)
          · exact hw y hy) x hx
theorem trun_way {r w s w1 s1 : List Int} (h : trun w s r = some (w1, s1)) (hn : w.Nodup) (hs : ∀ x ∈ w, x ∈ s) : w1.Nodup := by
  induction r generalizing w s with
  | nil => simp [trun] at h; rw [← h.1]; exact hn
  | cons v r ih =>
    rcases trun_cons h with ⟨hu, h1⟩ | ⟨hu, hv, h1⟩
    · exact ih h1 (hn.sublist (List.tail_sublist _)) (fun x hx => hs x (List.mem_of_mem_tail hx))
    · exact ih h1 (List.nodup_cons.2 ⟨fun h2 => hv (hs v h2), hn⟩) (fun x hx => by
        rcases List.mem_cons.1 hx with rfl | hx
        · simp
        · exact List.mem_cons_of_mem _ (hs x hx))

/-- the root c, left behind: a run over [d, c] that ends at c goes, from d on, to c below d -/
theorem trun_turn {r w s s1 : List Int} {c d : Int} {s' : List Int} (h : trun (w ++ [c]) s r = some ([c], s1)) (hw : w.getLast? = some d) (hs : ∀ x, x ∈ s ↔ x = c ∨ x ∈ s') (hc : c ∉ s') (hd : d ∈ s') : ∃ s1', trun w s' r = some ([c, d], s1') := by
  induction r generalizing w s s' with
  | nil =>
    simp [trun] at h
    rw [h.1] at hw
    simp at hw
  | cons v r ih =>
    match w, hw with
    | [e], hw =>
      simp at hw
      subst hw
      rcases trun_cons h with ⟨hu, h1⟩ | ⟨hu, hv, h1⟩
      · simp [isUp] at hu
        subst hu
        have h1' : trun [c] s r = some ([c], s1) := h1
        have hm : ∀ x ∈ c :: s', x ∈ s ∨ x ∉ r := fun x hx => .inl ((hs x).2 (by simpa using hx))
        obtain ⟨s1', h2⟩ := trun_over (E := [e]) h1' (by simp) hm (fun x hx => by simp at hx; subst hx; exact .inl ((hs x).2 (.inr hd)))
        exact ⟨s1', by rw [trun_down (by rfl) hc]; exact h2⟩
      · have hvc : v ≠ c := fun e => hv ((hs v).2 (.inl e))
        have hvs : v ∉ s' := fun e => hv ((hs v).2 (.inr e))
        obtain ⟨s1', h2⟩ := ih (w := [v, e]) (s' := v :: s') h1 (by simp) (fun x => by
          simp only [List.mem_cons, hs]
          constructor
          · rintro (h | h | h) <;> simp [h]
          · rintro (h | h | h) <;> simp [h]) (by simp [hc]; exact fun e => hvc e.symm) (by simp [hd])
        exact ⟨s1', by rw [trun_down (by rfl) hvs]; exact h2⟩
    | x :: y :: w, hw =>
      rcases trun_cons h with ⟨hu, h1⟩ | ⟨hu, hv, h1⟩
      · have hu' : isUp (x :: y :: w) v = true := by simpa [isUp] using hu
        obtain ⟨s1', h2⟩ := ih (w := y :: w) h1 (by simpa [List.getLast?_cons_cons] using hw) hs hc hd
        exact ⟨s1', by rw [trun_up hu']; exact h2⟩
      · have hu' : isUp (x :: y :: w) v = false := by simpa [isUp] using hu
        have hvc : v ≠ c := fun e => hv ((hs v).2 (.inl e))
        have hvs : v ∉ s' := fun e => hv ((hs v).2 (.inr e))
        obtain ⟨s1', h2⟩ := ih (w := v :: x :: y :: w) (s' := v :: s') h1 (by simpa [List.getLast?_cons_cons] using hw) (fun z => by
          simp only [List.mem_cons, hs]
          constructor
          · rintro (h | h | h) <;> simp [h]
          · rintro (h | h | h) <;> simp [h]) (by simp [hc]; exact fun e => hvc e.symm) (by simp [hd])
        exact ⟨s1', by rw [trun_down hu' hvs]; exact h2⟩
/-- a tour from its second vertex on -/
theorem tour_turn {c d : Int} {m : List Int} (h : tB (c :: d :: (m ++ [c])) = true) : tB (d :: (m ++ [c] ++ [d])) = true := by
  obtain ⟨x, r, s, e, hr, hv, _⟩ := tB_open h
  simp at e
  obtain ⟨rfl, rfl⟩ := e
  rcases trun_cons hr with ⟨hu, _⟩ | ⟨hu, hd, h1⟩
  · simp [isUp] at hu
  · have hdc : d ≠ c := by simpa using hd
    obtain ⟨s1', h2⟩ := trun_turn (w := [d]) (d := d) (s' := [d]) h1 (by simp) (fun x => by simp; exact or_comm) (by simp; exact fun e => hdc e.symm) (by simp)
    refine tB_of (s := s1') (fun v hv' => hv v ?_) ?_
    · simp at hv' ⊢
      rcases hv' with h | h | h | h <;> simp [h]
    · rw [trun_append, h2]
      simp [trun, tstep, isUp]
/-- a tour is a ring of vertices, cut at one of them -/
theorem tour_ring {t : List Int} (h : tB t = true) : (∃ x, t = [x]) ∨ ∃ c d m, t = c :: d :: (m ++ [c]) := by
  obtain ⟨x, r, s, rfl, hr, _, hq⟩ := tB_open h
  rcases hq with rfl | ⟨q, rfl⟩
  · exact .inl ⟨x, rfl⟩
  · cases q with
    | nil =>
      simp [trun, tstep, isUp] at hr
    | cons d m => exact .inr ⟨x, d, m, by simp⟩
/-- the ring, cut at its place k -/
def cutAt (q : List Int) (k : Nat) : List Int := q.drop k ++ (q.take k ++ (q[k]?).toList)
theorem tour_cut {q : List Int} (h : tB (cutAt q 0) = true) (k : Nat) (hk : k < q.length) : tB (cutAt q k) = true := by
  induction k with
  | zero => exact h
  | succ k ih =>
    have h1 := ih (by omega)
    have e1 : q.drop k = q[k]'(by omega) :: q[k + 1] :: q.drop (k + 2) := by
      rw [List.drop_eq_getElem_cons (by omega), List.drop_eq_getElem_cons hk]
    have e2 : cutAt q k = q[k]'(by omega) :: q[k + 1] :: ((q.drop (k + 2) ++ q.take k) ++ [q[k]'(by omega)]) := by
      unfold cutAt
      rw [e1, List.getElem?_eq_getElem (by omega)]
      simp only [Option.toList_some, List.cons_append, List.append_assoc]
    rw [e2] at h1
    have h2 := tour_turn h1
    have e3 : cutAt q (k + 1) = q[k + 1] :: (q.drop (k + 2) ++ q.take k ++ [q[k]'(by omega)] ++ [q[k + 1]]) := by
      unfold cutAt
      rw [List.drop_eq_getElem_cons hk, List.getElem?_eq_getElem hk, List.take_succ_eq_append_getElem (by omega)]
      simp only [Option.toList_some, List.cons_append, List.append_assoc]
    rw [e3]
    exact h2
end Go.Proofs.Ytcpffonenhhfoaa
namespace Go.Proofs.Ytcpffonenhhfoaa
open Go.RowKit

theorem openBad {t : List Int} (h : openB t = false) : tB t = false := by rw [tB_eq, h, Bool.and_false]

/-- the path in the making and the table of what was seen -/
structure PSt (wb : World) (g n c : Nat) (ls : List Int) (gs : Nat) (ss : List Int) (u : World) : Prop where
  own : u.ownsRow wb.heap.size 3 1 (.slice (some ⟨g, 0, none⟩) n c) n (ic ls)
  arr : ∀ j : Nat, j < 12 → u.cell? ⟨gs, j, none⟩ = some (.bool (decide ((j : Int) ∈ ss)))
  frz : ∀ j : Nat, u.frozen? ⟨gs, j, none⟩ = false
  ne : g ≠ gs
  lo : wb.heap.size ≤ gs
  hi : gs < u.heap.size
  bel : Below wb.heap.size wb u

theorem PSt.size {wb : World} {g n c gs : Nat} {ls ss : List Int} {u : World} (h : PSt wb g n c ls gs ss u) : wb.heap.size ≤ u.heap.size := h.bel.size
theorem PSt.len {wb : World} {g n c gs : Nat} {ls ss : List Int} {u : World} (h : PSt wb g n c ls gs ss u) : ls.length = n := by have := h.own.1; rw [ic_len] at this; omega
theorem PSt.cut {wb : World} {g n c gs m : Nat} {ls ss : List Int} {u : World} (h : PSt wb g n c ls gs ss u) (hm : m ≤ n) : PSt wb g m c (ls.take m) gs ss u :=
  ⟨by have := own_cut h.own hm; rw [ic, ← List.map_take] at this; exact this, h.arr, h.frz, h.ne, h.lo, h.hi, h.bel⟩
theorem PSt.cell {wb : World} {g n c gs : Nat} {ls ss : List Int} {u : World} (h : PSt wb g n c ls gs ss u) {j : Nat} {x : Int} (hx : ls[j]? = some x) : u.cell? ⟨g, j, none⟩ = some (.int .i64 x) := by
  have hj := (List.getElem?_eq_some_iff.1 hx).1
  have := h.len
  rw [h.own.cellAt j (by omega)]
  exact ic_at hx
theorem PSt.cap {wb : World} {g n c gs : Nat} {ls ss : List Int} {u : World} (h : PSt wb g n c ls gs ss u) : n ≤ c := by
  rcases h.own.2 with ⟨hv, _⟩ | ⟨g2, cap, cur, hv, hb, hg, hnc, _⟩
  · simp at hv
  · simp only [Value.slice.injEq, Option.some.injEq, Addr.mk.injEq, and_true, true_and] at hv
    obtain ⟨rfl, rfl⟩ := hv
    exact hnc
theorem PSt.app {wb : World} {g n c gs : Nat} {ls ss : List Int} {u : World} (h : PSt wb g n c ls gs ss u) {x : Int} {o : Obj} {G cap : Nat} {u' : World}
    (ho : u'.ownsRow wb.heap.size 3 1 (.slice (some ⟨G, 0, none⟩) (n + 1) cap) (n + 1) (ic ls ++ [.int .i64 x])) (hg : (u.alloc o).grownBy u' (some g)) (hG : (some g : Option Nat) = some G ∨ G = u.heap.size + 1) :
    PSt wb G (n + 1) cap (ls ++ [x]) gs ss u' := by
  have hhi := h.hi
  have hb : u'.heap[gs]? = u.heap[gs]? := by
    rw [hg.block gs (by simp; omega) (by simp; exact fun e => h.ne e.symm)]
    exact Below.heap_alloc u o gs hhi
  refine ⟨by rw [ic_snoc]; exact ho, fun j hj => ?_, fun j => ?_, ?_, h.lo, by have := hg.size; simp at this; omega, ?_⟩
  · rw [World.cell?_of_block (w := u) (a := ⟨gs, j, none⟩) hb]; exact h.arr j hj
  · rw [World.frozen?_of_block (w := u) (a := ⟨gs, j, none⟩) hb]; exact h.frz j
  · rcases hG with hG | hG
    · simp at hG; rw [← hG]; exact h.ne
    · omega
  · exact (h.bel.alloc h.size _).grown hg (by have := h.size; simp; omega) (fun j hj => by simp at hj; subst hj; exact (h.own.lt g rfl).1)
theorem PSt.put {wb : World} {g n c gs : Nat} {ls ss : List Int} {u : World} (h : PSt wb g n c ls gs ss u) (x : Nat) (hx : x < 12) : PSt wb g n c ls gs ((x : Int) :: ss) (u.setCell ⟨gs, x, none⟩ (.bool true)) := by
  refine ⟨own_setOther h.own gs x _ h.ne, fun j hj => ?_, fun j => ?_, h.ne, h.lo, by simp [World.setCell]; exact h.hi, h.bel.setCell (p := ⟨gs, x, none⟩) h.lo _⟩
  · by_cases hjx : j = x
    · subst hjx
      rw [World.cell?_setCell_same u ⟨gs, j, none⟩ _ (h.arr j hj)]
      simp
    · rw [World.cell?_setCell_other]
      · rw [h.arr j hj]
        have : ¬ ((j : Int) = (x : Int)) := by omega
        simp [this]
      · exact fun e => hjx (by simpa using e.symm)
  · rw [World.frozen?_setCell]; exact h.frz j
theorem PSt.start (wb : World) (o : Array Value) (ho : o = #[.bool false, .bool false, .bool false, .bool false, .bool false, .bool false, .bool false, .bool false, .bool false, .bool false, .bool false, .bool false]) :
    PSt wb wb.heap.size 0 0 [] (wb.heap.size + 1) [] ((wb.alloc (.cells #[] 3)).alloc (.cells o 106)) := by
  have hs : (wb.alloc (.cells #[] 3)).heap.size = wb.heap.size + 1 := by simp
  have hb : ((wb.alloc (.cells #[] 3)).alloc (.cells o 106)).heap[wb.heap.size + 1]? = some (.cells o 106 (0, 0)) := by
    have := heap_alloc_new (wb.alloc (.cells #[] 3)) (.cells o 106)
    rw [hs] at this
    exact this
  have h0 := World.ownsRow_lit (base := wb.heap.size) (e := 3) (size := 1) wb #[] 0 (Nat.le_refl _) (by unfold maxLen; omega) (by simp)
  refine ⟨by simpa [ic] using h0.alloc _, fun j hj => ?_, fun j => frozen_of_row _ _ j _ _ hb, by omega, by omega, by simp, ((Below.refl _ _).alloc (Nat.le_refl _) _).alloc (by simp) _⟩
  rw [cell_of_row _ _ j _ _ _ hb, ho]
  rcases (show j = 0 ∨ j = 1 ∨ j = 2 ∨ j = 3 ∨ j = 4 ∨ j = 5 ∨ j = 6 ∨ j = 7 ∨ j = 8 ∨ j = 9 ∨ j = 10 ∨ j = 11 by omega) with h | h | h | h | h | h | h | h | h | h | h | h <;> subst h <;> rfl

theorem beyond_no (f : Int) (h : vB f = true) (w : World) : Calls Try.prog 60 #[.int .i64 f] w fun e w' => e = .returned (.bool false) ∧ w' = w := by
  simp [vB] at h
  have d1 : decide (f < 0) = false := decide_eq_false (by omega)
  have d2 : decide (12 ≤ f) = false := decide_eq_false (by omega)
  go_enter Try.func60, Try.ntmps60
  go_wp2
  go_ret
  exact ⟨rfl, rfl⟩
theorem beyond_yes (f : Int) (h : vB f = false) (w : World) : Calls Try.prog 60 #[.int .i64 f] w fun e w' => e = .returned (.bool true) ∧ w' = w := by
  simp [vB] at h
  by_cases h0 : f < 0
  · have d1 : decide (f < 0) = true := decide_eq_true h0
    go_enter Try.func60, Try.ntmps60
    go_wp2
    go_ret
    exact ⟨rfl, rfl⟩
  · have d1 : decide (f < 0) = false := decide_eq_false h0
    have d2 : decide (12 ≤ f) = true := decide_eq_true (by omega)
    go_enter Try.func60, Try.ntmps60
    go_wp2
    go_ret
    exact ⟨rfl, rfl⟩

set_option maxRecDepth 100000 in
set_option maxHeartbeats 4000000 in
theorem iTourOk_any (t : List Int) (n : Nat) (a : Option Addr) (c : Nat) (hn : n ≤ 3000000) (w : World) (h : Is w w.heap.size a n t) :
    Calls Try.prog 71 #[.slice a n c] w fun e w' => e = .returned (.bool (tB t)) ∧ Below w.heap.size w w' := by
  obtain ⟨i0, hi, hz0, hz1, hz2⟩ := info_parts info3i
  obtain ⟨hlen, hrow⟩ := h
  have HR := hideIt hrow
  clear hrow
  have hst0 := PSt.start w _ rfl
  go_enter Try.func71, Try.ntmps71
  go_wp2
  go_loopw [3, 12] (fun r i wr => ∃ (k n1 g1 c1 : Nat) (wy sn : List Int), k ≤ n ∧ i = .int .i64 (k : Int) ∧ r = .slice (some ⟨g1, 0, none⟩) n1 c1 ∧ n1 ≤ k ∧ Hid (trun [] [] (t.take k) = some (wy, sn)) ∧ Hid (∀ (j : Nat) (f : Int), j < k → t[j]? = some f → vB f = true) ∧ PSt w g1 n1 c1 wy.reverse (w.heap.size + 1) sn wr) (fun _ i _ => n - (intOf i).toNat)
  case atStart => exact ⟨0, 0, _, 0, [], [], by omega, rfl, rfl, by omega, by show _ = _; rfl, fun j _ hj => by omega, hst0⟩
  case round =>
    obtain ⟨k, n1, g1, c1, wy, sn, hk, rfl, rfl, hn1, HT, HV, hst⟩ := hrel
    clear hst0
    by_cases hlt : k < n
    · rcases HR.out with hz | ⟨b, off, rfl, hbl, hc⟩
      · omega
      · obtain ⟨f, hf⟩ : ∃ f, t[k]? = some f := ⟨t[k]'(by omega), List.getElem?_eq_getElem (by omega)⟩
        have e0 : wr.cell? ⟨b, off + k, none⟩ = some (.int .i64 f) := by rw [hst.bel.cell hbl]; exact hc k f hf
        have b1 : (0 : Int) ≤ (k : Int) := by omega
        have b2 : (k : Int) < (n : Int) := by omega
        cases hv : vB f with
        | false =>
          have HB := hideIt (tB_bad hf hv)
          have HW := hideIt hst.bel
          have HY := hideIt (beyond_yes f hv wr)
          clear hc hf HT HV hst hv
          go_wp2_with (go_at_call 60; refine HY.out.mono ?_; rintro e w1 ⟨rfl, hw⟩; have hw' := hw.symm; subst hw'; clear hw)
          go_ret
          exact ⟨by rw [HB.out]; rfl, HW.out⟩
        | true =>
          have hv' := hv
          simp [vB] at hv'
          obtain ⟨vn, rfl⟩ : ∃ vn : Nat, f = (vn : Int) := ⟨f.toNat, by omega⟩
          have hvn : vn < 12 := by omega
          have HV2 : Hid (∀ (j : Nat) (x : Int), j < k + 1 → t[j]? = some x → vB x = true) := fun j x hj hx => by
            by_cases h7 : j = k
            · rw [h7, hf] at hx; simp at hx; rw [← hx]; exact hv
            · exact HV.out j x (by omega) hx
          have HS := hideIt (show trun [] [] (t.take (k + 1)) = tstep wy sn (vn : Int) by rw [take_snocF t k _ hf, trun_snoc, HT.out]; rfl)
          have d1 : decide ((vn : Int) < 0) = false := decide_eq_false (by omega)
          have d2 : decide (12 ≤ (vn : Int)) = false := decide_eq_false (by omega)
          have v1 : (0 : Int) ≤ (vn : Int) := by omega
          have v2 : (vn : Int) < 12 := by omega
          have HY := hideIt (beyond_no (vn : Int) hv wr)
          clear hv hv' HV hc
          go_wp2_with (go_at_call 60; refine HY.out.mono ?_; rintro e w1 ⟨rfl, hw⟩; have hw' := hw.symm; subst hw'; clear hw; refine Hid.out ?_)
          refine (show ∀ {p : Prop}, p → Hid p from fun h => h) ?_
          clear HY
          by_cases hw1 : wy.length ≤ 1
          · have hl1 := hst.len
            rw [List.length_reverse] at hl1
            have d0 : decide (0 < (n1 : Int) - 1) = false := decide_eq_false (by omega)
            obtain ⟨lw, hlw⟩ : ∃ l, l = wy.reverse := ⟨_, rfl⟩
            rw [← hlw] at hst
            have HLW := hideIt hlw
            clear hlw
            have ha := hst.arr vn (by omega)
            by_cases hs : (vn : Int) ∈ sn
            · have HS2 := hideIt (openBad (trun_none (HS.out.trans (tstep_bad1 hw1 hs))))
              rw [decide_eq_true hs] at ha
              have HB := hideIt hst.bel
              clear HS HT hf hst hs
              go_wp2
              go_ret
              exact ⟨by rw [HS2.out]; rfl, HB.out⟩
            · have HS2 := hideIt (HS.out.trans (tstep_down1 hw1 hs))
              rw [decide_eq_false hs] at ha
              have z1 := hst.size
              have HST := hideIt hst
              have HA := hideIt (fun g3 c3 u' (ho : u'.ownsRow w.heap.size 3 1 (.slice (some ⟨g3, 0, none⟩) (n1 + 1) c3) (n1 + 1) (ic lw ++ [.int .i64 (vn : Int)])) (hg : (wr.alloc (.cells #[.int .i64 (vn : Int)] 3)).grownBy u' (some g1)) hG => hst.app ho hg hG)
              clear HS HT hf hst hs
              go_wp2_with (at_builtin; refine wpList_append_lies _ rfl _ _ 50 rfl w.heap.size 3 i0 _ 1 8 Try.underlying50 hi hz0 hz1 hz2 rfl (by decide) _ _ _ rfl (HST.out.own.alloc _) ⟨wr.heap.size, 0, none⟩ 1 1 [.int .i64 (vn : Int)] rfl rfl (newsI wr (vn : Int)) (by intro u hu; simp at hu; subst hu; rfl) (by omega) (by unfold maxLen; omega) (by omega) (by simp; omega) (wr.heap.size + 1) (by simp) ?_)
              intro g3 c3 w3 hown3 hg3 hG3 _
              have S3 := HA.out g3 c3 w3 hown3 hg3 hG3
              clear hown3 hg3 hG3 HST HA z1 ha
              have q0 := S3.arr vn (by omega)
              have q1 := S3.frz vn
              have HS4 := hideIt (S3.put vn (by omega))
              clear S3
              go_wp2
              exact ⟨⟨k + 1, n1 + 1, g3, c3, (vn : Int) :: wy, (vn : Int) :: sn, by omega, by go_num, rfl, by omega, HS2, HV2, by rw [List.reverse_cons, ← HLW.out]; exact HS4.out⟩, by simp [intOf]; omega⟩
          · match wy, hst, HS, hw1 with
            | [], _, _, hw1 => exact absurd (by simp) hw1
            | [_], _, _, hw1 => exact absurd (by simp) hw1
            | c0 :: p :: q, hst, HS, _ =>
              have hl1 := hst.len
              simp only [List.length_reverse, List.length_cons] at hl1
              have m1 : wr.cell? ⟨g1, n1 - 2, none⟩ = some (.int .i64 p) := hst.cell (by rw [show n1 - 2 = q.length by omega]; exact rev_at2 q c0 p)
              have e1 : (((n1 : Int) - 1 - 1).toNat) = n1 - 2 := by omega
              have d0 : decide (0 < (n1 : Int) - 1) = true := decide_eq_true (by omega)
              have b3 : (0 : Int) ≤ (n1 : Int) - 1 - 1 := by omega
              have b4 : (n1 : Int) - 1 - 1 < (n1 : Int) := by omega
              by_cases hp : (vn : Int) = p
              · have d3 : (p == (vn : Int)) = true := by simpa using hp.symm
                have hcap := hst.cap
                have b5 : (0 : Int) ≤ (n1 : Int) - 1 := by omega
                have b6 : (n1 : Int) - 1 ≤ (c1 : Int) := by omega
                have e2 : (((n1 : Int) - 1).toNat) = n1 - 1 := by omega
                have HS2 := hideIt (HS.out.trans (tstep_up hp))
                have HST := hideIt (hst.cut (m := n1 - 1) (by omega))
                rw [show (c0 :: p :: q).reverse.take (n1 - 1) = (p :: q).reverse by rw [show n1 - 1 = q.length + 1 by omega]; exact rev_take1 q c0 p] at HST
                clear HS HT hf hst hp
                go_wp2
                exact ⟨⟨k + 1, n1 - 1, g1, c1, p :: q, sn, by omega, by go_num, rfl, by omega, HS2, HV2, HST.out⟩, by simp [intOf]; omega⟩
              · have d3 : (p == (vn : Int)) = false := by simpa using Ne.symm hp
                obtain ⟨lw, hlw⟩ : ∃ l, l = (c0 :: p :: q).reverse := ⟨_, rfl⟩
                rw [← hlw] at hst
                have HLW := hideIt hlw
                clear hlw
                have ha := hst.arr vn (by omega)
                by_cases hs : (vn : Int) ∈ sn
                · have HS2 := hideIt (openBad (trun_none (HS.out.trans (tstep_bad2 hp hs))))
                  rw [decide_eq_true hs] at ha
                  have HB := hideIt hst.bel
                  clear HS HT hf hst hs
                  go_wp2
                  go_ret
                  exact ⟨by rw [HS2.out]; rfl, HB.out⟩
                · have HS2 := hideIt (HS.out.trans (tstep_down2 hp hs))
                  rw [decide_eq_false hs] at ha
                  have z1 := hst.size
                  have HST := hideIt hst
                  have HA := hideIt (fun g3 c3 u' (ho : u'.ownsRow w.heap.size 3 1 (.slice (some ⟨g3, 0, none⟩) (n1 + 1) c3) (n1 + 1) (ic lw ++ [.int .i64 (vn : Int)])) (hg : (wr.alloc (.cells #[.int .i64 (vn : Int)] 3)).grownBy u' (some g1)) hG => hst.app ho hg hG)
                  clear HS HT hf hst hs
                  go_wp2_with (at_builtin; refine wpList_append_lies _ rfl _ _ 50 rfl w.heap.size 3 i0 _ 1 8 Try.underlying50 hi hz0 hz1 hz2 rfl (by decide) _ _ _ rfl (HST.out.own.alloc _) ⟨wr.heap.size, 0, none⟩ 1 1 [.int .i64 (vn : Int)] rfl rfl (newsI wr (vn : Int)) (by intro u hu; simp at hu; subst hu; rfl) (by omega) (by unfold maxLen; omega) (by omega) (by simp; omega) (wr.heap.size + 1) (by simp) ?_)
                  intro g3 c3 w3 hown3 hg3 hG3 _
                  have S3 := HA.out g3 c3 w3 hown3 hg3 hG3
                  clear hown3 hg3 hG3 HST HA z1 ha
                  have q0 := S3.arr vn (by omega)
                  have q1 := S3.frz vn
                  have HS4 := hideIt (S3.put vn (by omega))
                  clear S3
                  go_wp2
                  exact ⟨⟨k + 1, n1 + 1, g3, c3, (vn : Int) :: (c0 :: p :: q), (vn : Int) :: sn, by omega, by go_num, rfl, by omega, HS2, HV2, by rw [List.reverse_cons, ← HLW.out]; exact HS4.out⟩, by simp [intOf]; omega⟩
    · obtain rfl : k = n := by omega
      have HO : Hid (tB t = ((n1 : Int) == 1)) := by
        show _ = _
        have h1 := HT.out
        rw [List.take_of_length_le (by omega)] at h1
        have h2 := hst.len
        simp only [List.length_reverse] at h2
        rw [tB_eq, all_of_at (fun j f hf => HV.out j f (by have := (List.getElem?_eq_some_iff.1 hf).1; omega) hf), Bool.true_and]
        unfold openB
        rw [h1]
        show (wy.length == 1) = _
        rw [h2, Bool.eq_iff_iff]
        simp
        omega
      have HB := hideIt hst.bel
      clear HT HV hst
      go_wp2
      go_ret
      exact ⟨by rw [HO.out]; rfl, HB.out⟩
end Go.Proofs.Ytcpffonenhhfoaa
namespace Go.Proofs.Ytcpffonenhhfoaa
open Go.RowKit

/-- one of the pieces -/
structure PartI where
  a : Option Addr
  m : Nat
  c : Nat
  ls : List Int
/-- the pieces stand in block b -/
def PartsI (w : World) (b : Nat) (ps : List PartI) : Prop :=
  b < w.heap.size ∧ ∀ (j : Nat) (p : PartI), ps[j]? = some p → w.cell? ⟨b, j, none⟩ = some (.slice p.a p.m p.c) ∧ Is w w.heap.size p.a p.m p.ls
def qLen (ps : List PartI) : Nat := (ps.map fun p => p.m).sum
def qAll (ps : List PartI) : List Int := ps.flatMap fun p => p.ls
theorem qLen_snoc (ps : List PartI) (p : PartI) : qLen (ps ++ [p]) = qLen ps + p.m := by simp [qLen]
theorem qAll_snoc (ps : List PartI) (p : PartI) : qAll (ps ++ [p]) = qAll ps ++ p.ls := by simp [qAll]
theorem qLen_take (ps : List PartI) (k : Nat) : qLen (ps.take k) ≤ qLen ps := by
  have h := congrArg qLen (List.take_append_drop k ps)
  have e : ∀ a b : List PartI, qLen (a ++ b) = qLen a + qLen b := fun a b => by simp [qLen]
  rw [e] at h
  omega
theorem ic_append (a b : List Int) : ic (a ++ b) = ic a ++ ic b := by simp [ic]
theorem ic_one {ls : List Int} : ∀ u ∈ ic ls, u.oneCell' = true := by
  intro u hu
  simp [ic] at hu
  obtain ⟨x, _, rfl⟩ := hu
  rfl
theorem Is.news {w : World} {B b off n : Nat} {ls : List Int} (h : Is w B (some ⟨b, off, none⟩) n ls) : ∀ j u, (ic ls)[j]? = some u → w.cell? ((⟨b, off, none⟩ : Addr).add j) = some u := by
  intro j u hj
  have hl : j < ls.length := by have := (List.getElem?_eq_some_iff.1 hj).1; rw [ic_len] at this; exact this
  have hn := h.1
  rcases h.2 with h0 | ⟨b', off', hb, _, hc⟩
  · omega
  · simp at hb
    obtain ⟨rfl, rfl⟩ := hb
    obtain ⟨f, hf⟩ : ∃ f, ls[j]? = some f := ⟨ls[j], List.getElem?_eq_getElem hl⟩
    rw [show ((⟨b, off, none⟩ : Addr).add j) = ⟨b, off + j, none⟩ by by_cases h0 : j = 0 <;> simp [Addr.add, h0]]
    rw [hc j f hf, ← hj, ic_at hf]
theorem splice_take {X cs : List Value} {q : Nat} (h : q + cs.length ≤ X.length) : (splice X q cs).take (q + cs.length) = X.take q ++ cs := by
  unfold splice
  rw [← List.append_assoc, List.take_append_of_le_length (by simp; omega)]
  exact List.take_of_length_le (by simp; omega)
theorem info3s : (Try.prog.info? 3).map (fun i => i.size) = some 1 := by kernel_rfl

/-- one piece is moved -/
theorem copy_piece {w wr : World} {G x dl m pm pc : Nat} {pa : Option Addr} {X cs : List Value} (hg : wr.heap[G]? = some (.cells X.toArray 3 (0, 0))) (hl : cs.length = pm) (hd : pm ≤ dl)
    (hpos : 0 < cs.length → (some ⟨G, x, none⟩ : Option Addr) = some ⟨G, m, none⟩ ∧ ∃ ad, pa = some ad ∧ ∀ j v, cs[j]? = some v → wr.cell? (ad.add j) = some v)
    (hfit : m + cs.length ≤ X.length) (h1 : ∀ v ∈ cs, v.oneCell' = true) (hb : Below G w wr) :
    ∃ w2, (Builtin.copy_ #[50, 50] 3 #[.slice (some ⟨G, x, none⟩) dl dl, .slice pa pm pc]).run Try.prog wr = .ok (.int .i64 (pm : Int)) w2 ∧ w2.heap[G]? = some (.cells (splice X m cs).toArray 3 (0, 0)) ∧ Below G w w2 := by
  have hmin : Nat.min pm dl = pm := Nat.min_eq_left hd
  by_cases h0 : cs.length = 0
  · obtain rfl : cs = [] := List.eq_nil_of_length_eq_zero h0
    have hp0 : pm = 0 := by simpa using hl.symm
    subst hp0
    have hrun := run_copy_none (P := Try.prog) wr 50 50 3 3 (some ⟨G, x, none⟩) pa dl dl 0 pc Try.underlying50 info3s (by simp)
    exact ⟨wr, hrun, by simpa [splice] using hg, hb⟩
  · obtain ⟨e, ad, rfl, hsrc⟩ := hpos (by omega)
    simp at e
    subst e
    have hrun := run_copy_row (P := Try.prog) wr 50 50 3 3 G x dl dl ad pm pc X.toArray 3 cs Try.underlying50 info3s hg (by rw [hmin]; exact hl) hsrc (by simpa using hfit) h1
    rw [hl] at hrun
    exact ⟨_, hrun, by simpa [splice, hl] using setRow_heap wr G _ _ 3 _ hg, below_setRow hb (Nat.le_refl _) _⟩

set_option maxRecDepth 100000 in
set_option maxHeartbeats 2000000 in
theorem laid_any (ps : List PartI) (b k0 : Nat) (hk0 : ps.length = k0) (hsm : k0 ≤ 10) (w : World) (h : PartsI w b ps) (hlen : qLen ps ≤ 3000000) :
    Calls Try.prog 79 #[.slice (some ⟨b, 0, none⟩) k0 k0] w fun e w' => ∃ g m, e = .returned (.slice (some ⟨g, 0, none⟩) m m) ∧ w'.ownsRow w.heap.size 3 1 (.slice (some ⟨g, 0, none⟩) m m) m (ic (qAll ps)) ∧ Below w.heap.size w w' := by
  obtain ⟨i0, hi, hz0, hz1, hz2⟩ := info_parts info3i
  have HP := hideIt h
  have HL := hideIt hlen
  have HK := hideIt hk0
  have hbw := h.1
  clear h hlen hk0
  have HM : Hid (∀ (n : Nat), n ≤ 3000000 → ∀ u : World, (Instr.makeSlice 50 (.int .i64 (n : Int)) (.int .i64 (n : Int))).run Try.prog u =
      .ok (.slice (some ⟨u.heap.size, 0, none⟩) n n) (u.alloc (.cells (madeCells #[.int .i64 0] n) 3))) := fun n hn u => by
    have h := run_make (P := Try.prog) u 50 3 i0 _ Try.underlying50 hi hz0 .i64 .i64 (n : Int) (n : Int) (by omega) (by omega) (by rw [hz2]; omega) (by omega)
    rw [Int.toNat_natCast] at h
    simpa [hz1, Value.cells] using h
  go_enter Try.func79, Try.ntmps79
  go_wp2
  go_loopw [3, 12] (fun s i wr => ∃ (k q : Nat), k ≤ k0 ∧ i = .int .i64 (k : Int) ∧ s = .int .i64 (q : Int) ∧ Hid (q = qLen (ps.take k)) ∧ q ≤ 3000000 ∧ wr = w) (fun _ i _ => k0 - (intOf i).toNat)
  case atStart => exact ⟨0, 0, by omega, rfl, rfl, by show _ = _; simp [qLen], by omega, rfl⟩
  case round =>
    obtain ⟨k, q, hk, rfl, rfl, hq, hq1, hw⟩ := hrel
    have hw' := hw.symm
    subst hw'
    clear hw
    by_cases hlt : k < k0
    · obtain ⟨p, hp⟩ : ∃ p, ps[k]? = some p := ⟨ps[k]'(by have := HK.out; omega), List.getElem?_eq_getElem _⟩
      obtain ⟨c0, _⟩ := HP.out.2 k p hp
      have HQ : Hid (q + p.m = qLen (ps.take (k + 1))) := by show _ = _; rw [take_snocF ps k p hp, qLen_snoc, hq.out]
      have hqm : q + p.m ≤ 3000000 := by have := HQ.out; have := qLen_take ps (k + 1); have := HL.out; omega
      have b1 : (0 : Int) ≤ (k : Int) := by omega
      have b2 : (k : Int) < (k0 : Int) := by omega
      clear hq hp
      go_wp2
      exact ⟨⟨k + 1, q + p.m, by omega, by go_num, by go_num, HQ, hqm, by first | trivial | rfl⟩, by simp [intOf]; omega⟩
    · obtain rfl : k = k0 := by omega
      have HQ : Hid (q = qLen ps) := by show _ = _; rw [hq.out, List.take_of_length_le (by have := HK.out; omega)]
      clear hq
      have hmk := HM.out q hq1
      go_wp2
      clear hmk
      go_loopw [7, 26] (fun r i wr => ∃ (j m dl : Nat) (x : Nat) (X : List Value), j ≤ k ∧ i = .int .i64 (j : Int) ∧ r = .slice (some ⟨w.heap.size, x, none⟩) dl dl ∧ m + dl = q ∧ Hid (m = qLen (ps.take j)) ∧ (0 < dl → x = m) ∧ Hid (X.length = q) ∧ Hid (X.take m = ic (qAll (ps.take j))) ∧ Hid (wr.heap[w.heap.size]? = some (.cells X.toArray 3 (0, 0))) ∧ Below w.heap.size w wr) (fun _ i _ => k - (intOf i).toNat)
      case atStart =>
        refine ⟨0, 0, q, 0, (madeCells #[.int .i64 0] q).toList, by omega, rfl, rfl, by omega, by show _ = _; simp [qLen], fun _ => rfl, by show _ = _; simp [madeCells], by show _ = _; simp [qAll, ic], ?_, (Below.refl _ _).alloc (Nat.le_refl _) _⟩
        show _ = _
        rw [Array.toArray_toList]
        exact heap_alloc_new w _
      case round =>
        obtain ⟨j, m, dl, x, X, hj, rfl, rfl, hmd, hm, hx, hXl, hX, hg, hb⟩ := hrel
        by_cases hlt2 : j < k
        · obtain ⟨p, hp⟩ : ∃ p, ps[j]? = some p := ⟨ps[j]'(by have := HK.out; omega), List.getElem?_eq_getElem _⟩
          obtain ⟨c0, his⟩ := HP.out.2 j p hp
          have c1 : wr.cell? ⟨b, j, none⟩ = some (.slice p.a p.m p.c) := by rw [hb.cell hbw]; exact c0
          have HMm : Hid (m + p.m = qLen (ps.take (j + 1))) := by show _ = _; rw [take_snocF ps j p hp, qLen_snoc, hm.out]
          have hmp : m + p.m ≤ q := by have := HMm.out; have := qLen_take ps (j + 1); have := HQ.out; omega
          have HA : Hid (ic (qAll (ps.take (j + 1))) = ic (qAll (ps.take j)) ++ ic p.ls) := by show _ = _; rw [take_snocF ps j p hp, qAll_snoc, ic_append]
          have b1 : (0 : Int) ≤ (j : Int) := by omega
          have b2 : (j : Int) < (k : Int) := by omega
          have hisw := (his.below hb (Nat.le_refl _)).mono hb.size
          have hl2 : (ic p.ls).length = p.m := by rw [ic_len, his.1]
          obtain ⟨cs, hcs⟩ : ∃ cs, cs = ic p.ls := ⟨_, rfl⟩
          rw [← hcs] at hl2 HA
          have HN : Hid (0 < cs.length → (some ⟨w.heap.size, x, none⟩ : Option Addr) = some ⟨w.heap.size, m, none⟩ ∧ ∃ ad, p.a = some ad ∧ ∀ j v, cs[j]? = some v → wr.cell? (ad.add j) = some v) := fun h0 => by
            refine ⟨by rw [hx (by omega)], ?_⟩
            rcases hisw.2 with hz | ⟨b2, off2, hpa, _, _⟩
            · omega
            · exact ⟨_, hpa, by rw [hcs]; rw [hpa] at hisw; exact hisw.news⟩
          have H1 : Hid (∀ v ∈ cs, v.oneCell' = true) := by rw [hcs]; exact ic_one
          have HX2 : Hid ((splice X m cs).take (m + p.m) = ic (qAll (ps.take (j + 1)))) := by
            show _ = _
            rw [← hl2, splice_take (by have := hXl.out; omega), hX.out, HA.out]
          have HXl2 : Hid ((splice X m cs).length = q) := by show _ = _; rw [length_splice _ _ _ (by have := hXl.out; omega)]; exact hXl.out
          have HXq := hXl
          obtain ⟨pa, pm, pc, pls⟩ := p
          dsimp only at *
          clear hm hp c0 his hisw HA hX hXl hcs
          obtain ⟨w2, hcp, hg2, hB2⟩ := copy_piece (pc := pc) hg.out hl2 (show pm ≤ dl by omega) HN.out (by have := HXq.out; omega) H1.out hb
          have HG2 := hideIt hg2
          clear hg2 hg HN H1 HXq
          by_cases hfull : pm = dl
          · subst hfull
            have b3 : (0 : Int) ≤ (pm : Int) := by omega
            go_wp2
            exact ⟨⟨j + 1, m + pm, 0, x, splice X m cs, by omega, by go_num, rfl, by omega, HMm, fun h => by omega, HXl2, HX2, HG2, hB2⟩, by simp [intOf]; omega⟩
          · have b3 : (0 : Int) ≤ (pm : Int) := by omega
            have b4 : (pm : Int) ≤ (dl : Int) := by omega
            have hx2 : 0 < dl - pm → x + pm = m + pm := fun h => by rw [hx (by omega)]
            go_wp2
            exact ⟨⟨j + 1, m + pm, dl - pm, x + pm, splice X m cs, by omega, by go_num, rfl, by omega, HMm, hx2, HXl2, HX2, HG2, hB2⟩, by simp [intOf]; omega⟩
        · obtain rfl : j = k := by omega
          have HE : Hid (m = q) := by show _ = _; have h1 := hm.out; have h2 := HQ.out; rw [List.take_of_length_le (by have := HK.out; omega)] at h1; omega
          have HO : Hid (wr.ownsRow w.heap.size 3 1 (.slice (some ⟨w.heap.size, 0, none⟩) q q) q (ic (qAll ps))) := by
            show World.ownsRow _ _ _ _ _ _ _
            have h1 := hX.out
            have h3 := hXl.out
            rw [List.take_of_length_le (by have := HE.out; omega), List.take_of_length_le (by have := HK.out; omega)] at h1
            rw [← h1]
            exact ⟨by omega, .inr ⟨w.heap.size, q, X.toArray, rfl, Nat.le_refl _, hg.out, Nat.le_refl _, by unfold maxLen; omega, by simpa using h3, by rw [List.take_of_length_le (by simp; omega)]⟩⟩
          clear hm hX hXl hg
          go_wp2
          go_ret
          exact ⟨_, _, rfl, HO.out, hb⟩
end Go.Proofs.Ytcpffonenhhfoaa
namespace Go.Proofs.Ytcpffonenhhfoaa
open Go.RowKit

/-- what stands from the place k on up to the last but one, what stands ahead, and v -/
def reT (t : List Int) (k : Nat) (v : Int) : List Int := (t.take (t.length - 1)).drop k ++ (t.take k ++ [v])
/-- the tour from v on -/
def reO (t : List Int) (v : Int) : Option (List Int) := if tB t = true ∧ v ∈ t then some (reT t (fstI t v).toNat v) else none

/-- the answer: a list of its own, and whether there is one -/
def TAns (w : World) (o : Option (List Int)) (e : Ending) (w' : World) : Prop :=
  ∃ a m c, e = .returned (.tuple #[.slice a m c, .bool o.isSome]) ∧ w'.ownsRow w.heap.size 3 1 (.slice a m c) m (ic (o.getD [])) ∧ Below w.heap.size w w'
theorem tans_no {w u : World} {o : Option (List Int)} (ho : o = none) (h : Below w.heap.size w u) : TAns w o (.returned (.tuple #[.slice none 0 0, .bool false])) u := by
  subst ho
  exact ⟨none, 0, 0, rfl, World.ownsRow_nil _ _ _ _, h⟩
theorem tans_yes {w u : World} {o : Option (List Int)} {ls : List Int} (ho : o = some ls) {B : Nat} {a : Option Addr} {m c : Nat} (hB : w.heap.size ≤ B) (hown : u.ownsRow B 3 1 (.slice a m c) m (ic ls)) (h : Below w.heap.size w u) : TAns w o (.returned (.tuple #[.slice a m c, .bool true])) u := by
  subst ho
  exact ⟨a, m, c, rfl, own_mono hown hB, h⟩
/-- the first place of a number of the list -/
theorem fst_at {t : List Int} {v : Int} (h : v ∈ t) : ∃ k : Nat, fstI t v = (k : Int) ∧ k < t.length ∧ t[k]? = some v ∧ ∀ j, j < k → atP t v j = false := by
  rcases firstN_cases (atP t v) t.length with ⟨k, h1, h2, h3, h4⟩ | ⟨h1, _⟩
  · exact ⟨k, h4, h1, by simpa [atP] using h2, h3⟩
  · exact absurd h (mem_of_atP rfl h1)
theorem fst_no {t : List Int} {v : Int} (h : v ∉ t) : fstI t v = -1 := by
  rcases firstN_cases (atP t v) t.length with ⟨k, h1, h2, h3, h4⟩ | ⟨_, h2⟩
  · exact absurd (List.mem_of_getElem? (by simpa [atP] using h2 : t[k]? = some v)) h
  · exact h2
/-- the first place of a vertex of a tour of two and more lies ahead of the last one -/
theorem fst_lt {t : List Int} {v : Int} {k : Nat} (hB : tB t = true) (hk : k < t.length) (hv : t[k]? = some v) (hf : ∀ j, j < k → atP t v j = false) : k < t.length - 1 ∨ (k = 0 ∧ t.length = 1) := by
  obtain ⟨x, r, s, rfl, _, _, hr⟩ := tB_open hB
  rcases hr with rfl | ⟨q, rfl⟩
  · simp at hk; right; simp [hk]
  · left
    simp at hk ⊢
    by_cases h : k = q.length + 1
    · subst h
      have : v = x := by simpa using hv.symm
      subst this
      have := hf 0 (by omega)
      simp [atP] at this
    · omega
theorem Is.take {w : World} {B : Nat} {a : Option Addr} {n : Nat} {ls : List Int} (h : Is w B a n ls) {k : Nat} (hk : k ≤ n) : Is w B a k (ls.take k) := by
  refine ⟨by rw [List.length_take, h.1]; omega, ?_⟩
  rcases h.2 with h0 | ⟨b, off, h1, h2, h3⟩
  · exact .inl (by omega)
  · refine .inr ⟨b, off, h1, h2, fun j x hx => h3 j x ?_⟩
    have hj : j < k := by have := (List.getElem?_eq_some_iff.1 hx).1; rw [List.length_take] at this; omega
    rw [List.getElem?_take_of_lt hj] at hx
    exact hx
theorem Is.drop {w : World} {B b off : Nat} {n : Nat} {ls : List Int} (h : Is w B (some ⟨b, off, none⟩) n ls) {k : Nat} (hk : k ≤ n) : Is w B (some ⟨b, off + k, none⟩) (n - k) (ls.drop k) := by
  refine ⟨by rw [List.length_drop, h.1], ?_⟩
  rcases h.2 with h0 | ⟨b', off', h1, h2, h3⟩
  · exact .inl (by omega)
  · simp at h1
    obtain ⟨rfl, rfl⟩ := h1
    refine .inr ⟨b, off + k, rfl, h2, fun j x hx => ?_⟩
    rw [List.getElem?_drop] at hx
    have := h3 (k + j) x hx
    rw [Nat.add_assoc]
    exact this
theorem Is.none_of {w : World} {B : Nat} {a : Option Addr} {ls : List Int} (h : ls.length = 0) : Is w B a 0 ls := ⟨h, .inl rfl⟩
theorem Is.single (w : World) (f : Int) : Is (w.alloc (.cells #[.int .i64 f] 3)) (w.alloc (.cells #[.int .i64 f] 3)).heap.size (some ⟨w.heap.size, 0, none⟩) 1 [f] := by
  refine ⟨rfl, .inr ⟨w.heap.size, 0, rfl, by simp, fun j x hx => ?_⟩⟩
  rcases j with _ | j
  · simp at hx; subst hx; simp
  · simp at hx
theorem Is.cut {w : World} {B b off : Nat} {n : Nat} {ls : List Int} (h : Is w B (some ⟨b, off, none⟩) n ls) {k m : Nat} (hk : k ≤ m) (hm : m ≤ n) : Is w B (if m = k then some ⟨b, off, none⟩ else some ⟨b, off + k, none⟩) (m - k) ((ls.take m).drop k) := by
  by_cases h0 : m = k
  · rw [if_pos h0]
    subst h0
    rw [Nat.sub_self]
    exact Is.none_of (by simp)
  · rw [if_neg h0]
    exact (h.take hm).drop hk
/-- pieces that are laid into a block -/
theorem parts3 {u : World} {p1 p2 p3 : PartI} (h1 : Is u u.heap.size p1.a p1.m p1.ls) (h2 : Is u u.heap.size p2.a p2.m p2.ls) (h3 : Is u u.heap.size p3.a p3.m p3.ls) :
    PartsI (u.alloc (.cells #[.slice p1.a p1.m p1.c, .slice p2.a p2.m p2.c, .slice p3.a p3.m p3.c] 50)).drew u.heap.size [p1, p2, p3] := by
  have hb : Below u.heap.size u (u.alloc (.cells #[.slice p1.a p1.m p1.c, .slice p2.a p2.m p2.c, .slice p3.a p3.m p3.c] 50)).drew := ((Below.refl _ _).alloc (Nat.le_refl _) _).drew
  refine ⟨by simp, fun j q hq => ?_⟩
  rcases j with _ | _ | _ | j
  · simp at hq; subst hq
    exact ⟨by simp [go_sem], h1.up hb⟩
  · simp at hq; subst hq
    exact ⟨by simp [go_sem], h2.up hb⟩
  · simp at hq; subst hq
    exact ⟨by simp [go_sem], h3.up hb⟩
  · simp at hq
theorem parts2 {u : World} {p1 p2 : PartI} (h1 : Is u u.heap.size p1.a p1.m p1.ls) (h2 : Is u u.heap.size p2.a p2.m p2.ls) :
    PartsI (u.alloc (.cells #[.slice p1.a p1.m p1.c, .slice p2.a p2.m p2.c] 50)).drew u.heap.size [p1, p2] := by
  have hb : Below u.heap.size u (u.alloc (.cells #[.slice p1.a p1.m p1.c, .slice p2.a p2.m p2.c] 50)).drew := ((Below.refl _ _).alloc (Nat.le_refl _) _).drew
  refine ⟨by simp, fun j q hq => ?_⟩
  rcases j with _ | _ | j
  · simp at hq; subst hq
    exact ⟨by simp [go_sem], h1.up hb⟩
  · simp at hq; subst hq
    exact ⟨by simp [go_sem], h2.up hb⟩
  · simp at hq
theorem parts1 {u : World} {p1 : PartI} (h1 : Is u u.heap.size p1.a p1.m p1.ls) :
    PartsI (u.alloc (.cells #[.slice p1.a p1.m p1.c] 50)).drew u.heap.size [p1] := by
  have hb : Below u.heap.size u (u.alloc (.cells #[.slice p1.a p1.m p1.c] 50)).drew := ((Below.refl _ _).alloc (Nat.le_refl _) _).drew
  refine ⟨by simp, fun j q hq => ?_⟩
  rcases j with _ | j
  · simp at hq; subst hq
    exact ⟨by simp [go_sem], h1.up hb⟩
  · simp at hq
end Go.Proofs.Ytcpffonenhhfoaa
