/- The edges of a forest as the two sides make them: pure. A new forest is right: pure. The specification's ForestNew. The library's Min over ints; the program's compareTrees and treesAscend. The library's sorting by a comparison, at this program, by the shelf's own laying in plain words. slices.SortFunc of a list of tours by compareTrees: the same rows, by their least vertices. -/
import Derived.Test.YtcpffonenhhfoaaKHd7
import Derived.Test.YtcpffonenhhfoaaKSortE
import Derived.Test.YtcpffonenhhfoaaKRer
import Derived.Shelf.SlSortCmp.NoneTotal
import Derived.Test.YtcpffonenhhfoaaProg
namespace Go.Proofs.Ytcpffonenhhfoaa
open Go.RowKit

/-- a list that has all of another, which tells each once, and is no longer, is it in some order -/
theorem perm_card {α : Type} [DecidableEq α] : ∀ {m l : List α}, m.Nodup → (∀ x ∈ m, x ∈ l) → l.length ≤ m.length → m.Perm l
  | [], l, _, _, h => by
    have : l = [] := List.eq_nil_of_length_eq_zero (by simpa using h)
    rw [this]
  | x :: m, l, hn, hs, hl => by
    have hn' := List.nodup_cons.1 hn
    have hx : x ∈ l := hs x (by simp)
    have h1 := perm_card (m := m) (l := l.erase x) hn'.2 (fun y hy => by
      have hne : y ≠ x := fun e => hn'.1 (e ▸ hy)
      exact (List.mem_erase_of_ne hne).2 (hs y (by simp [hy]))) (by
      have := List.length_erase_of_mem hx
      have := List.length_pos_of_mem hx
      simp only [List.length_cons] at hl
      omega)
    exact (h1.cons x).trans (List.perm_cons_erase hx).symm
/-- the steps of the first k, from the lesser end to the greater -/
def upK (t : List Int) : Nat → List EdgeV
  | 0 => []
  | i + 1 => upK t i ++ match t[i]?, t[i + 1]? with | some a, some b => if a < b then [(a, b)] else [] | _, _ => []
/-- .. and the other way, told by the lesser end too -/
def dnK (t : List Int) : Nat → List EdgeV
  | 0 => []
  | i + 1 => dnK t i ++ match t[i]?, t[i + 1]? with | some a, some b => if b < a then [(b, a)] else [] | _, _ => []
def up (t : List Int) : List EdgeV := upK t (t.length - 1)
theorem upK_yes {t : List Int} {i : Nat} {a b : Int} (h1 : t[i]? = some a) (h2 : t[i + 1]? = some b) (hl : a < b) : upK t (i + 1) = upK t i ++ [(a, b)] := by rw [upK, h1, h2]; simp [hl]
theorem upK_no {t : List Int} {i : Nat} {a b : Int} (h1 : t[i]? = some a) (h2 : t[i + 1]? = some b) (hl : ¬ a < b) : upK t (i + 1) = upK t i := by rw [upK, h1, h2]; simp [hl]
theorem upK_mem (t : List Int) (k : Nat) (e : EdgeV) : e ∈ upK t k ↔ ∃ i, i < k ∧ t[i]? = some e.1 ∧ t[i + 1]? = some e.2 ∧ e.1 < e.2 := by
  induction k with
  | zero => simp [upK]
  | succ k ih =>
    rw [upK, List.mem_append, ih]
    constructor
    · rintro (⟨i, h1, h2⟩ | h)
      · exact ⟨i, by omega, h2⟩
      · refine ⟨k, by omega, ?_⟩
        cases h1 : t[k]? with
        | none => rw [h1] at h; simp at h
        | some a =>
          cases h2 : t[k + 1]? with
          | none => rw [h1, h2] at h; simp at h
          | some b =>
            rw [h1, h2] at h
            by_cases hl : a < b
            · simp [hl] at h
              subst h
              exact ⟨rfl, rfl, hl⟩
            · simp [hl] at h
    · rintro ⟨i, h1, h2, h3, h4⟩
      by_cases hi : i = k
      · subst hi
        right
        rw [h2, h3]
        simp [h4]
      · exact .inl ⟨i, by omega, h2, h3, h4⟩
theorem dnK_mem (t : List Int) (k : Nat) (e : EdgeV) : e ∈ dnK t k ↔ ∃ i, i < k ∧ t[i]? = some e.2 ∧ t[i + 1]? = some e.1 ∧ e.1 < e.2 := by
  induction k with
  | zero => simp [dnK]
  | succ k ih =>
    rw [dnK, List.mem_append, ih]
    constructor
    · rintro (⟨i, h1, h2⟩ | h)
      · exact ⟨i, by omega, h2⟩
      · refine ⟨k, by omega, ?_⟩
        cases h1 : t[k]? with
        | none => rw [h1] at h; simp at h
        | some a =>
          cases h2 : t[k + 1]? with
          | none => rw [h1, h2] at h; simp at h
          | some b =>
            rw [h1, h2] at h
            by_cases hl : b < a
            · simp [hl] at h
              subst h
              exact ⟨rfl, rfl, hl⟩
            · simp [hl] at h
    · rintro ⟨i, h1, h2, h3, h4⟩
      by_cases hi : i = k
      · subst hi
        right
        rw [h2, h3]
        simp [h4]
      · exact .inl ⟨i, by omega, h2, h3, h4⟩
theorem ud_len {t : List Int} (hB : tB t = true) (k : Nat) (hk : k + 1 ≤ t.length) : (upK t k).length + (dnK t k).length = k := by
  induction k with
  | zero => simp [upK, dnK]
  | succ k ih =>
    have h1 : t[k]? = some t[k] := List.getElem?_eq_getElem (by omega)
    have h2 : t[k + 1]? = some t[k + 1] := List.getElem?_eq_getElem (by omega)
    have hne : t[k] ≠ t[k + 1] := fun e => no_stay (x := t[k]) hB h1 (by rw [h2, e])
    have ih := ih (by omega)
    rw [upK, dnK, h1, h2]
    by_cases hl : t[k] < t[k + 1]
    · have : ¬ t[k + 1] < t[k] := by omega
      simp [hl, this]
      omega
    · have : t[k + 1] < t[k] := by omega
      simp [hl, this]
      omega
theorem up_mem (t : List Int) (e : EdgeV) : e ∈ up t ↔ e ∈ tE t := by
  unfold up
  rw [upK_mem, tE_mem]
  constructor
  · rintro ⟨i, _, h⟩; exact ⟨i, h⟩
  · rintro ⟨i, h1, h2, h3⟩; exact ⟨i, by have := (List.getElem?_eq_some_iff.1 h2).1; omega, h1, h2, h3⟩
theorem up_perm {t : List Int} (hB : tB t = true) : (tE t).Perm (up t) := by
  have hp := tB_pos hB
  have hc := tE_count hB
  have hu := ud_len hB (t.length - 1) (by omega)
  have hd := nd_sub (b := dnK t (t.length - 1)) (eK_nodup t (t.length - 1)) fun e he => by
    obtain ⟨i, h1, h2, h3⟩ := (tE_mem t e).1 he
    obtain ⟨j, hj⟩ := go_back hB h1 h2
    refine (dnK_mem t _ e).2 ⟨j, ?_⟩
    unfold goP at hj
    cases q1 : t[j]? with
    | none => rw [q1] at hj; simp at hj
    | some a =>
      cases q2 : t[j + 1]? with
      | none => rw [q1, q2] at hj; simp at hj
      | some b =>
        rw [q1, q2] at hj
        simp at hj
        exact ⟨by have := (List.getElem?_eq_some_iff.1 q2).1; omega, by rw [hj.1], by rw [hj.2], h3⟩
  have hd : (tE t).length ≤ (dnK t (t.length - 1)).length := hd
  exact perm_card (eK_nodup t _) (fun e he => (up_mem t e).2 he) (by show (upK t (t.length - 1)).length ≤ _; show _ ≤ (tE t).length; omega)
/-- all of them -/
def allU (ts : List (List Int)) : List EdgeV := ts.flatMap up
theorem allU_snoc (ts : List (List Int)) (t : List Int) : allU (ts ++ [t]) = allU ts ++ up t := by simp [allU]
theorem allU_perm {ts : List (List Int)} (h : ∀ t ∈ ts, tB t = true) : (allE ts).Perm (allU ts) := by
  induction ts with
  | nil => exact List.Perm.refl _
  | cons t r ih =>
    show (tE t ++ allE r).Perm (up t ++ allU r)
    exact (up_perm (h t (by simp))).append (ih fun s hs => h s (by simp [hs]))
theorem allU_nodup {N : Int} {ts : List (List Int)} (h : FQ N ts) : (allU ts).Nodup := (allU_perm fun t ht => (h.1 t ht).1).nodup_iff.1 (allE_nodup h.2.1)
/-- put in one behind the other -/
def putF : List EdgeV → List EdgeV → List EdgeV
  | es, [] => es
  | es, e :: r => putF (putE es e) r
theorem putF_snoc (es r : List EdgeV) (e : EdgeV) : putF es (r ++ [e]) = putE (putF es r) e := by
  induction r generalizing es with
  | nil => rfl
  | cons x r ih => exact ih (putE es x)
theorem putE_perm {es : List EdgeV} {e : EdgeV} (hn : e ∉ es) : (putE es e).Perm (es ++ [e]) := by
  have h1 : ∀ l : List EdgeV, e ∉ l → (l.filter (fun d => lt d e) ++ l.filter (fun d => lt e d)).Perm l := fun l => by
    induction l with
    | nil => intro _; exact List.Perm.refl _
    | cons x l ih =>
      intro hx
      have hne : e ≠ x := fun h => hx (by simp [h])
      have ih := ih fun h => hx (by simp [h])
      cases hl : lt x e with
      | true =>
        rw [List.filter_cons_of_pos (p := fun d => lt d e) hl, List.filter_cons_of_neg (p := fun d => lt e d) (by rw [lt_asymm' hl]; simp)]
        exact ih.cons x
      | false =>
        have h2 : lt e x = true := lt_total' hl (Ne.symm hne)
        rw [List.filter_cons_of_neg (p := fun d => lt d e) (by rw [hl]; simp), List.filter_cons_of_pos (p := fun d => lt e d) h2]
        exact List.perm_middle.trans (ih.cons x)
  have h2 := h1 es hn
  unfold putE
  have h3 : (es.filter (fun d => lt d e) ++ [e] ++ es.filter (fun d => lt e d)).Perm (es.filter (fun d => lt d e) ++ es.filter (fun d => lt e d) ++ [e]) := by
    rw [List.append_assoc, List.append_assoc]
    exact List.perm_append_comm.append_left _
  exact h3.trans (h2.append_right [e])
theorem putE_asc {es : List EdgeV} {e : EdgeV} (h : es.Pairwise fun d e => lt d e = true) : (putE es e).Pairwise fun d e => lt d e = true := by
  unfold putE
  rw [List.pairwise_append, List.pairwise_append]
  refine ⟨⟨h.filter _, by simp, fun d hd x hx => ?_⟩, h.filter _, fun d hd x hx => ?_⟩
  · simp at hx
    subst hx
    exact (List.mem_filter.1 hd).2
  · have hx2 := (List.mem_filter.1 hx).2
    rcases List.mem_append.1 hd with hd | hd
    · exact lt_trans' (List.mem_filter.1 hd).2 hx2
    · simp at hd
      subst hd
      exact hx2
theorem putF_is {l : List EdgeV} (hn : l.Nodup) : (putF [] l).Perm l ∧ (putF [] l).Pairwise fun d e => lt d e = true := by
  suffices H : ∀ k, (putF [] (l.take k)).Perm (l.take k) ∧ (putF [] (l.take k)).Pairwise fun d e => lt d e = true by
    have := H l.length
    rwa [List.take_length] at this
  intro k
  induction k with
  | zero => simp [putF]
  | succ k ih =>
    cases hk : l[k]? with
    | none =>
      have : l.take (k + 1) = l.take k := by rw [List.take_add_one, hk]; simp
      rw [this]
      exact ih
    | some e =>
      rw [take_snocF l k e hk, putF_snoc]
      have hne : e ∉ putF [] (l.take k) := fun hm => by
        have hm2 := ih.1.mem_iff.1 hm
        obtain ⟨j, hj⟩ := List.mem_iff_getElem?.1 hm2
        have hjk : j < k := by have := (List.getElem?_eq_some_iff.1 hj).1; rw [List.length_take] at this; omega
        rw [List.getElem?_take_of_lt hjk] at hj
        obtain ⟨p0, p1⟩ := List.getElem?_eq_some_iff.1 hj
        obtain ⟨q0, q1⟩ := List.getElem?_eq_some_iff.1 hk
        exact List.pairwise_iff_getElem.1 hn j k p0 q0 hjk (p1.trans q1.symm)
      exact ⟨(putE_perm hne).trans (ih.1.append_right [e]), putE_asc ih.2⟩
theorem putF_srt {l : List EdgeV} (hn : l.Nodup) : putF [] l = srtE l := by
  obtain ⟨h1, h2⟩ := putF_is hn
  have h3 : (srtE l).Pairwise fun d e => lt d e = true := by
    rw [List.pairwise_iff_getElem]
    intro i j hi hj hij
    exact srtE_asc hn i j _ _ hij (List.getElem?_eq_getElem hi) (List.getElem?_eq_getElem hj)
  exact List.Perm.eq_of_pairwise (fun a b _ _ h4 h5 => by rw [lt_asymm' h4] at h5; cases h5) h2 h3 (h1.trans (srtE_perm l).symm)
theorem putF_len {l : List EdgeV} (hn : l.Nodup) (k : Nat) : (putF [] (l.take k)).length ≤ k := by
  have h1 := (putF_is (l := l.take k) (hn.sublist (List.take_sublist k l))).1.length_eq
  rw [h1]
  exact List.length_take_le k l
/-- what EdgesOf answers -/
noncomputable def edgesO (N : Int) (ts : List (List Int)) : List EdgeV := @ite _ (FP N ts) (Classical.propDecidable _) (srtE (allU ts)) []
theorem edgesO_yes {N : Int} {ts : List (List Int)} (h : FP N ts) : edgesO N ts = srtE (allU ts) := by unfold edgesO; rw [if_pos h]
theorem edgesO_no {N : Int} {ts : List (List Int)} (h : ¬ FP N ts) : edgesO N ts = [] := by unfold edgesO; rw [if_neg h]
end Go.Proofs.Ytcpffonenhhfoaa
namespace Go.Proofs.Ytcpffonenhhfoaa
open Go.RowKit

theorem tB_one {v : Int} (h0 : 0 ≤ v) (h1 : v < 12) : tB [v] = true := by
  rw [tB_iff]
  refine ⟨fun x hx => ?_, v, [v], ?_⟩
  · simp at hx
    subst hx
    unfold vB
    exact decide_eq_true ⟨h0, h1⟩
  · have hu : isUp [] v = false := rfl
    simp [trun, tstep, hu]
theorem vs_one {v : Int} (h0 : 0 ≤ v) (h1 : v < 12) : vsL [v] = [v] := asc_ext (vsK_asc [v] 12) (by simp) fun x => by
  show x ∈ vsL [v] ↔ _
  rw [vsL_mem]
  constructor
  · exact fun h => h.2
  · intro h
    refine ⟨?_, h⟩
    simp at h
    subst h
    unfold vB
    exact decide_eq_true ⟨h0, h1⟩
theorem mn_one {v : Int} (h0 : 0 ≤ v) (h1 : v < 12) : mnV [v] = v := by unfold mnV; rw [vs_one h0 h1]; rfl
theorem newT_mem {n : Nat} {t : List Int} (h : t ∈ newT n) : ∃ j, j < n ∧ t = [((j : Nat) : Int)] := by
  simp only [newT, List.mem_map, List.mem_range] at h
  obtain ⟨j, hj, rfl⟩ := h
  exact ⟨j, hj, rfl⟩
theorem newT_fp {n : Nat} (h1 : 1 ≤ n) (h2 : n ≤ 12) : FP (n : Int) (newT n) := by
  refine (FP_iff _ _).2 ⟨by omega, by omega, ⟨fun t ht => ?_, ?_, ?_⟩, ?_⟩
  · obtain ⟨j, hj, rfl⟩ := newT_mem ht
    exact ⟨tB_one (by omega) (by omega), fun x hx => by simp at hx; omega⟩
  · unfold newT
    rw [List.pairwise_map]
    refine List.Pairwise.imp (fun h => ?_) (List.pairwise_lt_range (n := n))
    intro x hx hx2
    simp at hx hx2
    omega
  · have h : ∀ k, k ≤ 12 → cnt (newT k) = k := fun k => by
      induction k with
      | zero => intro _; simp [newT, cnt]
      | succ k ih =>
        intro hk
        have := ih (by omega)
        unfold cnt at this ⊢
        rw [newT_succ, List.map_append, List.sum_append, this]
        simp [vs_one (v := (k : Int)) (by omega) (by omega)]
    rw [h n h2]
  · rw [List.pairwise_iff_getElem]
    intro i j hi hj hij
    have l := newT_len n
    have e1 := (List.getElem?_eq_some_iff.1 (newT_at (n := n) (k := i) (by omega))).2
    have e2 := (List.getElem?_eq_some_iff.1 (newT_at (n := n) (k := j) (by omega))).2
    rw [e1, e2, mn_one (by omega) (by omega), mn_one (by omega) (by omega)]
    omega
theorem newT_tree {n k : Nat} (h1 : 1 ≤ n) (h2 : n ≤ 12) (hk : k < n) : treeO (n : Int) (newT n) (k : Int) = (k : Int) := by
  have hP := newT_fp h1 h2
  rw [treeO_yes hP]
  exact trI_of hP.q (newT_at hk) (by simp)
theorem newT_size {n k : Nat} (h1 : 1 ≤ n) (h2 : n ≤ 12) (hk : k < n) : sizeO (n : Int) (newT n) (k : Int) = 1 := by
  rw [sizeO_yes (newT_tree h1 h2 hk) (newT_at hk), vs_one (by omega) (by omega)]
  rfl
theorem newT_edges {n : Nat} (h1 : 1 ≤ n) (h2 : n ≤ 12) : edgesO (n : Int) (newT n) = [] := by
  rw [edgesO_yes (newT_fp h1 h2)]
  have h : allU (newT n) = [] := by
    unfold allU
    rw [List.flatMap_eq_nil_iff]
    intro t ht
    obtain ⟨j, _, rfl⟩ := newT_mem ht
    rfl
  rw [h]
  simp [srtE]
end Go.Proofs.Ytcpffonenhhfoaa
namespace Go.Proofs.Ytcpffonenhhfoaa
open Go.RowKit

/-- tours in the making, behind a forest's box in block b -/
structure NSt (w9 : World) (N : Int) (a : Option Addr) (m c : Nat) (R : List Rw) (u : World) : Prop where
  box : Box7 u w9.heap.size 27 (.int .i64 N) (.slice a m c)
  fb : FB u (w9.heap.size + 1) u.heap.size a m c R
  bel : Below w9.heap.size w9 u
theorem newsS (w : World) (x : Value) : ∀ j u, ([x] : List Value)[j]? = some u → (w.alloc (.cells #[x] 50)).cell? ((⟨w.heap.size, 0, none⟩ : Addr).add j) = some u := by
  intro j u hj
  rcases j with _ | j
  · simp at hj; subst hj; simp [Addr.add]
  · simp at hj

set_option maxHeartbeats 2000000 in
theorem sForestNew_any (n : Int) (w : World) : Calls Try.prog 11 #[.int .i64 n] w fun e w' => FAns w n (newO n) e w' := by
  have HI := hideIt l01In_any
  have W1 := Box7.new w 27 (.int .i64 0) (.slice none 0 0) _ rfl
  by_cases h1 : 1 ≤ n ∧ n ≤ 12
  · obtain ⟨N, rfl⟩ : ∃ N : Nat, n = (N : Int) := ⟨n.toNat, by omega⟩
    have r1 : decide (1 ≤ (N : Int) ∧ (N : Int) ≤ 12) = true := decide_eq_true h1
    have HO := hideIt (newO_yes (n := N) (by omega) (by omega))
    obtain ⟨i0, hi, hz0, hz1, hz2⟩ := info_parts infoIT
    have N0 : NSt (w.alloc (.cells #[.int .i64 0, .slice none 0 0] 27)) (N : Int) none 0 0 [] ((w.alloc (.cells #[.int .i64 0, .slice none 0 0] 27)).alloc (.cells #[.int .i64 (N : Int), .slice none 0 0] 27)) := ⟨Box7.new _ _ _ _ _ rfl, FB.nil _ _, (Below.refl _ _).alloc (Nat.le_refl _) _⟩
    obtain ⟨V, hV⟩ : ∃ V, V = w.alloc (.cells #[.int .i64 0, .slice none 0 0] 27) := ⟨_, rfl⟩
    have hVs : V.heap.size = w.heap.size + 1 := by rw [hV]; simp
    have gV : Good w V := by rw [hV]; exact (Good.refl w).alloc _
    rw [← hV] at W1
    have hN12 : N ≤ 12 := by omega
    clear h1
    go_enter Try.func11, Try.ntmps11
    go_wp2_with (go_at_call 29; refine (HI.out _ _ _ _).mono ?_; rintro e w1 ⟨rfl, rfl⟩)
    go_loopw [5] (fun i wr => ∃ (k c1 : Nat) (a1 : Option Addr) (R : List Rw), k ≤ N ∧ i = .int .i64 (k : Int) ∧ Hid (rts R = newT k) ∧ NSt V (N : Int) a1 k c1 R wr) (fun i _ => N - (intOf i).toNat)
    case atStart => exact ⟨0, 0, none, [], by omega, rfl, by show _ = _; rfl, by rw [hV]; exact N0⟩
    case round =>
      obtain ⟨k, c1, a1, R, hk, rfl, HR, hst⟩ := hrel
      clear N0 hV
      have hbx := hst.box
      rw [hVs] at hbx
      by_cases hlt : k < N
      · have b1 : (0 : Int) ≤ (k : Int) := by omega
        have b2 : (k : Int) < (N : Int) := by omega
        have hb : Below wr.heap.size wr (wr.alloc (.cells #[.int .i64 (k : Int)] 3)) := (Below.refl _ _).alloc (Nat.le_refl _) _
        have c0 := hbx.cell1
        have HF := hideIt (hst.fb.keep hb)
        have HRw := hideIt (row_new wr (k : Int))
        have HST := hideIt hst
        have hsz := hbx.lt
        have HFr : Hid (∀ x ∈ R, x.g ≠ wr.heap.size) := fun x hx e => by have := (hst.fb.ins x hx).2.2; omega
        have HR2 : Hid (rts (R ++ [⟨wr.heap.size, 1, [(k : Int)]⟩]) = newT (k + 1)) := by show _ = _; rw [rts_snoc, HR.out, newT_succ]
        have HBx := hideIt (hbx.alloc (.cells #[.int .i64 (k : Int)] 3))
        have hFo := HF.out.own
        rw [hVs] at hFo
        have HFo := hideIt hFo
        clear hb hst hbx HR hFo
        go_wp2_with (at_builtin; refine wpList_append_lies _ rfl _ _ 25 rfl (w.heap.size + 1 + 1) 50 i0 _ 1 24 Try.underlying25 hi hz0 hz1 hz2 rfl (by decide) _ _ _ rfl (HFo.out.alloc _) ⟨wr.heap.size + 1, 0, none⟩ 1 1 [.slice (some ⟨wr.heap.size, 0, none⟩) 1 1] rfl rfl (by have := newsS (wr.alloc (.cells #[.int .i64 (k : Int)] 3)) (.slice (some ⟨wr.heap.size, 0, none⟩) 1 1); simpa using this) (by intro y hy; simp at hy; subst hy; rfl) (by omega) (by unfold maxLen; omega) (by omega) (by simp; omega) (wr.heap.size + 1 + 1) (by simp) ?_)
        intro g5 c5 w5 hown5 hg5 hG5 _
        rw [← hVs] at hown5
        obtain ⟨a7, c7, e7, F7⟩ := HF.out.app (r := ⟨wr.heap.size, 1, [(k : Int)]⟩) HRw.out (by show V.heap.size + 1 ≤ wr.heap.size; omega) HFr.out hown5 hg5
        simp at e7
        obtain ⟨rfl, rfl⟩ := e7
        have bx5 := (HBx.out.alloc (.cells #[.slice (some ⟨wr.heap.size, 0, none⟩) 1 1] 50)).grown hg5 (fun e => by have := (HF.out.own.lt _ e.symm).1; omega)
        have c5' := bx5.cell1
        have f5 := bx5.frozen 1
        have bx6 := bx5.set1 (.slice (some ⟨g5, 0, none⟩) (k + 1) c5)
        have F8 := (F7.setLow (x := w.heap.size + 1) (by omega) 1 (.slice (some ⟨g5, 0, none⟩) (k + 1) c5)).hi (by simp [World.setCell]) (Nat.le_refl _)
        have B8 : Below V.heap.size V (w5.setCell ⟨w.heap.size + 1, 1, none⟩ (.slice (some ⟨g5, 0, none⟩) (k + 1) c5)) := by
          have h1 := (HST.out.bel.alloc HST.out.bel.size (.cells #[.int .i64 (k : Int)] 3)).alloc (by have := HST.out.bel.size; simp; omega) (.cells #[.slice (some ⟨wr.heap.size, 0, none⟩) 1 1] 50)
          have h2 := h1.grown hg5 (by simp; omega) (fun j hj => by have := (HF.out.own.lt j hj).1; omega)
          exact h2.setCell (p := ⟨w.heap.size + 1, 1, none⟩) (by show V.heap.size ≤ w.heap.size + 1; omega) _
        have HN8 : Hid (NSt V (N : Int) (some ⟨g5, 0, none⟩) (k + 1) c5 (R ++ [⟨wr.heap.size, 1, [(k : Int)]⟩]) (w5.setCell ⟨w.heap.size + 1, 1, none⟩ (.slice (some ⟨g5, 0, none⟩) (k + 1) c5))) := ⟨by rw [hVs]; exact bx6, F8, B8⟩
        clear hown5 hg5 hG5 F7 F8 B8 bx5 bx6 HF HFo HBx HST
        go_wp2
        exact ⟨⟨k + 1, c5, some ⟨g5, 0, none⟩, _, by omega, by go_num, HR2, HN8.out⟩, by simp [intOf]; omega⟩
      · obtain rfl : k = N := by omega
        have q0 := hbx.cell0
        have q1 := hbx.cell1
        have bx := W1.up hst.bel
        have c0 := bx.cell0
        have c1' := bx.cell1
        have f0 := bx.frozen 0
        have f1 := bx.frozen 1
        have hF := hst.fb
        have HF5 := hideIt ((hF.setLow (x := w.heap.size) (by omega) 0 (.int .i64 (k : Int))).setLow (x := w.heap.size) (by omega) 1 (.slice a1 k c1))
        have HB5 : Hid (Below w.heap.size w ((wr.setCell ⟨w.heap.size, 0, none⟩ (.int .i64 (k : Int))).setCell ⟨w.heap.size, 1, none⟩ (.slice a1 k c1))) := ((gV.up hst.bel).setCell (p := ⟨w.heap.size, 0, none⟩) (Nat.le_refl _) _).setCell (p := ⟨w.heap.size, 1, none⟩) (Nat.le_refl _) _
        clear hst hbx bx hF
        go_wp2
        exact bodyPost_ret (v := .tuple #[.agg #[.int .i64 (k : Int), .slice a1 k c1], .bool true]) (by simp [results, Try.results11, go_sem, c0, c1']) rfl ⟨_, k, c1, R, by rw [HO.out]; rfl, (HF5.out.lo (by omega)).hi (by simp [World.setCell]) (by simp [World.setCell]), by rw [HO.out, HR.out]; rfl, HB5.out⟩
  · have r1 : decide (1 ≤ n ∧ n ≤ 12) = false := decide_eq_false h1
    have HO := hideIt (newO_no h1)
    have HB : Hid (Below w.heap.size w (((w.alloc (.cells #[.int .i64 0, .slice none 0 0] 27)).alloc (.cells #[.int .i64 n, .slice none 0 0] 27)))) := ((Below.refl _ w).alloc (Nat.le_refl _) _).alloc (by simp) _
    have HB2 : Hid (Below w.heap.size w ((((w.alloc (.cells #[.int .i64 0, .slice none 0 0] 27)).alloc (.cells #[.int .i64 n, .slice none 0 0] 27)).setCell ⟨w.heap.size, 0, none⟩ (.int .i64 0)).setCell ⟨w.heap.size, 1, none⟩ (.slice none 0 0))) := ((HB.out).setCell (p := ⟨w.heap.size, 0, none⟩) (Nat.le_refl _) _).setCell (p := ⟨w.heap.size, 1, none⟩) (Nat.le_refl _) _
    clear h1 W1
    go_enter Try.func11, Try.ntmps11
    go_wp2_with (go_at_call 29; refine (HI.out _ _ _ _).mono ?_; rintro e w1 ⟨rfl, rfl⟩)
    refine bodyPost_ret (v := .tuple #[.agg #[.int .i64 0, .slice none 0 0], .bool false]) (by simp [results, Try.results11, go_sem]) rfl (fans_no HO.out ?_)
    first | exact HB.out | exact HB2.out
end Go.Proofs.Ytcpffonenhhfoaa
namespace Go.Proofs.Ytcpffonenhhfoaa
open Go.RowKit

set_option maxHeartbeats 1000000 in
theorem minI_any (t : List Int) (n : Nat) (a : Option Addr) (c : Nat) (hn : n ≤ 3000000) (h0 : 0 < n) (w : World) (h : Is w w.heap.size a n t) :
    Calls Try.prog 99 #[.slice a n c] w fun e w' => ∃ x, e = .returned (.int .i64 x) ∧ (x ∈ t ∧ ∀ y ∈ t, x ≤ y) ∧ w' = w := by
  obtain ⟨hlen, hrow⟩ := h
  rcases hrow with hz | ⟨b, off, rfl, hbl, hc⟩
  · omega
  · obtain ⟨f0, hf0⟩ : ∃ f, t[0]? = some f := ⟨t[0]'(by omega), List.getElem?_eq_getElem (by omega)⟩
    have d0 : decide ((n : Int) < 1) = false := decide_eq_false (by omega)
    have e0 := hc 0 f0 hf0
    rw [Nat.add_zero] at e0
    have q1 : (0 : Int) < (n : Int) := by omega
    have HC := hideIt hc
    have HS : Hid (f0 ∈ t ∧ ∀ (j : Nat) (y : Int), j < 1 → t[j]? = some y → f0 ≤ y) := ⟨List.mem_of_getElem? hf0, fun j y hj hy => by
      obtain rfl : j = 0 := by omega
      rw [hf0] at hy
      cases hy
      exact Int.le_refl _⟩
    clear hc hf0
    go_enter Try.func99, Try.ntmps99
    go_wp2
    go_loopw [3, 4] (fun m i wr => ∃ (k : Nat) (x : Int), 1 ≤ k ∧ k ≤ n ∧ i = .int .i64 (k : Int) ∧ m = .int .i64 x ∧ Hid (x ∈ t ∧ ∀ (j : Nat) (y : Int), j < k → t[j]? = some y → x ≤ y) ∧ wr = w) (fun _ i _ => n - (intOf i).toNat)
    case atStart => exact ⟨1, f0, by omega, by omega, rfl, rfl, HS, rfl⟩
    case round =>
      obtain ⟨k, x, hk1, hk, rfl, rfl, HX, hw⟩ := hrel
      have hw' := hw.symm
      subst hw'
      clear hw HS e0
      by_cases hlt : k < n
      · obtain ⟨f, hf⟩ : ∃ f, t[k]? = some f := ⟨t[k]'(by omega), List.getElem?_eq_getElem (by omega)⟩
        have e1 := HC.out k f hf
        have b1 : (0 : Int) ≤ (k : Int) := by omega
        have b2 : (k : Int) < (n : Int) := by omega
        have HX2 : Hid (min x f ∈ t ∧ ∀ (j : Nat) (y : Int), j < k + 1 → t[j]? = some y → min x f ≤ y) := by
          obtain ⟨p1, p2⟩ := HX.out
          refine ⟨?_, fun j y hj hy => ?_⟩
          · by_cases hxf : x ≤ f
            · rw [Int.min_eq_left hxf]; exact p1
            · rw [Int.min_eq_right (by omega)]; exact List.mem_of_getElem? hf
          · by_cases hjk : j = k
            · rw [hjk, hf] at hy
              cases hy
              omega
            · have := p2 j y (by omega) hy
              omega
        clear hf HX
        go_wp2
        refine ⟨⟨k + 1, min x f, by omega, by omega, by go_num, ?_, HX2, by first | trivial | rfl⟩, by simp [intOf]; omega⟩
        first | rfl | (congr 1; split <;> omega)
      · obtain rfl : k = n := by omega
        have HX2 : Hid (x ∈ t ∧ ∀ y ∈ t, x ≤ y) := ⟨HX.out.1, fun y hy => by
          obtain ⟨j, hj⟩ := List.mem_iff_getElem?.1 hy
          exact HX.out.2 j y (by have := (List.getElem?_eq_some_iff.1 hj).1; omega) hj⟩
        clear HX
        go_wp2
        go_ret
        exact ⟨x, rfl, HX2.out, rfl⟩

theorem mn_le {t : List Int} (hB : tB t = true) {y : Int} (hy : y ∈ t) : mnV t ≤ y := by
  have hp := vs_pos hB
  have hx : (vsL t)[0]? = some ((vsL t)[0]'hp) := List.getElem?_eq_getElem hp
  rw [mn_first hx]
  obtain ⟨p, hp2⟩ := List.mem_iff_getElem?.1 ((vs_mem_of hB).2 hy)
  obtain ⟨p0, p1⟩ := List.getElem?_eq_some_iff.1 hp2
  by_cases e : p = 0
  · subst e
    rw [← p1]
    exact Int.le_refl _
  · have := List.pairwise_iff_getElem.1 (vsK_asc t 12) 0 p hp p0 (by omega)
    rw [show (vsK t 12)[p]'p0 = y from p1] at this
    exact Int.le_of_lt this
theorem mn_is {t : List Int} (hB : tB t = true) {x : Int} (h : x ∈ t ∧ ∀ y ∈ t, x ≤ y) : x = mnV t := Int.le_antisymm (h.2 _ (mn_mem hB)) (mn_le hB h.1)

theorem compareTrees_any (s t : List Int) (hs : tB s = true) (ht : tB t = true) (a a' : Option Addr) (c c' : Nat) (w : World) (h : Is w w.heap.size a s.length s) (h' : Is w w.heap.size a' t.length t) :
    Calls Try.prog 72 #[.slice a s.length c, .slice a' t.length c'] w fun e w' => e = .returned (.int .i64 (cmpI (mnV s) (mnV t))) ∧ w' = w := by
  have l1 := tB_len hs
  have l2 := tB_len ht
  have H1 := hideIt ((minI_any s s.length a c (by omega) (tB_pos hs) w h).mono fun e v ⟨x, he, hx, hv⟩ => (show e = Ending.returned (.int .i64 (mnV s)) ∧ v = w from ⟨by rw [he, mn_is hs hx], hv⟩))
  have H2 := hideIt ((minI_any t t.length a' c' (by omega) (tB_pos ht) w h').mono fun e v ⟨x, he, hx, hv⟩ => (show e = Ending.returned (.int .i64 (mnV t)) ∧ v = w from ⟨by rw [he, mn_is ht hx], hv⟩))
  have HC := hideIt (cmpCompare_any (mnV s) (mnV t) w)
  clear h h'
  go_enter Try.func72, Try.ntmps72
  go_wp2_with (first | (go_at_call 99; refine H1.out.mono ?_; rintro e w1 ⟨rfl, hw⟩; have hw' := hw.symm; subst hw'; clear hw H1) | (go_at_call 99; refine H2.out.mono ?_; rintro e w1 ⟨rfl, hw⟩; have hw' := hw.symm; subst hw'; clear hw H2) | (go_at_call 64; refine HC.out.mono ?_; rintro e w1 ⟨rfl, hw⟩; have hw' := hw.symm; subst hw'; clear hw))
  go_ret
  exact ⟨rfl, rfl⟩

/-- the tour at i is right, and its least vertex is above that of the one before it -/
def AsAt (ts : List (List Int)) (i : Nat) : Prop := ∀ t, ts[i]? = some t → tB t = true ∧ ∀ j s, j + 1 = i → ts[j]? = some s → mnV s < mnV t
def asP (ts : List (List Int)) : Prop := ∀ i, AsAt ts i
theorem cmpI_ge (x y : Int) : decide (0 ≤ cmpI x y) = !decide (x < y) := by
  by_cases h : x < y
  · have := (cmpI_neg x y).2 h
    rw [decide_eq_true h]
    exact decide_eq_false (by omega)
  · have := mt (cmpI_neg x y).1 h
    rw [decide_eq_false h]
    exact decide_eq_true (by omega)

set_option maxRecDepth 100000 in
set_option maxHeartbeats 4000000 in
theorem treesAscend_any (ts : List (List Int)) (n : Nat) (a : Option Addr) (c : Nat) (hn : n ≤ 3000000) (hm : ∀ t ∈ ts, t.length ≤ 3000000) (w : World) (h : Ts w w.heap.size a n ts) :
    Calls Try.prog 44 #[.slice a n c] w fun e w' => ∃ b, e = .returned (.bool b) ∧ (b = true ↔ asP ts) ∧ Below w.heap.size w w' := by
  have hlen := h.1
  have HA := hideIt h
  clear h
  go_enter Try.func44, Try.ntmps44
  go_wp2
  go_loopw [6] (fun i wr => ∃ k : Nat, k ≤ n ∧ i = .int .i64 (k : Int) ∧ Hid (∀ j, j < k → AsAt ts j) ∧ Good w wr) (fun i _ => n - (intOf i).toNat)
  case atStart => exact ⟨0, by omega, rfl, fun j hj => by omega, Good.refl _⟩
  case round =>
    obtain ⟨k, hk, rfl, HK, hg⟩ := hrel
    by_cases hlt : k < n
    · rcases (HA.out.up hg).2 with hz | ⟨b, off, rfl, hbl, hc⟩
      · omega
      · obtain ⟨t, ht⟩ : ∃ t, ts[k]? = some t := ⟨ts[k]'(by omega), List.getElem?_eq_getElem (by omega)⟩
        obtain ⟨x, cx, e0, i0, _⟩ := hc k t ht
        have b1 : (0 : Int) ≤ (k : Int) := by omega
        have b2 : (k : Int) < (n : Int) := by omega
        have HG := hideIt (fun u (hu : Good wr u) => hg.up hu)
        have hbd := (Good.refl wr).drew
        have HE := hideIt (fun W (hW : Good wr W) => (iTourOk_any t t.length x cx (hm t (List.mem_of_getElem? ht)) W (i0.up hW)).mono fun e v ⟨he, hb⟩ => (show e = Ending.returned (.bool (tB t)) ∧ Good wr v from ⟨he, hW.up hb⟩))
        cases hB : tB t with
        | false =>
          rw [hB] at HE
          have HN : Hid (¬ asP ts) := fun hp => by have := (hp k t ht).1; rw [hB] at this; cases this
          clear hc ht i0 hB HK
          go_wp2
          refine wp_region_any (by kernel_rfl) ?_
          change wpAny _ _ _ _ _ _ _ (World.drew _)
          refine takeOp (i := 0) (v := ?_) rfl (by kernel_rfl) (by kernel_rfl) (by kernel_rfl) (fun _ _ _ h => h) (by kernel_rfl) ?_ ?_
          rotate_left
          · intro w; go_simp; try with_reducible rfl
          refine wpAny_ready (rs := [1]) (by kernel_rfl) (by simp) ?_
          refine AllReady.cons rfl (fun K hK => ?_) AllReady.nil
          go_simp
          refine hK _ _ ?_
          clear hK K
          refine wpAny_ready (rs := [2]) (by kernel_rfl) (by simp) ?_
          refine AllReady.cons rfl (fun K hK => ?_) AllReady.nil
          go_simp
          refine hK _ _ ?_
          clear hK K
          refine wpAny_ready (rs := [3]) (by kernel_rfl) (by simp) ?_
          refine AllReady.cons rfl (fun K hK => ?_) AllReady.nil
          go_simp
          refine hK _ _ ?_
          clear hK K
          refine wpAny_ready (rs := [4]) (by kernel_rfl) (by simp) ?_
          refine AllReady.cons rfl (fun K hK => ?_) AllReady.nil
          go_wp2_with (go_at_call 71; refine (HE.out _ hbd).mono ?_; rintro e w1 ⟨rfl, hg1⟩; refine Hid.out ?_)
          refine (show ∀ {p : Prop}, p → Hid p from fun h => h) ?_
          try refine hK _ _ ?_
          clear hK K
          refine wpAny_ready (rs := [5]) (by kernel_rfl) (by simp) ?_
          refine AllReady.cons rfl (fun K hK => ?_) AllReady.nil
          go_simp
          refine hK _ _ ?_
          clear hK K
          refine wpAny_ready (rs := [6]) (by kernel_rfl) (by simp) ?_
          refine AllReady.cons rfl (fun K hK => ?_) AllReady.nil
          go_simp
          refine hK _ _ ?_
          clear hK K
          refine skipOp (i := 7) rfl (by kernel_rfl) (by kernel_rfl) (by kernel_rfl) (fun _ _ _ h => h) (by kernel_rfl) ?_
          refine skipOp (i := 8) rfl (by kernel_rfl) (by kernel_rfl) (by kernel_rfl) (fun _ _ _ h => h) (by kernel_rfl) ?_
          refine skipOp (i := 9) rfl (by kernel_rfl) (by kernel_rfl) (by kernel_rfl) (fun _ _ _ h => h) (by kernel_rfl) ?_
          refine skipOp (i := 10) rfl (by kernel_rfl) (by kernel_rfl) (by kernel_rfl) (fun _ _ _ h => h) (by kernel_rfl) ?_
          refine skipOp (i := 11) rfl (by kernel_rfl) (by kernel_rfl) (by kernel_rfl) (fun _ _ _ h => h) (by kernel_rfl) ?_
          refine skipOp (i := 12) rfl (by kernel_rfl) (by kernel_rfl) (by kernel_rfl) (fun _ _ _ h => h) (by kernel_rfl) ?_
          refine skipOp (i := 13) rfl (by kernel_rfl) (by kernel_rfl) (by kernel_rfl) (fun _ _ _ h => h) (by kernel_rfl) ?_
          refine skipOp (i := 14) rfl (by kernel_rfl) (by kernel_rfl) (by kernel_rfl) (fun _ _ _ h => h) (by kernel_rfl) ?_
          refine skipOp (i := 15) rfl (by kernel_rfl) (by kernel_rfl) (by kernel_rfl) (fun _ _ _ h => h) (by kernel_rfl) ?_
          refine skipOp (i := 16) rfl (by kernel_rfl) (by kernel_rfl) (by kernel_rfl) (fun _ _ _ h => h) (by kernel_rfl) ?_
          refine skipOp (i := 17) rfl (by kernel_rfl) (by kernel_rfl) (by kernel_rfl) (fun _ _ _ h => h) (by kernel_rfl) ?_
          refine skipOp (i := 18) rfl (by kernel_rfl) (by kernel_rfl) (by kernel_rfl) (fun _ _ _ h => h) (by kernel_rfl) ?_
          refine skipOp (i := 19) rfl (by kernel_rfl) (by kernel_rfl) (by kernel_rfl) (fun _ _ _ h => h) (by kernel_rfl) ?_
          refine skipOp (i := 20) rfl (by kernel_rfl) (by kernel_rfl) (by kernel_rfl) (fun _ _ _ h => h) (by kernel_rfl) ?_
          refine skipOp (i := 21) rfl (by kernel_rfl) (by kernel_rfl) (by kernel_rfl) (fun _ _ _ h => h) (by kernel_rfl) ?_
          refine wpAny_ready (rs := [22]) (by kernel_rfl) (by simp) ?_
          refine AllReady.cons rfl (fun K hK => ?_) AllReady.nil
          go_simp
          refine hK _ _ ?_
          clear hK K
          refine wpAny_done (by kernel_rfl) ?_ _
          go_wp2
          go_ret
          exact ⟨false, rfl, ⟨fun h => (by cases h), fun h => absurd h HN.out⟩, HG.out _ hg1⟩
        | true =>
          rw [hB] at HE
          rcases k with _ | i
          · have HY : Hid (AsAt ts 0) := fun t' ht' => by
              rw [ht] at ht'
              cases ht'
              exact ⟨hB, fun j s hj => by omega⟩
            rw [Nat.add_zero] at e0
            clear hc ht i0 hB
            go_wp2
            refine wp_region_any (by kernel_rfl) ?_
            change wpAny _ _ _ _ _ _ _ (World.drew _)
            refine takeOp (i := 0) (v := ?_) rfl (by kernel_rfl) (by kernel_rfl) (by kernel_rfl) (fun _ _ _ h => h) (by kernel_rfl) ?_ ?_
            rotate_left
            · intro w; go_simp; try with_reducible rfl
            refine wpAny_ready (rs := [1]) (by kernel_rfl) (by simp) ?_
            refine AllReady.cons rfl (fun K hK => ?_) AllReady.nil
            go_simp
            refine hK _ _ ?_
            clear hK K
            refine wpAny_ready (rs := [2]) (by kernel_rfl) (by simp) ?_
            refine AllReady.cons rfl (fun K hK => ?_) AllReady.nil
            go_simp
            refine hK _ _ ?_
            clear hK K
            refine wpAny_ready (rs := [3]) (by kernel_rfl) (by simp) ?_
            refine AllReady.cons rfl (fun K hK => ?_) AllReady.nil
            go_simp
            refine hK _ _ ?_
            clear hK K
            refine wpAny_ready (rs := [4]) (by kernel_rfl) (by simp) ?_
            refine AllReady.cons rfl (fun K hK => ?_) AllReady.nil
            go_wp2_with (go_at_call 71; refine (HE.out _ hbd).mono ?_; rintro e w1 ⟨rfl, hg1⟩; refine Hid.out ?_)
            refine (show ∀ {p : Prop}, p → Hid p from fun h => h) ?_
            try refine hK _ _ ?_
            clear hK K
            refine wpAny_ready (rs := [5]) (by kernel_rfl) (by simp) ?_
            refine AllReady.cons rfl (fun K hK => ?_) AllReady.nil
            go_simp
            refine hK _ _ ?_
            clear hK K
            refine wpAny_ready (rs := [6]) (by kernel_rfl) (by simp) ?_
            refine AllReady.cons rfl (fun K hK => ?_) AllReady.nil
            go_simp
            refine hK _ _ ?_
            clear hK K
            refine wpAny_ready (rs := [7]) (by kernel_rfl) (by simp) ?_
            refine AllReady.cons rfl (fun K hK => ?_) AllReady.nil
            go_simp
            refine hK _ _ ?_
            clear hK K
            refine wpAny_ready (rs := [8]) (by kernel_rfl) (by simp) ?_
            refine AllReady.cons rfl (fun K hK => ?_) AllReady.nil
            go_simp
            refine hK _ _ ?_
            clear hK K
            refine wpAny_ready (rs := [9]) (by kernel_rfl) (by simp) ?_
            refine AllReady.cons rfl (fun K hK => ?_) AllReady.nil
            go_simp
            refine hK _ _ ?_
            clear hK K
            refine skipOp (i := 10) rfl (by kernel_rfl) (by kernel_rfl) (by kernel_rfl) (fun _ _ _ h => h) (by kernel_rfl) ?_
            refine skipOp (i := 11) rfl (by kernel_rfl) (by kernel_rfl) (by kernel_rfl) (fun _ _ _ h => h) (by kernel_rfl) ?_
            refine skipOp (i := 12) rfl (by kernel_rfl) (by kernel_rfl) (by kernel_rfl) (fun _ _ _ h => h) (by kernel_rfl) ?_
            refine skipOp (i := 13) rfl (by kernel_rfl) (by kernel_rfl) (by kernel_rfl) (fun _ _ _ h => h) (by kernel_rfl) ?_
            refine skipOp (i := 14) rfl (by kernel_rfl) (by kernel_rfl) (by kernel_rfl) (fun _ _ _ h => h) (by kernel_rfl) ?_
            refine skipOp (i := 15) rfl (by kernel_rfl) (by kernel_rfl) (by kernel_rfl) (fun _ _ _ h => h) (by kernel_rfl) ?_
            refine skipOp (i := 16) rfl (by kernel_rfl) (by kernel_rfl) (by kernel_rfl) (fun _ _ _ h => h) (by kernel_rfl) ?_
            refine skipOp (i := 17) rfl (by kernel_rfl) (by kernel_rfl) (by kernel_rfl) (fun _ _ _ h => h) (by kernel_rfl) ?_
            refine skipOp (i := 18) rfl (by kernel_rfl) (by kernel_rfl) (by kernel_rfl) (fun _ _ _ h => h) (by kernel_rfl) ?_
            refine skipOp (i := 19) rfl (by kernel_rfl) (by kernel_rfl) (by kernel_rfl) (fun _ _ _ h => h) (by kernel_rfl) ?_
            refine skipOp (i := 20) rfl (by kernel_rfl) (by kernel_rfl) (by kernel_rfl) (fun _ _ _ h => h) (by kernel_rfl) ?_
            refine wpAny_ready (rs := [21]) (by kernel_rfl) (by simp) ?_
            refine AllReady.cons rfl (fun K hK => ?_) AllReady.nil
            go_simp
            refine hK _ _ ?_
            clear hK K
            refine wpAny_ready (rs := [22]) (by kernel_rfl) (by simp) ?_
            refine AllReady.cons rfl (fun K hK => ?_) AllReady.nil
            go_simp
            refine hK _ _ ?_
            clear hK K
            refine wpAny_done (by kernel_rfl) ?_ _
            go_wp2
            exact ⟨⟨1, by omega, by go_num, fun j hj => by
              obtain rfl : j = 0 := by omega
              exact HY.out, HG.out _ hg1⟩, by simp [intOf]; omega⟩
          · obtain ⟨s, hs⟩ : ∃ s, ts[i]? = some s := ⟨ts[i]'(by omega), List.getElem?_eq_getElem (by omega)⟩
            obtain ⟨y, cy, e1, i1, _⟩ := hc i s hs
            have hBs := (HK.out i (by omega) s hs).1
            have HL := hideIt (fun W (hW : Good wr W) => (compareTrees_any s t hBs hB y x cy cx W (i1.up hW) (i0.up hW)).mono fun e v ⟨he, hb⟩ => (show e = Ending.returned (.int .i64 (cmpI (mnV s) (mnV t))) ∧ Good wr v from ⟨he, by rw [hb]; exact hW⟩))
            have HC : Hid (∀ u, Good wr u → u.cell? ⟨b, off + (i + 1), none⟩ = some (.slice x t.length cx) ∧ u.cell? ⟨b, off + i, none⟩ = some (.slice y s.length cy)) := fun u hu => ⟨by rw [hu.cell hbl]; exact e0, by rw [hu.cell hbl]; exact e1⟩
            have hS0 := HC.out _ hbd
            have ek : ((i + 1 : Nat) : Int) = (i : Int) + 1 := by omega
            rw [ek] at b1 b2
            have b3 : (0 : Int) ≤ (i : Int) := by omega
            have b4 : (i : Int) < (n : Int) := by omega
            have tn : ((i : Int) + 1).toNat = i + 1 := by omega
            have d0 : decide ((0 : Int) < (i : Int) + 1) = true := decide_eq_true (by omega)
            have hw1 : IntKind.i64.wrap (i : Int) = (i : Int) := by rw [IntKind.wrap_i64]; omega
            rw [ek]
            have dc := cmpI_ge (mnV s) (mnV t)
            by_cases hL : mnV s < mnV t
            · rw [decide_eq_true hL] at dc
              have HY : Hid (AsAt ts (i + 1)) := fun t' ht' => by
                rw [ht] at ht'
                cases ht'
                exact ⟨hB, fun j s' hj hs' => by
                  obtain rfl : j = i := by omega
                  rw [hs] at hs'
                  cases hs'
                  exact hL⟩
              clear ek hc ht hs i0 i1 hB hBs hL e0 e1
              generalize cmpI (mnV s) (mnV t) = cv at HL dc
              go_wp2
              go_region_held3 (fun u => u.cell? ⟨b, off + (i + 1), none⟩ = some (.slice x t.length cx) ∧ u.cell? ⟨b, off + i, none⟩ = some (.slice y s.length cy))
                (first | assumption)
                (first
                | (go_at_call 71; refine (HE.out _ hbd).mono ?_; rintro e w1 ⟨rfl, hg1⟩; have hS1 := HC.out _ hg1)
                | (go_at_call 72; refine (HL.out _ hg1).mono ?_; rintro e w2 ⟨rfl, hg2⟩; have hS2 := HC.out _ hg2))
              all_goals
                go_wp2
                exact ⟨⟨i + 2, by omega, by go_num, fun j hj => by
                  by_cases hji : j = i + 1
                  · subst hji; exact HY.out
                  · exact HK.out j (by omega), HG.out _ hg2⟩, by simp [intOf]; omega⟩
            · rw [decide_eq_false hL] at dc
              have HN : Hid (¬ asP ts) := fun hp => hL ((hp (i + 1) t ht).2 i s rfl hs)
              clear ek hc ht hs i0 i1 hB hBs hL e0 e1
              generalize cmpI (mnV s) (mnV t) = cv at HL dc
              go_wp2
              go_region_held3 (fun u => u.cell? ⟨b, off + (i + 1), none⟩ = some (.slice x t.length cx) ∧ u.cell? ⟨b, off + i, none⟩ = some (.slice y s.length cy))
                (first | assumption)
                (first
                | (go_at_call 71; refine (HE.out _ hbd).mono ?_; rintro e w1 ⟨rfl, hg1⟩; have hS1 := HC.out _ hg1)
                | (go_at_call 72; refine (HL.out _ hg1).mono ?_; rintro e w2 ⟨rfl, hg2⟩; have hS2 := HC.out _ hg2))
              all_goals
                go_wp2
                go_ret
                exact ⟨false, rfl, ⟨fun h => (by cases h), fun h => absurd h HN.out⟩, HG.out _ hg2⟩
    · obtain rfl : k = n := by omega
      have HY : Hid (asP ts) := fun i t ht => HK.out i (by have := (List.getElem?_eq_some_iff.1 ht).1; omega) t ht
      clear HK
      go_wp2
      go_ret
      exact ⟨true, rfl, ⟨fun _ => HY.out, fun _ => rfl⟩, hg⟩
end Go.Proofs.Ytcpffonenhhfoaa
namespace Go.Proofs
open Go.Shelf
def Try.laysFT_ren : Go.Shelf.Ren := ⟨fun | 6 => 80 | 15 => 62 | 14 => 103 | 28 => 96 | 29 => 97 | 20 => 120 | 21 => 121 | 22 => 122 | 23 => 123 | 24 => 124 | 25 => 125 | 26 => 126 | 27 => 127 | 46 => 132 | 47 => 106 | 48 => 107 | 49 => 133 | 50 => 134 | 57 => 136 | n => n, fun | 22 => 25 | 24 => 50 | 25 => 86 | 3 => 3 | 39 => 82 | 0 => 0 | 53 => 103 | 55 => 105 | 4 => 4 | 46 => 96 | 45 => 95 | 50 => 100 | 5 => 5 | 9 => 9 | 66 => 114 | 70 => 118 | 76 => 131 | 77 => 132 | n => n, fun | n => n⟩
theorem Try.laysFT : Go.Proofs.SlLaysF.n6 Try.prog Try.laysFT_ren := {
  mixed := by kernel_rfl
  f6 := ⟨Try.f80.name, by decide, Try.func80.trans (congrArg some (by kernel_rfl))⟩
  f14 := ⟨Try.f103.name, by decide, Try.func103.trans (congrArg some (by kernel_rfl))⟩
  f15 := Try.func62.trans (congrArg some (by kernel_rfl))
  f20 := ⟨Try.f120.name, by decide, Try.func120.trans (congrArg some (by kernel_rfl))⟩
  f21 := ⟨Try.f121.name, by decide, Try.func121.trans (congrArg some (by kernel_rfl))⟩
  f22 := ⟨Try.f122.name, by decide, Try.func122.trans (congrArg some (by kernel_rfl))⟩
  f23 := ⟨Try.f123.name, by decide, Try.func123.trans (congrArg some (by kernel_rfl))⟩
  f24 := ⟨Try.f124.name, by decide, Try.func124.trans (congrArg some (by kernel_rfl))⟩
  f25 := ⟨Try.f125.name, by decide, Try.func125.trans (congrArg some (by kernel_rfl))⟩
  f26 := ⟨Try.f126.name, by decide, Try.func126.trans (congrArg some (by kernel_rfl))⟩
  f27 := ⟨Try.f127.name, by decide, Try.func127.trans (congrArg some (by kernel_rfl))⟩
  f28 := Try.func96.trans (congrArg some (by kernel_rfl))
  f29 := Try.func97.trans (congrArg some (by kernel_rfl))
  f46 := ⟨Try.f132.name, by decide, Try.func132.trans (congrArg some (by kernel_rfl))⟩
  f47 := Try.func106.trans (congrArg some (by kernel_rfl))
  f48 := Try.func107.trans (congrArg some (by kernel_rfl))
  f49 := ⟨Try.f133.name, by decide, Try.func133.trans (congrArg some (by kernel_rfl))⟩
  f50 := ⟨Try.f134.name, by decide, Try.func134.trans (congrArg some (by kernel_rfl))⟩
  f57 := ⟨Try.f136.name, by decide, Try.func136.trans (congrArg some (by kernel_rfl))⟩
  t0 := Try.underlying0
  a0 := Try.isAgg0
  z0 := Try.sizeOf0
  v0 := Try.zeroValue0
  t3 := Try.underlying3
  a3 := Try.isAgg3
  z3 := Try.sizeOf3
  v3 := Try.zeroValue3
  t4 := Try.underlying4
  a4 := Try.isAgg4
  z4 := Try.sizeOf4
  v4 := Try.zeroValue4
  t5 := Try.underlying5
  a5 := Try.isAgg5
  z5 := Try.sizeOf5
  v5 := Try.zeroValue5
  t9 := Try.underlying9
  a9 := Try.isAgg9
  z9 := Try.sizeOf9
  v9 := Try.zeroValue9
  t22 := Try.underlying25
  a22 := Try.isAgg25
  z22 := Try.sizeOf25
  v22 := Try.zeroValue25
  a24 := Try.isAgg50
  z24 := Try.sizeOf50
  t25 := Try.underlying86
  a25 := Try.isAgg86
  z25 := Try.sizeOf86
  v25 := Try.zeroValue86
  t39 := Try.underlying82
  a39 := Try.isAgg82
  z39 := Try.sizeOf82
  v39 := Try.zeroValue82
  t45 := Try.underlying95
  a45 := Try.isAgg95
  z45 := Try.sizeOf95
  v45 := Try.zeroValue95
  t46 := Try.underlying96
  a46 := Try.isAgg96
  z46 := Try.sizeOf96
  v46 := Try.zeroValue96
  t50 := Try.underlying100
  a50 := Try.isAgg100
  z50 := Try.sizeOf100
  v50 := Try.zeroValue100
  t53 := Try.underlying103
  a53 := Try.isAgg103
  z53 := Try.sizeOf103
  v53 := Try.zeroValue103
  t55 := Try.underlying105
  a55 := Try.isAgg105
  z55 := Try.sizeOf105
  v55 := Try.zeroValue105
  t66 := Try.underlying114
  a66 := Try.isAgg114
  z66 := Try.sizeOf114
  v66 := Try.zeroValue114
  t70 := Try.underlying118
  a70 := Try.isAgg118
  z70 := Try.sizeOf118
  v70 := Try.zeroValue118
  t76 := Try.underlying131
  a76 := Try.isAgg131
  z76 := Try.sizeOf131
  v76 := Try.zeroValue131
  t77 := Try.underlying132
  a77 := Try.isAgg132
  z77 := Try.sizeOf132
  v77 := Try.zeroValue132 }
end Go.Proofs
namespace Go.Proofs.Ytcpffonenhhfoaa
open Go.RowKit Go.Sort Go.Lib

theorem heap_putA {α : Type} [Inhabited α] {enc : α → Value} {w : World} {g n : Nat} {os : Array Obj} {cur : Array Value} {e : TypeId} {fr : Nat × Nat} (d : Array α) (hb : w.heap[g]? = some (.cells cur e fr)) :
    (grow (putRow enc (Sort.ahead w n) g 0 d) os).heap[g]? = some (.cells (putCells enc 0 d cur) e fr) := by
  have hg : g < w.heap.size := (Array.getElem?_eq_some_iff.1 hb).1
  rw [heap_grow_old _ _ (by simpa using hg)]
  simp [putRow, mapBlock, Sort.ahead, Array.getElem?_modify, hb, onCells]
theorem grown_putA {α : Type} [Inhabited α] {enc : α → Value} {w : World} {g n : Nat} {os : Array Obj} (d : Array α) : w.grownBy (grow (putRow enc (Sort.ahead w n) g 0 d) os) (some g) := by
  refine ⟨rfl, rfl, rfl, by simp, fun k hk hne => ?_⟩
  rw [heap_grow_old _ _ (by simpa using hk)]
  have : g ≠ k := fun e => hne (by rw [e])
  simp [putRow, mapBlock, Sort.ahead, Array.getElem?_modify, this]
theorem take_putA {α : Type} [Inhabited α] {enc : α → Value} (cur : Array Value) (ts : List α) (h : ts.length ≤ cur.size) : (putCells enc 0 ts.toArray cur).toList.take ts.length = ts.map enc := by
  apply List.ext_getElem?
  intro j
  by_cases hj : j < ts.length
  · rw [List.getElem?_take_of_lt hj, Array.getElem?_toList]
    simp [putCells, hj, show j < cur.size by omega]
  · rw [List.getElem?_take_eq_none (by omega), List.getElem?_eq_none (by simp; omega)]

/-- a row of R -/
abbrev RwOf (R : List Rw) : Type := {r : Rw // r ∈ R}
def cfT {R : List Rw} (x y : RwOf R) : Int := cmpI (mnV x.1.t) (mnV y.1.t)
theorem ltT {R : List Rw} (x y : RwOf R) : ltOf cfT x y = decide (mnV x.1.t < mnV y.1.t) := by
  unfold ltOf cfT
  rw [Bool.eq_iff_iff, decide_eq_true_iff, decide_eq_true_iff, cmpI_neg]
theorem swoT {R : List Rw} : SWO (ltOf (cfT (R := R))) where
  irrefl x := by rw [ltT]; exact decide_eq_false (by omega)
  trans x y z h1 h2 := by
    rw [ltT] at *
    exact decide_eq_true (by have := of_decide_eq_true h1; have := of_decide_eq_true h2; omega)
  ntrans x y z h1 h2 := by
    rw [ltT] at *
    exact decide_eq_false (by have := of_decide_eq_false h1; have := of_decide_eq_false h2; omega)

set_option maxHeartbeats 1000000 in
theorem sortFT_any (R : List Rw) (hB : ∀ r ∈ R, tB r.t = true) (hne : R.Pairwise fun r s => mnV r.t ≠ mnV s.t) (lo n : Nat) (a : Option Addr) (c : Nat) (h0 : 0 < n) (hn : n ≤ 3000000) (w : World) (h : FB w lo w.heap.size a n c R) :
    Calls Try.prog 80 #[.slice a n c, .func (.func 72) #[] #[]] w fun e w' => e = .returned (.tuple #[]) ∧ ∃ R', FB w' lo w'.heap.size a n c R' ∧ R'.Perm R ∧ (rts R').Pairwise (fun s t => mnV s < mnV t) ∧ w.grownBy w' (Value.slice a n c).ownBlock := by
  have hlen := h.len
  rcases h.own.2 with ⟨_, h1⟩ | ⟨g, cap, cur, hv, hg, hgb, r1, r2, r3, r4⟩
  · omega
  · simp at hv
    obtain ⟨rfl, rfl⟩ := hv
    have hgl : g < w.heap.size := (Array.getElem?_eq_some_iff.1 hgb).1
    haveI : Inhabited (RwOf R) := ⟨⟨R[0]'(by omega), List.getElem_mem _⟩⟩
    have hH : Holds (fun x : RwOf R => x.1.hdr) w g 0 R.attach.toArray := fun j hj => by
      have hj' : j < R.length := by simpa using hj
      refine ⟨?_, h.own.frozenAt (0 + j)⟩
      rw [Nat.zero_add, h.own.cellAt j (by omega), rhs_at (List.getElem?_eq_getElem hj'), getElem!_pos _ j hj]
      simp
    have hkeep : ∀ (r : Rw) (m : Nat) (os : Array Obj) (dk : Array (RwOf R)), RwB w r → RwB (sortWorld (fun x : RwOf R => x.1.hdr) w g 0 m dk os) r := fun r m os dk hr => hr.grown (grown_putA dk) (fun e => own_ne h.own hr (by simpa using e))
    have hcmp : CmpLays1 Try.prog 72 #[] (fun x : RwOf R => x.1.hdr) cfT g 0 R.attach.toArray.size w := fun m os dk _ x y => by
      have hx := hkeep x.1 m os dk (h.ins x.1 x.2).1
      have hy := hkeep y.1 m os dk (h.ins y.1 y.2).1
      refine (compareTrees_any x.1.t y.1.t (hB x.1 x.2) (hB y.1 y.2) _ _ x.1.cp y.1.cp _ hx.is hy.is).mono ?_
      rintro e w' ⟨he, hw⟩
      exact ⟨he, 0, #[], by rw [hw, grow_empty]; rfl⟩
    have hc := Any.slices_SortFunc_total Try.laysFT (fun x : RwOf R => x.1.hdr) (fun _ => rfl) cfT swoT 72 #[] g 0 c R.attach.toArray w (enters_of Try.func72 (by kernel_rfl) rfl) hcmp hH hgl (by simp; omega) (fun x y h1 h2 => by
      rw [ltT] at h1 h2
      have h1 := of_decide_eq_false h1
      have h2 := of_decide_eq_false h2
      refine Classical.byContradiction fun hxy => ?_
      obtain ⟨i, hi⟩ := List.mem_iff_getElem?.1 x.2
      obtain ⟨j, hj⟩ := List.mem_iff_getElem?.1 y.2
      obtain ⟨i0, i1⟩ := List.getElem?_eq_some_iff.1 hi
      obtain ⟨j0, j1⟩ := List.getElem?_eq_some_iff.1 hj
      rcases Nat.lt_trichotomy i j with hlt | hlt | hlt
      · have := List.pairwise_iff_getElem.1 hne i j i0 j0 hlt
        rw [i1, j1] at this
        omega
      · subst hlt
        exact hxy (Subtype.ext (i1.symm.trans j1))
      · have := List.pairwise_iff_getElem.1 hne j i j0 i0 hlt
        rw [i1, j1] at this
        omega)
    change Calls Try.prog 80 _ _ _ at hc
    rw [show R.attach.toArray.size = n by simp; omega] at hc
    refine hc.mono ?_
    rintro e w' ⟨rfl, q, os, rfl⟩
    obtain ⟨L, hL⟩ : ∃ L, (R.attach.toArray.toList.mergeSort fun x y => !(ltOf cfT) y x) = L := ⟨_, rfl⟩
    have hLp : L.Perm R.attach := by rw [← hL]; simpa using List.mergeSort_perm R.attach fun x y => !(ltOf cfT) y x
    have hLs : L.Pairwise fun x y => (!(ltOf cfT) y x) = true := by
      rw [← hL]
      refine List.pairwise_mergeSort (fun a b c h1 h2 => ?_) (fun a b => ?_) _
      · simp only [ltT, Bool.not_eq_true', decide_eq_false_iff_not] at h1 h2 ⊢
        omega
      · simp only [ltT, Bool.or_eq_true, Bool.not_eq_true', decide_eq_false_iff_not]
        omega
    rw [hL]
    have hp : (L.map Subtype.val).Perm R := by
      have h3 := hLp.map Subtype.val
      rwa [List.attach_map_subtype_val] at h3
    have hLl : L.length = n := by rw [hLp.length_eq, List.length_attach]; exact hlen
    have hrow : (L.map fun x : RwOf R => x.1.hdr) = rhs (L.map Subtype.val) := by simp [rhs]
    have hown : (sortWorld (fun x : RwOf R => x.1.hdr) w g 0 q L.toArray os).ownsRow lo 50 1 (.slice (some ⟨g, 0, none⟩) n c) n (rhs (L.map Subtype.val)) := by
      refine ⟨by rw [rhs_len, List.length_map]; omega, .inr ⟨g, c, _, rfl, hg, heap_putA _ hgb, r1, r2, by simp [putCells, r3], ?_⟩⟩
      have := take_putA (enc := fun x : RwOf R => x.1.hdr) cur L (by rw [hLl, r3]; omega)
      rw [hLl, hrow] at this
      rw [Nat.mul_one]
      exact this
    refine ⟨rfl, L.map Subtype.val, ⟨by rw [List.length_map]; exact hLl, hown, fun x hx => (hown.lt x hx).2, Nat.le_refl _, fun r hr => ?_, ?_⟩, hp, ?_, grown_putA _⟩
    · have h3 := h.ins r (hp.mem_iff.1 hr)
      have h4 := hkeep r q os L.toArray h3.1
      exact ⟨h4, h3.2.1, h4.lt⟩
    · exact hp.symm.pairwise h.nod fun h => h.symm
    · have hd : (L.map Subtype.val).Pairwise fun r s => mnV r.t ≠ mnV s.t := hp.symm.pairwise hne fun h => h.symm
      unfold rts
      rw [List.pairwise_map]
      have h5 : (L.map Subtype.val).Pairwise fun r s => mnV r.t ≤ mnV s.t := by
        rw [List.pairwise_map]
        refine hLs.imp fun h => ?_
        simp only [ltT, Bool.not_eq_true', decide_eq_false_iff_not] at h
        omega
      exact (h5.and hd).imp fun ⟨h6, h7⟩ => by omega
end Go.Proofs.Ytcpffonenhhfoaa
