/- A forest that is cut: pure. The edges of a forest as the two sides make them: pure. A forest linked by an edge, and cut there again: what TreeOf, SizeOf, EdgesOf say of it. Pure. The law's own look at a forest's parts. The program's HeightOf. Levels of a right web: what hangs together on a level hangs together below it; pure. -/
import Derived.Test.YtpfkfbmghddepaaGreatKTl8
import Derived.Test.YtpfkfbmghddepaaGreatKWb9
import Derived.Test.YtpfkfbmghddepaaGreatKInG6
import Derived.Test.YtpfkfbmghddepaaGreatKSVerts
import Derived.Test.YtpfkfbmghddepaaGreatKFB7
import Derived.Test.YtpfkfbmghddepaaGreatKIFa9
import Derived.Test.YtpfkfbmghddepaaGreatKILb9
namespace Go.Proofs.YtpfkfbmghddepaaGreat
open Go.RowKit

theorem cut_sp {t A B : List Int} {u v : Int} (hS : spO t u v = (A, B, true)) : ∃ p c, SpIs t A B p c ∧ v ∈ t := by
  obtain ⟨hB, k, h1, h2⟩ := cut_in hS
  obtain ⟨A', B', p, c, e, _, hs, _⟩ := spl_is hB h1 h2
  rw [hS] at e
  simp only [Prod.mk.injEq, and_true] at e
  obtain ⟨rfl, rfl⟩ := e
  exact ⟨p, c, hs, List.mem_of_getElem? h2⟩
theorem cut_fq {N : Nat} {ts : List (List Int)} (hP : FP (N : Int) ts) {i : Nat} {t A B : List Int} {u v : Int} (hi : ts[i]? = some t) (hS : spO t u v = (A, B, true)) : FQ (N : Int) (woK ts [i] ts.length ++ [A, B]) := by
  obtain ⟨p, c, hs, _⟩ := cut_sp hS
  exact (hP.q.perm (wo_one_all hi).symm).split hs
end Go.Proofs.YtpfkfbmghddepaaGreat
namespace Go.Proofs.YtpfkfbmghddepaaGreat
open Go.RowKit

/-- a list that has all of another, which tells each once, and is no longer, is it in some order -/
theorem perm_card {α : Type} [DecidableEq α] : ∀ {m l : List α}, m.Nodup → (∀ x ∈ m, x ∈ l) → l.length ≤ m.length → m.Perm l
  | [], l, _, _, h => by
    have : l = [] := List.eq_nil_of_length_eq_zero (by simpa using h)
    rw [this]
  | x :: m, l, hn, hs, hl => by
    have hn' := List.nodup_cons.1 hn
    have hx : x ∈ l := hs x (by simp)
    have h1 := perm_card (m := m) (l := l.erase x) hn'.2 (fun y hy => by
      have hne : y ≠ x := fun e => hn'.1 (e ▸ hy)
      exact (List.mem_erase_of_ne hne).2 (hs y (by simp [hy]))) (by
      have := List.length_erase_of_mem hx
      have := List.length_pos_of_mem hx
      simp only [List.length_cons] at hl
      omega)
    exact (h1.cons x).trans (List.perm_cons_erase hx).symm
/-- the steps of the first k, from the lesser end to the greater -/
def upK (t : List Int) : Nat → List EdgeV
  | 0 => []
  | i + 1 => upK t i ++ match t[i]?, t[i + 1]? with | some a, some b => if a < b then [(a, b)] else [] | _, _ => []
/-- .. and the other way, told by the lesser end too -/
def dnK (t : List Int) : Nat → List EdgeV
  | 0 => []
  | i + 1 => dnK t i ++ match t[i]?, t[i + 1]? with | some a, some b => if b < a then [(b, a)] else [] | _, _ => []
def up (t : List Int) : List EdgeV := upK t (t.length - 1)
theorem upK_yes {t : List Int} {i : Nat} {a b : Int} (h1 : t[i]? = some a) (h2 : t[i + 1]? = some b) (hl : a < b) : upK t (i + 1) = upK t i ++ [(a, b)] := by rw [upK, h1, h2]; simp [hl]
theorem upK_no {t : List Int} {i : Nat} {a b : Int} (h1 : t[i]? = some a) (h2 : t[i + 1]? = some b) (hl : ¬ a < b) : upK t (i + 1) = upK t i := by rw [upK, h1, h2]; simp [hl]
theorem upK_mem (t : List Int) (k : Nat) (e : EdgeV) : e ∈ upK t k ↔ ∃ i, i < k ∧ t[i]? = some e.1 ∧ t[i + 1]? = some e.2 ∧ e.1 < e.2 := by
  induction k with
  | zero => simp [upK]
  | succ k ih =>
    rw [upK, List.mem_append, ih]
    constructor
    · rintro (⟨i, h1, h2⟩ | h)
      · exact ⟨i, by omega, h2⟩
      · refine ⟨k, by omega, ?_⟩
        cases h1 : t[k]? with
        | none => rw [h1] at h; simp at h
        | some a =>
          cases h2 : t[k + 1]? with
          | none => rw [h1, h2] at h; simp at h
          | some b =>
            rw [h1, h2] at h
            by_cases hl : a < b
            · simp [hl] at h
              subst h
              exact ⟨rfl, rfl, hl⟩
            · simp [hl] at h
    · rintro ⟨i, h1, h2, h3, h4⟩
      by_cases hi : i = k
      · subst hi
        right
        rw [h2, h3]
        simp [h4]
      · exact .inl ⟨i, by omega, h2, h3, h4⟩
theorem dnK_mem (t : List Int) (k : Nat) (e : EdgeV) : e ∈ dnK t k ↔ ∃ i, i < k ∧ t[i]? = some e.2 ∧ t[i + 1]? = some e.1 ∧ e.1 < e.2 := by
  induction k with
  | zero => simp [dnK]
  | succ k ih =>
    rw [dnK, List.mem_append, ih]
    constructor
    · rintro (⟨i, h1, h2⟩ | h)
      · exact ⟨i, by omega, h2⟩
      · refine ⟨k, by omega, ?_⟩
        cases h1 : t[k]? with
        | none => rw [h1] at h; simp at h
        | some a =>
          cases h2 : t[k + 1]? with
          | none => rw [h1, h2] at h; simp at h
          | some b =>
            rw [h1, h2] at h
            by_cases hl : b < a
            · simp [hl] at h
              subst h
              exact ⟨rfl, rfl, hl⟩
            · simp [hl] at h
    · rintro ⟨i, h1, h2, h3, h4⟩
      by_cases hi : i = k
      · subst hi
        right
        rw [h2, h3]
        simp [h4]
      · exact .inl ⟨i, by omega, h2, h3, h4⟩
theorem ud_len {t : List Int} (hB : tB t = true) (k : Nat) (hk : k + 1 ≤ t.length) : (upK t k).length + (dnK t k).length = k := by
  induction k with
  | zero => simp [upK, dnK]
  | succ k ih =>
    have h1 : t[k]? = some t[k] := List.getElem?_eq_getElem (by omega)
    have h2 : t[k + 1]? = some t[k + 1] := List.getElem?_eq_getElem (by omega)
    have hne : t[k] ≠ t[k + 1] := fun e => no_stay (x := t[k]) hB h1 (by rw [h2, e])
    have ih := ih (by omega)
    rw [upK, dnK, h1, h2]
    by_cases hl : t[k] < t[k + 1]
    · have : ¬ t[k + 1] < t[k] := by omega
      simp [hl, this]
      omega
    · have : t[k + 1] < t[k] := by omega
      simp [hl, this]
      omega
theorem up_mem (t : List Int) (e : EdgeV) : e ∈ up t ↔ e ∈ tE t := by
  unfold up
  rw [upK_mem, tE_mem]
  constructor
  · rintro ⟨i, _, h⟩; exact ⟨i, h⟩
  · rintro ⟨i, h1, h2, h3⟩; exact ⟨i, by have := (List.getElem?_eq_some_iff.1 h2).1; omega, h1, h2, h3⟩
theorem up_perm {t : List Int} (hB : tB t = true) : (tE t).Perm (up t) := by
  have hp := tB_pos hB
  have hc := tE_count hB
  have hu := ud_len hB (t.length - 1) (by omega)
  have hd := nd_sub (b := dnK t (t.length - 1)) (eK_nodup t (t.length - 1)) fun e he => by
    obtain ⟨i, h1, h2, h3⟩ := (tE_mem t e).1 he
    obtain ⟨j, hj⟩ := go_back hB h1 h2
    refine (dnK_mem t _ e).2 ⟨j, ?_⟩
    unfold goP at hj
    cases q1 : t[j]? with
    | none => rw [q1] at hj; simp at hj
    | some a =>
      cases q2 : t[j + 1]? with
      | none => rw [q1, q2] at hj; simp at hj
      | some b =>
        rw [q1, q2] at hj
        simp at hj
        exact ⟨by have := (List.getElem?_eq_some_iff.1 q2).1; omega, by rw [hj.1], by rw [hj.2], h3⟩
  have hd : (tE t).length ≤ (dnK t (t.length - 1)).length := hd
  exact perm_card (eK_nodup t _) (fun e he => (up_mem t e).2 he) (by show (upK t (t.length - 1)).length ≤ _; show _ ≤ (tE t).length; omega)
/-- all of them -/
def allU (ts : List (List Int)) : List EdgeV := ts.flatMap up
theorem allU_snoc (ts : List (List Int)) (t : List Int) : allU (ts ++ [t]) = allU ts ++ up t := by simp [allU]
theorem allU_perm {ts : List (List Int)} (h : ∀ t ∈ ts, tB t = true) : (allE ts).Perm (allU ts) := by
  induction ts with
  | nil => exact List.Perm.refl _
  | cons t r ih =>
    show (tE t ++ allE r).Perm (up t ++ allU r)
    exact (up_perm (h t (by simp))).append (ih fun s hs => h s (by simp [hs]))
theorem allU_nodup {N : Int} {ts : List (List Int)} (h : FQ N ts) : (allU ts).Nodup := (allU_perm fun t ht => (h.1 t ht).1).nodup_iff.1 (allE_nodup h.2.1)
/-- put in one behind the other -/
def putF : List EdgeV → List EdgeV → List EdgeV
  | es, [] => es
  | es, e :: r => putF (putE es e) r
theorem putF_snoc (es r : List EdgeV) (e : EdgeV) : putF es (r ++ [e]) = putE (putF es r) e := by
  induction r generalizing es with
  | nil => rfl
  | cons x r ih => exact ih (putE es x)
theorem putE_perm {es : List EdgeV} {e : EdgeV} (hn : e ∉ es) : (putE es e).Perm (es ++ [e]) := by
  have h1 : ∀ l : List EdgeV, e ∉ l → (l.filter (fun d => lt d e) ++ l.filter (fun d => lt e d)).Perm l := fun l => by
    induction l with
    | nil => intro _; exact List.Perm.refl _
    | cons x l ih =>
      intro hx
      have hne : e ≠ x := fun h => hx (by simp [h])
      have ih := ih fun h => hx (by simp [h])
      cases hl : lt x e with
      | true =>
        rw [List.filter_cons_of_pos (p := fun d => lt d e) hl, List.filter_cons_of_neg (p := fun d => lt e d) (by rw [lt_asymm' hl]; simp)]
        exact ih.cons x
      | false =>
        have h2 : lt e x = true := lt_total' hl (Ne.symm hne)
        rw [List.filter_cons_of_neg (p := fun d => lt d e) (by rw [hl]; simp), List.filter_cons_of_pos (p := fun d => lt e d) h2]
        exact List.perm_middle.trans (ih.cons x)
  have h2 := h1 es hn
  unfold putE
  have h3 : (es.filter (fun d => lt d e) ++ [e] ++ es.filter (fun d => lt e d)).Perm (es.filter (fun d => lt d e) ++ es.filter (fun d => lt e d) ++ [e]) := by
    rw [List.append_assoc, List.append_assoc]
    exact List.perm_append_comm.append_left _
  exact h3.trans (h2.append_right [e])
theorem putE_asc {es : List EdgeV} {e : EdgeV} (h : es.Pairwise fun d e => lt d e = true) : (putE es e).Pairwise fun d e => lt d e = true := by
  unfold putE
  rw [List.pairwise_append, List.pairwise_append]
  refine ⟨⟨h.filter _, by simp, fun d hd x hx => ?_⟩, h.filter _, fun d hd x hx => ?_⟩
  · simp at hx
    subst hx
    exact (List.mem_filter.1 hd).2
  · have hx2 := (List.mem_filter.1 hx).2
    rcases List.mem_append.1 hd with hd | hd
    · exact lt_trans' (List.mem_filter.1 hd).2 hx2
    · simp at hd
      subst hd
      exact hx2
theorem putF_is {l : List EdgeV} (hn : l.Nodup) : (putF [] l).Perm l ∧ (putF [] l).Pairwise fun d e => lt d e = true := by
  suffices H : ∀ k, (putF [] (l.take k)).Perm (l.take k) ∧ (putF [] (l.take k)).Pairwise fun d e => lt d e = true by
    have := H l.length
    rwa [List.take_length] at this
  intro k
  induction k with
  | zero => simp [putF]
  | succ k ih =>
    cases hk : l[k]? with
    | none =>
      have : l.take (k + 1) = l.take k := by rw [List.take_add_one, hk]; simp
      rw [this]
      exact ih
    | some e =>
      rw [take_snocF l k e hk, putF_snoc]
      have hne : e ∉ putF [] (l.take k) := fun hm => by
        have hm2 := ih.1.mem_iff.1 hm
        obtain ⟨j, hj⟩ := List.mem_iff_getElem?.1 hm2
        have hjk : j < k := by have := (List.getElem?_eq_some_iff.1 hj).1; rw [List.length_take] at this; omega
        rw [List.getElem?_take_of_lt hjk] at hj
        obtain ⟨p0, p1⟩ := List.getElem?_eq_some_iff.1 hj
        obtain ⟨q0, q1⟩ := List.getElem?_eq_some_iff.1 hk
        exact List.pairwise_iff_getElem.1 hn j k p0 q0 hjk (p1.trans q1.symm)
      exact ⟨(putE_perm hne).trans (ih.1.append_right [e]), putE_asc ih.2⟩
theorem putF_srt {l : List EdgeV} (hn : l.Nodup) : putF [] l = srtE l := by
  obtain ⟨h1, h2⟩ := putF_is hn
  have h3 : (srtE l).Pairwise fun d e => lt d e = true := by
    rw [List.pairwise_iff_getElem]
    intro i j hi hj hij
    exact srtE_asc hn i j _ _ hij (List.getElem?_eq_getElem hi) (List.getElem?_eq_getElem hj)
  exact List.Perm.eq_of_pairwise (fun a b _ _ h4 h5 => by rw [lt_asymm' h4] at h5; cases h5) h2 h3 (h1.trans (srtE_perm l).symm)
theorem putF_len {l : List EdgeV} (hn : l.Nodup) (k : Nat) : (putF [] (l.take k)).length ≤ k := by
  have h1 := (putF_is (l := l.take k) (hn.sublist (List.take_sublist k l))).1.length_eq
  rw [h1]
  exact List.length_take_le k l
/-- what EdgesOf answers -/
noncomputable def edgesO (N : Int) (ts : List (List Int)) : List EdgeV := @ite _ (FP N ts) (Classical.propDecidable _) (srtE (allU ts)) []
theorem edgesO_yes {N : Int} {ts : List (List Int)} (h : FP N ts) : edgesO N ts = srtE (allU ts) := by unfold edgesO; rw [if_pos h]
theorem edgesO_no {N : Int} {ts : List (List Int)} (h : ¬ FP N ts) : edgesO N ts = [] := by unfold edgesO; rw [if_neg h]
end Go.Proofs.YtpfkfbmghddepaaGreat
namespace Go.Proofs.YtpfkfbmghddepaaGreat
open Go.RowKit

theorem edge_cut {N : Nat} {ts : List (List Int)} (hP : FP (N : Int) ts) {e : EdgeV} (he : e ∈ edgesO (N : Int) ts) : ∃ gs, cutO (N : Int) ts e = some gs ∧ FP (N : Int) gs := by
  rw [edgesO_yes hP, srtE_mem, ← (allU_perm fun t ht => (hP.q.1 t ht).1).mem_iff, allE_mem] at he
  obtain ⟨t, ht, hE⟩ := he
  have hB := (hP.q.1 t ht).1
  obtain ⟨q1, q2, _⟩ := tE_ends hB e hE
  obtain ⟨m1, m2⟩ := tE_in e hE
  obtain ⟨i, h1, h2, h3⟩ := (tE_mem t e).1 hE
  obtain ⟨A, B, p, c, s1, _, _, _⟩ := spl_is hB h1 h2
  obtain ⟨k, hk⟩ := List.mem_iff_getElem?.1 ht
  have hN1 := hP.1
  have hN2 := hP.2.1
  have hlt := (hP.q.1 t ht).2 _ m2
  have hEB : eB (N : Int) e = true := by unfold eB; exact decide_eq_true ⟨by omega, by omega, q1, q2, hlt⟩
  exact ⟨_, cutO_yes hP hEB hk m1 s1, FP_srt (by omega) (by omega) (cut_fq hP hk s1)⟩
theorem link_fp {N : Nat} {ts gs : List (List Int)} {e : EdgeV} (h : linkO (N : Int) ts e = some gs) : FP (N : Int) gs := by
  by_cases hc : FP (N : Int) ts ∧ eB (N : Int) e = true ∧ trI ts e.1 ≠ trI ts e.2
  · obtain ⟨hP, hE, hne⟩ := hc
    obtain ⟨i, j, a, b, hi, hj, hu, hv⟩ := edge_at hP hE
    have hij : i ≠ j := fun e1 => hne (by subst e1; rw [trI_of hP.q hi hu, trI_of hP.q hj hv])
    obtain ⟨J, hJ, L⟩ := lk_is hP hi hj hij hu hv
    rw [linkO_yes hP hE hi hj hu hv hij hJ] at h
    cases h
    exact L.ok
  · rw [linkO_no hc] at h
    cases h
/-- all that the law asks -/
structure Law8 (N : Nat) (f : List (List Int)) (e : EdgeV) (g h : List (List Int)) : Prop where
  link : linkO (N : Int) f e = some g
  cut : cutO (N : Int) g e = some h
  gok : FP (N : Int) g
  hok : FP (N : Int) h
  len : g.length + 1 = f.length
  size : sizeO (N : Int) f e.1 + sizeO (N : Int) f e.2 = sizeO (N : Int) g e.1
  tree : treeO (N : Int) g e.1 = treeO (N : Int) g e.2
  edge : e ∈ edgesO (N : Int) g
  more : (edgesO (N : Int) g).length = (edgesO (N : Int) f).length + 1
  part : ∀ x m, Prt h x m ↔ Prt f x m
theorem vs_join {a b J : List Int} (hap : Apart a b) (hm : ∀ x, x ∈ J ↔ x ∈ a ∨ x ∈ b) : (vsL J).length = (vsL a).length + (vsL b).length := by
  have h1 : (vsL a ++ vsL b).Nodup := by
    rw [List.nodup_append]
    refine ⟨vs_nodup a, vs_nodup b, fun y hy z hz e => ?_⟩
    subst e
    exact hap y ((vsL_mem a y).1 hy).2 ((vsL_mem b y).1 hz).2
  have h2 : ∀ x, x ∈ vsL J ↔ x ∈ vsL a ++ vsL b := fun x => by
    rw [List.mem_append, vsL_mem, vsL_mem, vsL_mem, hm]
    constructor
    · rintro ⟨p, q | q⟩
      · exact .inl ⟨p, q⟩
      · exact .inr ⟨p, q⟩
    · rintro (⟨p, q⟩ | ⟨p, q⟩)
      · exact ⟨p, .inl q⟩
      · exact ⟨p, .inr q⟩
  have h3 := nd_sub (b := vsL a ++ vsL b) (vs_nodup J) fun x hx => (h2 x).1 hx
  have h4 := nd_sub (b := vsL J) h1 fun x hx => (h2 x).2 hx
  rw [List.length_append] at h3 h4
  omega
theorem law8 {N : Nat} {f : List (List Int)} {e : EdgeV} (hP : FP (N : Int) f) (hE : eB (N : Int) e = true) (hne : trI f e.1 ≠ trI f e.2) : ∃ g h, Law8 N f e g h := by
  obtain ⟨i, j, a, b, hi, hj, hu, hv⟩ := edge_at hP hE
  have t1 := trI_of hP.q hi hu
  have t2 := trI_of hP.q hj hv
  have hij : i ≠ j := fun e1 => hne (by subst e1; rw [t1, t2])
  obtain ⟨J, hJ, L⟩ := lk_is hP hi hj hij hu hv
  obtain ⟨k, hk⟩ := L.there
  obtain ⟨r, hs, hok, hpt⟩ := lk_cut hP L hk
  have hqo := hP.q.perm L.old
  have hap : Apart a b := (List.pairwise_cons.1 hqo.2.1).1 b (by simp)
  have huJ : e.1 ∈ J := (L.jo.mem _).2 (.inl hu)
  have hvJ : e.2 ∈ J := (L.jo.mem _).2 (.inr hv)
  have g1 := trI_of L.ok.q hk huJ
  have g2 := trI_of L.ok.q hk hvJ
  have hB : ∀ t ∈ srtK (woK f [i, j] f.length ++ [J]) N, tB t = true := fun t ht => (L.ok.q.1 t ht).1
  have hlt := (eB_range hE).2.1
  refine ⟨_, _, linkO_yes hP hE hi hj hu hv hij hJ, cutO_yes L.ok hE hk huJ hs, L.ok, hok, L.len, ?_, ?_, ?_, ?_, hpt⟩
  · rw [sizeO_yes (by rw [treeO_yes hP, t1]) hi, sizeO_yes (by rw [treeO_yes hP, t2]) hj, sizeO_yes (by rw [treeO_yes L.ok, g1]) hk, vs_join hap L.jo.mem]
    omega
  · rw [treeO_yes L.ok, treeO_yes L.ok, g1, g2]
  · rw [edgesO_yes L.ok, srtE_mem, ← (allU_perm hB).mem_iff, allE_mem]
    exact ⟨J, List.mem_of_getElem? hk, jo_edge L.jo hlt⟩
  · rw [edgesO_yes L.ok, edgesO_yes hP, srtE_len, srtE_len, ← (allU_perm hB).length_eq, ← (allU_perm fun t ht => (hP.q.1 t ht).1).length_eq]
    have hW : ∀ t ∈ woK f [i, j] f.length, tB t = true := fun t ht => (hqo.1 t (by simp [ht])).1
    have ha := (hqo.1 a (by simp)).1
    have hb := (hqo.1 b (by simp)).1
    have h1 := allE_join ha hb hW L.jo
    have h2 : (allE (srtK (woK f [i, j] f.length ++ [J]) N)).length = (allE (woK f [i, j] f.length ++ [J])).length := (L.perm.flatMap_right _).length_eq
    have h3 : (allE f).length = (allE (a :: b :: woK f [i, j] f.length)).length := (L.old.flatMap_right _).length_eq
    rw [h2, h1, h3]
end Go.Proofs.YtpfkfbmghddepaaGreat
namespace Go.Proofs.YtpfkfbmghddepaaGreat
open Go.RowKit

/-- for each vertex the least one of its tree -/
def PL (N : Nat) (ts : List (List Int)) (L : List Int) : Prop := L.length = N ∧ ∀ x : Nat, x < N → ∃ y, L[x]? = some y ∧ Prt ts (x : Int) y
theorem PL.same {N : Nat} {f h : List (List Int)} {L M : List Int} (hf : PL N f L) (hh : PL N h M) (hP : FP (N : Int) f) (hi : ∀ x m, Prt h x m ↔ Prt f x m) : M = L := by
  refine List.ext_getElem? fun x => ?_
  by_cases hx : x < N
  · obtain ⟨y, h1, h2⟩ := hf.2 x hx
    obtain ⟨z, h3, h4⟩ := hh.2 x hx
    rw [h1, h3, Prt.uniq hP.q ((hi _ _).1 h4) h2]
  · rw [List.getElem?_eq_none (by rw [hh.1]; omega), List.getElem?_eq_none (by rw [hf.1]; omega)]
/-- of the first i tours -/
def PA (N : Nat) (ts : List (List Int)) (i : Nat) (xs : List Value) : Prop := xs.length = N ∧ ∀ j t, j < i → ts[j]? = some t → ∀ x : Nat, (x : Int) ∈ t → xs[x]? = some (.int .i64 (mnV t))
/-- and of the first k vertices of tour t -/
def PB (N : Nat) (ts : List (List Int)) (i : Nat) (t : List Int) (k : Nat) (xs : List Value) : Prop := PA N ts i xs ∧ ∀ q (x : Nat), q < k → (vsL t)[q]? = some (x : Int) → xs[x]? = some (.int .i64 (mnV t))
theorem PB.step {N : Nat} {ts : List (List Int)} (hq : FQ (N : Int) ts) {i k x : Nat} {t : List Int} {xs : List Value} (hi : ts[i]? = some t) (h : PB N ts i t k xs) (hx : (vsL t)[k]? = some (x : Int)) (hxN : x < N) : PB N ts i t (k + 1) (xs.set x (.int .i64 (mnV t))) := by
  have hxt : (x : Int) ∈ t := ((vsL_mem t _).1 (List.mem_of_getElem? hx)).2
  refine ⟨⟨by rw [List.length_set]; exact h.1.1, fun j s hj hs y hy => ?_⟩, fun q y hqk hy => ?_⟩
  · have hne : x ≠ y := fun e => by
      subst e
      have := hq.place hi hs hxt hy
      omega
    rw [List.getElem?_set_ne hne]
    exact h.1.2 j s hj hs y hy
  · by_cases e : x = y
    · subst e
      rw [List.getElem?_set_self (by rw [h.1.1]; exact hxN)]
    · rw [List.getElem?_set_ne e]
      refine h.2 q y ?_ hy
      have : q ≠ k := fun e2 => by
        subst e2
        rw [hx] at hy
        simp at hy
        omega
      omega
theorem PB.done {N : Nat} {ts : List (List Int)} {i k : Nat} {t : List Int} {xs : List Value} (hi : ts[i]? = some t) (h : PB N ts i t k xs) (hk : (vsL t).length ≤ k) (hv : ∀ x ∈ t, vB x = true) : PA N ts (i + 1) xs := by
  refine ⟨h.1.1, fun j s hj hs y hy => ?_⟩
  by_cases e : j = i
  · subst e
    rw [hi] at hs
    cases hs
    obtain ⟨q, hq⟩ := List.mem_iff_getElem?.1 ((vsL_mem t _).2 ⟨hv _ hy, hy⟩)
    exact h.2 q y (by have := (List.getElem?_eq_some_iff.1 hq).1; omega) hq
  · exact h.1.2 j s (by omega) hs y hy
theorem PA.done {N : Nat} {ts : List (List Int)} {xs : List Value} (hq : FQ (N : Int) ts) (h : PA N ts ts.length xs) : ∃ L, ic L = xs ∧ PL N ts L := by
  have hall : ∀ x : Nat, x < N → ∃ y, xs[x]? = some (.int .i64 y) ∧ Prt ts (x : Int) y := fun x hx => by
    obtain ⟨t, ht, hxt⟩ := hq.cover (x := (x : Int)) (by omega) (by omega)
    obtain ⟨j, hj⟩ := List.mem_iff_getElem?.1 ht
    exact ⟨mnV t, h.2 j t (List.getElem?_eq_some_iff.1 hj).1 hj x hxt, t, ht, hxt, rfl⟩
  refine ⟨xs.map intOf, ?_, by rw [List.length_map]; exact h.1, fun x hx => ?_⟩
  · refine List.ext_getElem? fun x => ?_
    by_cases hx : x < N
    · obtain ⟨y, h1, _⟩ := hall x hx
      simp [ic, h1, intOf]
    · rw [List.getElem?_eq_none (by rw [ic_len, List.length_map, h.1]; omega), List.getElem?_eq_none (by rw [h.1]; omega)]
  · obtain ⟨y, h1, h2⟩ := hall x hx
    exact ⟨y, by simp [h1, intOf], h2⟩

theorem vs_le12 (t : List Int) : (vsL t).length ≤ 12 := by
  have h := nd_sub (b := (List.range 12).map fun j : Nat => (j : Int)) (vs_nodup t) fun y hy => by
    have h1 := of_decide_eq_true (show decide (0 ≤ y ∧ y < 12) = true from ((vsL_mem t y).1 hy).1)
    exact List.mem_map.2 ⟨y.toNat, List.mem_range.2 (by omega), by omega⟩
  simpa using h
/-- where the look stands -/
structure PSt8 (w : World) (N : Nat) (a : Option Addr) (m c : Nat) (xs : List Value) (u : World) : Prop where
  box : Box7 u w.heap.size 57 (.int .i64 (N : Int)) (.slice a m c)
  own : u.ownsRow w.heap.size 3 1 (.slice (some ⟨w.heap.size + 1, 0, none⟩) N N) N xs
  bel : Below w.heap.size w u
theorem PSt8.up {w : World} {N : Nat} {a : Option Addr} {m c : Nat} {xs : List Value} {u v : World} (h : PSt8 w N a m c xs u) (hb : Below u.heap.size u v) : PSt8 w N a m c xs v :=
  ⟨h.box.up hb, own_up h.own hb, h.bel.trans (hb.mono h.bel.size)⟩
theorem PSt8.set {w : World} {N : Nat} {a : Option Addr} {m c : Nat} {xs : List Value} {u : World} (h : PSt8 w N a m c xs u) (x : Nat) (v : Value) : PSt8 w N a m c (xs.set x v) (u.setCell ⟨w.heap.size + 1, x, none⟩ v) :=
  ⟨h.box.setOther v (by omega), (h.own.stored x v).1, h.bel.setCell (p := ⟨w.heap.size + 1, x, none⟩) (by show w.heap.size ≤ w.heap.size + 1; omega) v⟩
set_option maxRecDepth 100000 in
set_option maxHeartbeats 4000000 in
theorem parts_any (N : Nat) (ts : List (List Int)) (hP : FP (N : Int) ts) (m : Nat) (a : Option Addr) (c : Nat) (w : World) (h : Ts w w.heap.size a m ts) :
    Calls Tryz.prog 34 #[.agg #[.int .i64 (N : Int), .slice a m c]] w fun e w' => ∃ g L, e = .returned (.slice (some ⟨g, 0, none⟩) N N) ∧ Hid (PL N ts L) ∧ Is w' w'.heap.size (some ⟨g, 0, none⟩) N L ∧ Below w.heap.size w w' := by
  obtain ⟨i0, hi, hz0, hz1, hz2⟩ := info_parts info3i
  have hN12 : N ≤ 12 := by have := hP.2.1; omega
  have hm12 : m ≤ 12 := by have := hP.2.2.1; have := h.1; omega
  have hmk : ∀ u : World, (Instr.makeSlice 44 (.int .i64 (N : Int)) (.int .i64 (N : Int))).run Tryz.prog u =
      .ok (.slice (some ⟨u.heap.size, 0, none⟩) N N) (u.alloc (.cells (madeCells #[.int .i64 0] N) 3)) := fun u => by
    have h := run_make (P := Tryz.prog) u 44 3 i0 _ Tryz.underlying44 hi hz0 .i64 .i64 (N : Int) (N : Int) (by omega) (by omega) (by rw [hz2]; omega) (by omega)
    rw [Int.toNat_natCast] at h
    simpa [hz1, Value.cells] using h
  have HP := hideIt hP
  have HA := hideIt h
  have S0 : PSt8 w N a m c (madeCells #[.int .i64 0] N).toList ((w.alloc (.cells #[.int .i64 (N : Int), .slice a m c] 57)).alloc (.cells (madeCells #[.int .i64 0] N) 3)) := by
    have ho := World.ownsRow_lit (base := w.heap.size) (e := 3) (size := 1) (w.alloc (.cells #[.int .i64 (N : Int), .slice a m c] 57)) (madeCells #[.int .i64 0] N) N (by simp) (by unfold maxLen; omega) (by simp [madeCells])
    rw [show (w.alloc (.cells #[.int .i64 (N : Int), .slice a m c] 57)).heap.size = w.heap.size + 1 by simp] at ho
    exact ⟨(Box7.new w _ _ _ _ rfl).alloc _, ho, ((Below.refl _ _).alloc (Nat.le_refl _) _).alloc (by simp) _⟩
  have HA0 : Hid (PA N ts 0 (madeCells #[.int .i64 0] N).toList) := ⟨by have := S0.own.1; omega, fun j t hj => by omega⟩
  clear h hP
  go_enter Tryz.func34, Tryz.ntmps34
  go_wp2
  go_loopw [4] (fun i wr => ∃ (k : Nat) (xs : List Value), k ≤ m ∧ i = .int .i64 (k : Int) ∧ Hid (PA N ts k xs) ∧ PSt8 w N a m c xs wr) (fun i _ => m - (intOf i).toNat)
  case atStart => exact ⟨0, _, by omega, rfl, HA0, S0⟩
  case round =>
    obtain ⟨k, xs, hk, rfl, HK, hst⟩ := hrel
    clear S0 HA0 hmk
    have q0 := hst.box.cell0
    have q1 := hst.box.cell1
    by_cases hlt : k < m
    · have HA1 := HA.out.up hst.bel
      rcases HA1.2 with hz | ⟨b, off, rfl, hbl, hc⟩
      · omega
      · obtain ⟨t, ht⟩ : ∃ t, ts[k]? = some t := ⟨ts[k]'(by have := HA1.1; omega), List.getElem?_eq_getElem (by have := HA1.1; omega)⟩
        obtain ⟨a2, c2, e0, hI, _⟩ := hc k t ht
        have htm := List.mem_of_getElem? ht
        have hB := (HP.out.q.1 t htm).1
        have b1 : (0 : Int) ≤ (k : Int) := by omega
        have b2 : (k : Int) < (m : Int) := by omega
        have HV := hideIt (sVertsOf_any t t.length a2 c2 (by have := tB_len hB; omega) wr hI)
        have HT := hideIt ht
        have HTB := hideIt hB
        have HTN := hideIt (HP.out.q.1 t htm).2
        have HST := hideIt hst
        obtain ⟨nt, hnt⟩ : ∃ nt, nt = t.length := ⟨_, rfl⟩
        rw [← hnt] at e0 HV
        clear hc ht hI htm hB HA1 hnt hst
        go_wp2_with (go_at_call 82; refine HV.out.mono ?_; rintro e w2 ⟨av, mv, cv, rfl, hov, hb2⟩; refine Hid.out ?_)
        refine (show ∀ {p : Prop}, p → Hid p from fun h => h) ?_
        have hmv : (vsL t).length = mv := by have := hov.1; rw [ic_len] at this; omega
        have HMV := hideIt hmv
        have hmv0 : 0 < mv := by
          have h1 := List.length_pos_of_mem ((vsL_mem t _).2 ⟨((tB_iff t).1 HTB.out).1 _ (mn_mem HTB.out), mn_mem HTB.out⟩)
          omega
        have hmv12 : mv ≤ 12 := by rw [← hmv]; exact vs_le12 t
        obtain ⟨gv, cv2, hform, _, _⟩ := hov.form (by omega)
        simp at hform
        obtain ⟨rfl, rfl⟩ := hform
        obtain ⟨z, hzz⟩ : ∃ z, z = mnV t := ⟨_, rfl⟩
        have hz0' : (ic (vsL t))[0]? = some (.int .i64 z) := by
          cases hv : vsL t with
          | nil => rw [hv] at hmv; simp at hmv; omega
          | cons y r =>
            have : mnV t = y := by unfold mnV; rw [hv]; rfl
            simp [ic, hzz, this]
        have S2 := hideIt (HST.out.up hb2)
        have gvl : w.heap.size + 1 < gv := by
          have h1 := (hov.lt gv rfl).1
          have h2 := (HST.out.own.lt (w.heap.size + 1) rfl).2
          omega
        have hwr : w.heap.size + 2 ≤ wr.heap.size := (HST.out.own.lt (w.heap.size + 1) rfl).2
        have HOV := hideIt hov
        have HZ0 := hideIt hz0'
        have HZZ := hideIt hzz
        have HB0 : Hid (PB N ts k t 0 xs) := ⟨HK.out, fun q x hq => by omega⟩
        clear HV hb2 HST HK e0 q0 q1 hov hz0' hzz hmv
        go_wp2
        go_loopw [6] (fun i wr => ∃ (j : Nat) (xs : List Value), j ≤ mv ∧ i = .int .i64 (j : Int) ∧ Hid (PB N ts k t j xs) ∧ Hid (PSt8 w N (some ⟨b, off, none⟩) m c xs wr) ∧ Hid (wr.ownsRow (w.heap.size + 2) 3 1 (.slice (some ⟨gv, 0, none⟩) mv cv) mv (ic (vsL t)))) (fun i _ => mv - (intOf i).toNat)
        case atStart => exact ⟨0, xs, by omega, rfl, HB0, S2, own_mono HOV.out hwr⟩
        case round =>
          obtain ⟨j, ys, hj, rfl, HJ, HS, HO⟩ := hrel
          clear S2 HB0 HOV
          have q0 := HS.out.box.cell0
          have q1 := HS.out.box.cell1
          by_cases hjl : j < mv
          · obtain ⟨x, hx⟩ : ∃ x, (vsL t)[j]? = some x := ⟨(vsL t)[j]'(by rw [HMV.out]; omega), List.getElem?_eq_getElem (by rw [HMV.out]; omega)⟩
            have hxm := (vsL_mem t x).1 (List.mem_of_getElem? hx)
            have hx0 := of_decide_eq_true (show decide (0 ≤ x ∧ x < 12) = true from hxm.1)
            have hxN := HTN.out x hxm.2
            obtain ⟨xn, rfl⟩ : ∃ xn : Nat, x = (xn : Int) := ⟨x.toNat, by omega⟩
            have e0 : wr.cell? ⟨gv, j, none⟩ = some (.int .i64 (xn : Int)) := (HO.out.cellAt j (by omega)).trans (ic_at hx)
            have e1 : wr.cell? ⟨gv, 0, none⟩ = some (.int .i64 z) := (HO.out.cellAt 0 (by omega)).trans HZ0.out
            have b3 : (0 : Int) ≤ (j : Int) := by omega
            have b4 : (j : Int) < (mv : Int) := by omega
            have b5 : (0 : Int) ≤ (xn : Int) := by omega
            have b6 : (0 : Int) < (mv : Int) := by omega
            have hxN' : xn < N := by omega
            have d1 : decide ((xn : Int) < (N : Int)) = true := decide_eq_true (by omega)
            have hyl : ys.length = N := HJ.out.1.1
            have f0 := HS.out.own.frozenAt xn
            have x0 : wr.cell? ⟨w.heap.size + 1, xn, none⟩ = some (ys[xn]'(by omega)) := by rw [HS.out.own.cellAt xn (by omega)]; exact List.getElem?_eq_getElem (by omega)
            have HJ2 := hideIt (HJ.out.step HP.out.q HT.out hx hxN')
            have HS2 : Hid (∀ n, PSt8 w N (some ⟨b, off, none⟩) m c (ys.set xn (.int .i64 z)) ((wr.drewN n).setCell ⟨w.heap.size + 1, xn, none⟩ (.int .i64 z))) := fun n => PSt8.set (HS.out.up (below_drewN (Below.refl _ _) n)) xn (.int .i64 z)
            have HO2 : Hid (∀ n, ((wr.drewN n).setCell ⟨w.heap.size + 1, xn, none⟩ (.int .i64 z)).ownsRow (w.heap.size + 2) 3 1 (.slice (some ⟨gv, 0, none⟩) mv cv) mv (ic (vsL t))) := fun n => World.ownsRow.kept (own_up HO.out (below_drewN (Below.refl _ _) n)) (grown_set _ (w.heap.size + 1) xn (.int .i64 z)) (.inr fun e => by simp [Value.ownBlock] at e; omega)
            rw [← HZZ.out] at HJ2
            obtain ⟨y0, hy0⟩ : ∃ y0, wr.cell? ⟨w.heap.size + 1, xn, none⟩ = some y0 := ⟨_, x0⟩
            clear hx hxm hx0 hxN HJ HS HO x0 hyl
            go_wp2
            go_quiet (fail)
            go_wp2
            go_region
            all_goals
              go_wp2
              exact ⟨⟨j + 1, _, by omega, by go_num, HJ2, HS2.out _, HO2.out _⟩, by simp [intOf]; omega⟩
          · obtain rfl : j = mv := by omega
            have HA2 := hideIt (HJ.out.done HT.out (by rw [HMV.out]; omega) ((tB_iff t).1 HTB.out).1)
            clear HJ HO
            have hs := HS.out
            go_wp2
            exact ⟨⟨k + 1, ys, by omega, by go_num, HA2, hs⟩, by simp [intOf]; omega⟩
    · obtain rfl : k = m := by omega
      have hl : ts.length = k := HA.out.1
      obtain ⟨L, hL, hPL⟩ := PA.done HP.out.q (hl ▸ HK.out)
      subst hL
      have HR : Hid (Is wr wr.heap.size (some ⟨w.heap.size + 1, 0, none⟩) N L ∧ Below w.heap.size w wr) := ⟨Is_of_own hst.own, hst.bel⟩
      have HPL := hideIt hPL
      clear hPL HK hst hl
      go_wp2
      go_ret
      exact ⟨_, L, rfl, HPL, HR.out.1, HR.out.2⟩
end Go.Proofs.YtpfkfbmghddepaaGreat
namespace Go.Proofs.YtpfkfbmghddepaaGreat
open Go.RowKit

set_option maxRecDepth 100000 in
set_option maxHeartbeats 4000000 in
theorem iHeightOf_any (N : Int) (ls : List Ld) (n : Nat) (a : Option Addr) (c : Nat) (hn : n ≤ 1048576) (w : World) (h : Ls w w.heap.size a n ls) :
    Calls Tryz.prog 30 #[.agg #[.int .i64 N, .slice a n c]] w fun e w' => e = .returned (.int .i64 (htO N ls)) ∧ Below w.heap.size w w' := by
  have hfa : Good w (wW w N a n c) := wW_good w N a n c
  have HO := iWebOk_any N ls n a c hn _ (h.up hfa)
  have hlen := h.1
  have HR := hideIt (h.up hfa)
  by_cases hW : WOk N ls
  · rw [wB_yes hW] at HO
    have HO := hideIt HO
    have HV := hideIt (htO_yes hW)
    clear h hW
    go_enter Tryz.func30, Tryz.ntmps30
    go_wp2_with (go_at_call 19; refine HO.out.mono ?_; rintro e w1 ⟨rfl, hb1⟩; refine Hid.out ?_)
    refine (show ∀ {p : Prop}, p → Hid p from fun h => h) ?_
    have G1 : Good (wW w N a n c) w1 := hb1
    rw [wW_size] at hb1
    obtain ⟨cw0, cw1⟩ := wW_cells hb1
    clear HO hb1
    go_wp2
    go_loopw [3, 11] (fun m i wr => ∃ (k : Nat) (y : Int), k ≤ n ∧ i = .int .i64 (k : Int) ∧ m = .int .i64 y ∧ Hid (htK (ls.drop k) y = htO N ls) ∧ Good (wW w N a n c) wr) (fun _ i _ => n - (intOf i).toNat)
    case atStart => exact ⟨0, -1, by omega, rfl, rfl, by show _ = _; rw [HV.out]; rfl, G1⟩
    case round =>
      obtain ⟨k, y, hk, rfl, rfl, HK, hg⟩ := hrel
      clear G1 cw0 cw1
      by_cases hlt : k < n
      · obtain ⟨b, off, x, rfl, hbl, hxk, hat⟩ := (HR.out.up hg).at hlt
        have e0 := hat.ca
        have e1 := hat.cb
        have e2 := hat.cl
        have e3 := hat.ct
        have b1 : (0 : Int) ≤ (k : Int) := by omega
        have b2 : (k : Int) < (n : Int) := by omega
        have HGa := hideIt (hg.alloc (.cells #[.int .i64 x.a, .int .i64 x.b, .int .i64 x.l, .bool x.t] 52))
        have hd := HK.out
        rw [htK_drop hxk] at hd
        by_cases hyl : y < x.l
        · rw [if_pos hyl] at hd
          have HK2 : Hid (htK (ls.drop (k + 1)) x.l = htO N ls) := hd
          have hm : max y x.l = x.l := by omega
          clear HK hd hxk hat hg
          go_wp2
          exact ⟨⟨k + 1, _, by omega, by go_num, by first | rfl | (congr 1; omega), HK2, HGa.out⟩, by simp [intOf]; omega⟩
        · rw [if_neg hyl] at hd
          have HK2 : Hid (htK (ls.drop (k + 1)) y = htO N ls) := hd
          have hm : max y x.l = y := by omega
          clear HK hd hxk hat hg
          go_wp2
          exact ⟨⟨k + 1, _, by omega, by go_num, by first | rfl | (congr 1; omega), HK2, HGa.out⟩, by simp [intOf]; omega⟩
      · obtain rfl : k = n := by omega
        have HY : Hid (y = htO N ls) := by
          show _ = _
          have := HK.out
          rw [List.drop_eq_nil_of_le (by omega), htK] at this
          exact this
        clear HK
        go_wp2
        go_ret
        exact ⟨by rw [← HY.out]; rfl, hfa.up hg⟩
  · rw [wB_no hW] at HO
    have HO := hideIt HO
    have HV := hideIt (htO_no hW)
    clear h hW
    go_enter Tryz.func30, Tryz.ntmps30
    go_wp2_with (go_at_call 19; refine HO.out.mono ?_; rintro e w1 ⟨rfl, hb1⟩)
    go_ret
    exact ⟨by rw [HV.out]; rfl, hfa.up hb1⟩
end Go.Proofs.YtpfkfbmghddepaaGreat
namespace Go.Proofs.YtpfkfbmghddepaaGreat
open Go.RowKit

/-- one label for what hangs together -/
def LabC (es : List EdgeV) (nn : Nat) (L : List Int) : Prop := L.length = nn ∧ ∀ x y : Nat, x < nn → y < nn → Conn es (x : Int) (y : Int) → L[x]? = L[y]?
theorem LabC.more {es fs : List EdgeV} {nn : Nat} {L : List Int} (h : LabC es nn L) (hs : ∀ e ∈ fs, e ∈ es) : LabC fs nn L := ⟨h.1, fun x y hx hy hc => h.2 x y hx hy (hc.more hs)⟩
theorem labC_lb {nn : Nat} {ls : List Ld} (h : WOk (nn : Int) ls) : LabC (fE ls 0) nn (lbO (nn : Int) ls) := by
  obtain ⟨ts, hts, hall⟩ := h.trees 0 (by omega)
  have e0 : ((0 : Nat) : Int) = 0 := rfl
  rw [e0] at hts hall
  rw [lbO_yes h hts]
  refine ⟨labW_len _ _, fun x y hx hy hc => ?_⟩
  obtain ⟨t, ht, hxt⟩ := hall.cov (x : Int) (by omega) (by omega)
  rw [labW_at hall hx ht hxt, labW_at hall hy ht ((hall.conn t ht _ hxt _).2 hc)]
theorem labC_pl {es : List EdgeV} {nn : Nat} {ts : List (List Int)} {L : List Int} (h : FtAll es nn ts) (hL : PL nn ts L) : LabC es nn L := by
  refine ⟨hL.1, fun x y hx hy hc => ?_⟩
  obtain ⟨m, h1, t, ht, hxt, rfl⟩ := hL.2 x hx
  obtain ⟨k, h2, h3⟩ := hL.2 y hy
  rw [h1, h2, Prt.uniq h.fp.q h3 ⟨t, ht, (h.conn t ht _ hxt _).2 hc, rfl⟩]
/-- the least of a vertex's tree has its label -/
theorem pl_at {es : List EdgeV} {nn : Nat} {ts : List (List Int)} {L M : List Int} (h : FtAll es nn ts) (hL : PL nn ts L) (hM : LabC es nn M) {v : Nat} (hv : v < nn) : ∃ (y : Nat) (z : Int), y < nn ∧ L[v]? = some (y : Int) ∧ M[v]? = some z ∧ M[y]? = some z := by
  obtain ⟨m, h1, t, ht, hxt, rfl⟩ := hL.2 v hv
  have hr := mn_range (h.fp.q.1 t ht).1 (h.fp.q.1 t ht).2
  have hmt : mnV t ∈ t := List.mem_of_head? (h.mn t ht)
  have hc := (h.conn t ht _ hxt _).1 hmt
  have e : ((mnV t).toNat : Int) = mnV t := by omega
  have hz : M[v]? = some (M[v]'(by rw [hM.1]; exact hv)) := List.getElem?_eq_getElem _
  refine ⟨(mnV t).toNat, M[v]'(by rw [hM.1]; exact hv), by omega, by rw [e]; exact h1, hz, ?_⟩
  rw [← hM.2 v (mnV t).toNat hv (by omega) (by rw [e]; exact hc)]
  exact hz
theorem fE_up {ls : List Ld} {i : Int} : ∀ e ∈ fE ls (i + 1), e ∈ fE ls i := by
  intro e he
  unfold fE at he ⊢
  obtain ⟨x, hx, rfl⟩ := List.mem_map.1 he
  obtain ⟨h1, h2⟩ := List.mem_filter.1 hx
  refine List.mem_map.2 ⟨x, List.mem_filter.2 ⟨h1, ?_⟩, rfl⟩
  unfold fP at h2 ⊢
  simp only [Bool.and_eq_true, decide_eq_true_eq] at h2 ⊢
  exact ⟨h2.1, by omega⟩
/-- a level's trees are small -/
theorem size_ok {nn : Nat} {ls : List Ld} (h : WOk (nn : Int) ls) {i : Nat} (hi : i < 5) {ts : List (List Int)} (hts : ftK (fE ls (i : Int)) nn nn = some ts) (v : Int) : 1 < sizeO (nn : Int) ts v → sizeO (nn : Int) ts v ≤ ((nn / 2 ^ i : Nat) : Int) := by
  intro h1
  obtain ⟨us, hus, hsz, _⟩ := h.2.2 i hi
  rw [Int.toNat_natCast] at hus hsz
  rw [hts] at hus
  cases hus
  rcases treeO_cases (nn : Int) ts v with ⟨k, t, _, hk, _, e⟩ | ⟨_, e⟩
  · rw [sizeO_yes e hk] at h1 ⊢
    have := hsz t (List.mem_of_getElem? hk) (by omega)
    omega
  · rw [sizeO_no e] at h1
    omega
end Go.Proofs.YtpfkfbmghddepaaGreat
