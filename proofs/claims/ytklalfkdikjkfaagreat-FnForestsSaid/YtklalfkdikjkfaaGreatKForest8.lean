/- The specification's JoinTours. The specification's Link. The specification's SplitTour. The specification's SplitTour. The specification's Cut. A drawn right forest. -/
import Derived.Test.YtklalfkdikjkfaaGreatKSRer
import Derived.Test.YtklalfkdikjkfaaGreatKSplit
import Derived.Test.YtklalfkdikjkfaaGreatKE6
import Derived.Test.YtklalfkdikjkfaaGreatKDraw7
import Derived.Maps.AppendAt
import Derived.Test.YtklalfkdikjkfaaGreatKCmp6
import Derived.Test.YtklalfkdikjkfaaGreatKNew7
import Derived.Deep.DeepCutAuto
import Derived.Deep.RegionHeld3
namespace Go.Proofs.YtklalfkdikjkfaaGreat
open Go.RowKit

theorem com_swap (us vs : List Int) : comB us vs = comB vs us := by
  unfold comB
  rw [Bool.eq_iff_iff, List.any_eq_true, List.any_eq_true]
  simp
  constructor
  · rintro ⟨x, h1, h2⟩; exact ⟨x, h2, h1⟩
  · rintro ⟨x, h1, h2⟩; exact ⟨x, h2, h1⟩

set_option maxRecDepth 100000 in
set_option maxHeartbeats 8000000 in
theorem sJoinTours_any (ta : List Int) (u : Int) (tb : List Int) (v : Int) (n : Nat) (a : Option Addr) (c : Nat) (hn : n ≤ 1048576) (hc : n ≤ c) (nb : Nat) (b : Option Addr) (cb : Nat) (hnb : nb ≤ 1048576) (hcb : nb ≤ cb) (w : World) (h : Is w w.heap.size a n ta) (hb : Is w w.heap.size b nb tb) :
    Calls Tryz.prog 143 #[.slice a n c, .int .i64 u, .slice b nb cb, .int .i64 v] w fun e w' => TAns w (joO ta u tb v) e w' := by
  obtain ⟨i0, hi, hz0, hz1, hz2⟩ := info_parts info3i
  have HT := hideIt (sTourOk_any ta n a c (by omega) w h)
  have HTb := hideIt (fun x (hx : Below w.heap.size w x) => sTourOk_any tb nb b cb (by omega) x (hb.up hx))
  have HF := hideIt (fun x (hx : Below w.heap.size w x) => l06First_any ta u n a c (by omega) x (h.up hx))
  have HFb := hideIt (fun x (hx : Below w.heap.size w x) => l06First_any tb v nb b cb (by omega) x (hb.up hx))
  have HIn := hideIt (fun y x (hx : Below w.heap.size w x) => l05In_any ta y n a c (by omega) x (h.up hx))
  have HR := hideIt (fun x (hx : Below w.heap.size w x) => sReroot_any tb v nb b cb (by omega) hcb x (hb.up hx))
  have HL := hideIt (fun x (hx : Below w.heap.size w x) => l06Last_any ta u n a c (by omega) x (h.up hx))
  have HI := hideIt h
  have HIb := hideIt hb
  have hlen := h.1
  have hlenb := hb.1
  cases hT : tB ta with
  | false =>
    have HO := hideIt (show joO ta u tb v = none by unfold joO; rw [if_neg (fun hh => by have := hh.1.1; rw [hT] at this; simp at this)])
    rw [hT] at HT
    clear hT h hb HTb HF HFb HIn HR HL HI HIb
    go_enter Tryz.func143, Tryz.ntmps143
    go_wp2_with (go_at_call 65; refine HT.out.mono ?_; rintro e w1 ⟨rfl, hb1⟩)
    go_ret2
    exact tans_none HO.out (own_mono (ISt.start w1).own hb1.size) (hb1.alloc hb1.size _)
  | true =>
    rw [hT] at HT
    cases hTb : tB tb with
    | false =>
      have HO := hideIt (show joO ta u tb v = none by unfold joO; rw [if_neg (fun hh => by have := hh.1.2; rw [hTb] at this; simp at this)])
      rw [hTb] at HTb
      clear hT hTb h hb HF HFb HIn HR HL HI HIb
      go_enter Tryz.func143, Tryz.ntmps143
      go_wp2_with (go_at_call 65; refine HT.out.mono ?_; rintro e w1 ⟨rfl, hb1⟩; refine Hid.out ?_)
      refine (show ∀ {p : Prop}, p → Hid p from fun h => h) ?_
      have HT1 := hideIt (HTb.out w1 hb1)
      clear HT HTb
      go_wp2_with (go_at_call 65; refine HT1.out.mono ?_; rintro e w2 ⟨rfl, hb2⟩)
      go_ret2
      have B2 := hb1.trans (hb2.mono hb1.size)
      exact tans_none HO.out (own_mono (ISt.start w2).own B2.size) (B2.alloc B2.size _)
    | true =>
      rw [hTb] at HTb
      by_cases hu : u ∈ ta
      · obtain ⟨k1, hk1, _, _, _⟩ := fst_at hu
        rw [hk1] at HF
        have d1 : decide ((k1 : Int) < 0) = false := decide_eq_false (by omega)
        by_cases hv : v ∈ tb
        · obtain ⟨k2, hk2, hk2n, _, _⟩ := fst_at hv
          rw [hk2] at HFb
          have d2 : decide ((k2 : Int) < 0) = false := decide_eq_false (by omega)
          obtain ⟨k, hk, hkn, _⟩ := lst_mem hu
          rw [hk] at HL
          rw [hlen] at hkn
          have HOc : Hid (∀ x, x = comB tb ta → joO ta u tb v = if x = true then none else some (joT ta k (reT tb k2 v))) := fun x hx => by
            rw [hx, ← com_swap]
            unfold joO
            cases hC : comB ta tb with
            | true => rw [if_neg (by simp), if_pos rfl]
            | false => rw [if_pos ⟨⟨hT, hTb⟩, ⟨hu, hv⟩, rfl⟩, hk, hk2, if_neg (by simp)]; rfl
          have hRe : reO tb v = some (reT tb k2 v) := by unfold reO; rw [if_pos ⟨hTb, hv⟩, hk2]; rfl
          rw [hRe] at HR
          have hrl := reT_len (v := v) hTb k2
          have hrl0 : 0 < (reT tb k2 v).length := by simp [reT]; omega
          generalize reT tb k2 v = r at *
          obtain ⟨b1, off, rfl⟩ : ∃ b1 off, a = some ⟨b1, off, none⟩ := by
            rcases h.2 with hz | ⟨b1, off, h1, _⟩
            · omega
            · exact ⟨b1, off, h1⟩
          clear hT hTb h hb hk hk1 hk2 hu hv hRe hk2n
          go_enter Tryz.func143, Tryz.ntmps143
          go_wp2_with (go_at_call 65; refine HT.out.mono ?_; rintro e w1 ⟨rfl, hb1⟩; refine Hid.out ?_)
          refine (show ∀ {p : Prop}, p → Hid p from fun h => h) ?_
          have HT1 := hideIt (HTb.out w1 hb1)
          clear HT HTb
          go_wp2_with (go_at_call 65; refine HT1.out.mono ?_; rintro e w2 ⟨rfl, hb2⟩; refine Hid.out ?_)
          refine (show ∀ {p : Prop}, p → Hid p from fun h => h) ?_
          have B2 := hb1.trans (hb2.mono hb1.size)
          clear HT1 hb1 hb2
          have HF2 := hideIt (HF.out w2 B2)
          go_wp2_with (go_at_call 177; refine HF2.out.mono ?_; rintro e w3 ⟨rfl, hw⟩; have hw' := hw.symm; subst hw'; clear hw; refine Hid.out ?_)
          refine (show ∀ {p : Prop}, p → Hid p from fun h => h) ?_
          clear HF2 HF
          have HF2 := hideIt (HFb.out w2 B2)
          go_wp2_with (go_at_call 177; refine HF2.out.mono ?_; rintro e w3 ⟨rfl, hw⟩; have hw' := hw.symm; subst hw'; clear hw)
          clear HF2 HFb
          go_loopw [10] (fun i wr => ∃ (j : Nat), j ≤ nb ∧ i = .int .i64 (j : Int) ∧ Hid (∀ q, q < j → comP tb ta q = false) ∧ wr = w2) (fun i _ => nb - (intOf i).toNat)
          case atStart => exact ⟨0, by omega, rfl, fun j hj => by omega, rfl⟩
          case round =>
            obtain ⟨j, hj, rfl, HQ, hw⟩ := hrel
            have hw' := hw.symm
            subst hw'
            clear hw
            by_cases hlt : j < nb
            · rcases HIb.out.2 with hz | ⟨b2, off2, rfl, hbl, hcl⟩
              · omega
              · obtain ⟨f, hf⟩ : ∃ f, tb[j]? = some f := ⟨tb[j]'(by omega), List.getElem?_eq_getElem (by omega)⟩
                have e0 : w2.cell? ⟨b2, off2 + j, none⟩ = some (.int .i64 f) := by rw [B2.cell hbl]; exact hcl j f hf
                have q1 : (0 : Int) ≤ (j : Int) := by omega
                have q2 : (j : Int) < (nb : Int) := by omega
                have HN := hideIt (HIn.out f w2 B2)
                have hcf := comP_at (vs := ta) hf
                cases hx : decide (f ∈ ta) with
                | true =>
                  rw [hx] at HN hcf
                  have HO := hideIt ((HOc.out true (comB_yes hcf).symm).trans (if_pos rfl))
                  clear hcl hf hx hcf HQ HL HR HIn HI HIb HOc
                  go_wp2_with (go_at_call 66; refine HN.out.mono ?_; rintro e w3 ⟨rfl, hw⟩; have hw' := hw.symm; subst hw'; clear hw)
                  go_ret2
                  exact tans_none HO.out (own_mono (ISt.start w2).own B2.size) (B2.alloc B2.size _)
                | false =>
                  rw [hx] at HN hcf
                  have HQ2 := hideIt (all_step HQ.out hcf)
                  clear hcl hf hx hcf HQ HL HR HIn HI HIb HOc
                  go_wp2_with (go_at_call 66; refine HN.out.mono ?_; rintro e w3 ⟨rfl, hw⟩; have hw' := hw.symm; subst hw'; clear hw)
                  exact ⟨⟨j + 1, by omega, by go_num, HQ2, by first | trivial | rfl⟩, by simp [intOf]; omega⟩
            · obtain rfl : j = nb := by omega
              have HO := hideIt ((HOc.out false (comB_no (by rw [hlenb]; exact HQ.out)).symm).trans (if_neg (by simp)))
              have HR2 := hideIt (HR.out w2 B2)
              clear HQ HOc HR HIn HIb
              go_wp2_with (go_at_call 178; refine HR2.out.mono ?_; rintro e w3 ⟨ai, mi, ci, rfl, hoi, hb3⟩; refine Hid.out ?_)
              refine (show ∀ {p : Prop}, p → Hid p from fun h => h) ?_
              have B3 := B2.trans (hb3.mono B2.size)
              have RI := RBox.laid hoi
              rw [Option.getD_some] at RI
              have hmi : mi ≤ 50 := by rw [← RI.len]; exact hrl
              have hmi0 : 0 < mi := by rw [← RI.len]; exact hrl0
              obtain ⟨gi, ci', hform, _⟩ := RI.own.form hmi0
              simp at hform
              obtain ⟨rfl, rfl⟩ := hform
              have HL3 := hideIt (HL.out w3 B3)
              have S1 := ISt.start w3
              have HI1 := hideIt ((HI.out.up B3).up S1.bel)
              have HN1 := hideIt ((HI1.out.take (show k + 1 ≤ n by omega)).news)
              have HN1l : Hid ((ic (ta.take (k + 1))).length = (k + 1) * 1) := by show _ = _; rw [ic_len, List.length_take]; omega
              have e1 : ((k : Int) + 1).toNat = k + 1 := by omega
              have p1 : (0 : Int) ≤ (k : Int) := by omega
              have p2 : (k : Int) ≤ (n : Int) := by omega
              have p4 : (0 : Int) ≤ (k : Int) + 1 := by omega
              have p5 : (k : Int) + 1 ≤ (c : Int) := by omega
              have hne : ¬ (c = k) := by omega
              obtain ⟨x1, hx1⟩ : ∃ x, x = ta.take (k + 1) := ⟨_, rfl⟩
              obtain ⟨x2, hx2⟩ : ∃ x, x = ta.drop k := ⟨_, rfl⟩
              rw [← hx1] at HN1 HN1l
              have HJ : Hid (joT ta k r = x1 ++ (r ++ x2)) := by show _ = _; rw [hx1, hx2]; rfl
              have HX2 := hideIt hx2
              clear HR2 hoi HL hx1 hx2
              go_wp2_with (first | (go_at_call 179; refine HL3.out.mono ?_; rintro e w4 ⟨rfl, hw⟩; have hw' := hw.symm; subst hw'; clear hw) | (at_builtin; refine wpList_append_own _ rfl _ _ 39 rfl w3.heap.size 3 i0 _ 1 8 Tryz.underlying39 hi hz0 hz1 hz2 rfl (by decide) _ _ _ rfl S1.own ⟨b1, off, none⟩ (k + 1) c (ic x1) rfl HN1l.out HN1.out ic_one (by unfold maxLen; omega) (by omega) (by simp) ?_))
              intro v5 w5 hown5 hg5 _
              obtain ⟨a5, c5, rfl, S5⟩ := S1.appL hown5 hg5
              clear hown5 hg5 S1 HI1 HN1 HN1l HL3
              refine Hid.out ?_
              refine (show ∀ {p : Prop}, p → Hid p from fun h => h) ?_
              have RI5 := RI.up S5.bel
              have HN5 := hideIt RI5.is.news
              have HN5l : Hid ((ic r).length = mi * 1) := by show _ = _; rw [ic_len, RI.len]; omega
              have z5 := S5.size
              go_wp2_with (at_builtin; refine wpList_append_own _ rfl _ _ 39 rfl w3.heap.size 3 i0 _ 1 8 Tryz.underlying39 hi hz0 hz1 hz2 rfl (by decide) _ _ _ rfl S5.own ⟨gi, 0, none⟩ mi ci (ic r) rfl HN5l.out HN5.out ic_one (by unfold maxLen; omega) (by omega) z5 ?_)
              intro v6 w6 hown6 hg6 _
              obtain ⟨a6, c6, rfl, S6⟩ := S5.appL hown6 hg6
              clear hown6 hg6 S5 RI5 HN5 HN5l
              refine Hid.out ?_
              refine (show ∀ {p : Prop}, p → Hid p from fun h => h) ?_
              have HI6 := hideIt ((HI.out.up B3).up S6.bel)
              have HN6 := hideIt ((HI6.out.drop (show k ≤ n by omega)).news)
              rw [← HX2.out] at HN6
              have HN6l : Hid ((ic x2).length = (n - k) * 1) := by show _ = _; rw [ic_len, HX2.out, List.length_drop]; omega
              have z6 := S6.size
              go_wp2_with (at_builtin; refine wpList_append_own _ rfl _ _ 39 rfl w3.heap.size 3 i0 _ 1 8 Tryz.underlying39 hi hz0 hz1 hz2 rfl (by decide) _ _ _ rfl S6.own ⟨b1, off + k, none⟩ (n - k) (c - k) (ic x2) rfl HN6l.out HN6.out ic_one (by unfold maxLen; omega) (by omega) z6 ?_)
              intro v7 w7 hown7 hg7 _
              obtain ⟨a7, c7, rfl, S7⟩ := S6.appL hown7 hg7
              clear hown7 hg7 S6
              go_wp2
              go_ret2
              exact tans_yes HO.out B3.size (by rw [HJ.out]; have := S7.own; rw [List.nil_append, List.append_assoc] at this; exact this) (B3.trans (S7.bel.mono B3.size))
        · have HO := hideIt (show joO ta u tb v = none by unfold joO; rw [if_neg (fun hh => hv hh.2.1.2)])
          rw [fst_no hv] at HFb
          clear hT hTb h hb hk1 hu hv HR HL HIn HI HIb
          go_enter Tryz.func143, Tryz.ntmps143
          go_wp2_with (go_at_call 65; refine HT.out.mono ?_; rintro e w1 ⟨rfl, hb1⟩; refine Hid.out ?_)
          refine (show ∀ {p : Prop}, p → Hid p from fun h => h) ?_
          have HT1 := hideIt (HTb.out w1 hb1)
          clear HT HTb
          go_wp2_with (go_at_call 65; refine HT1.out.mono ?_; rintro e w2 ⟨rfl, hb2⟩; refine Hid.out ?_)
          refine (show ∀ {p : Prop}, p → Hid p from fun h => h) ?_
          have B2 := hb1.trans (hb2.mono hb1.size)
          clear HT1 hb1 hb2
          have HF2 := hideIt (HF.out w2 B2)
          go_wp2_with (go_at_call 177; refine HF2.out.mono ?_; rintro e w3 ⟨rfl, hw⟩; have hw' := hw.symm; subst hw'; clear hw; refine Hid.out ?_)
          refine (show ∀ {p : Prop}, p → Hid p from fun h => h) ?_
          clear HF2 HF
          have HF2 := hideIt (HFb.out w2 B2)
          go_wp2_with (go_at_call 177; refine HF2.out.mono ?_; rintro e w3 ⟨rfl, hw⟩; have hw' := hw.symm; subst hw'; clear hw)
          go_ret2
          exact tans_none HO.out (own_mono (ISt.start w2).own B2.size) (B2.alloc B2.size _)
      · have HO := hideIt (show joO ta u tb v = none by unfold joO; rw [if_neg (fun hh => hu hh.2.1.1)])
        rw [fst_no hu] at HF
        clear hT hTb h hb hu HR HL HIn HI HIb HFb
        go_enter Tryz.func143, Tryz.ntmps143
        go_wp2_with (go_at_call 65; refine HT.out.mono ?_; rintro e w1 ⟨rfl, hb1⟩; refine Hid.out ?_)
        refine (show ∀ {p : Prop}, p → Hid p from fun h => h) ?_
        have HT1 := hideIt (HTb.out w1 hb1)
        clear HT HTb
        go_wp2_with (go_at_call 65; refine HT1.out.mono ?_; rintro e w2 ⟨rfl, hb2⟩; refine Hid.out ?_)
        refine (show ∀ {p : Prop}, p → Hid p from fun h => h) ?_
        have B2 := hb1.trans (hb2.mono hb1.size)
        clear HT1 hb1 hb2
        have HF2 := hideIt (HF.out w2 B2)
        go_wp2_with (go_at_call 177; refine HF2.out.mono ?_; rintro e w3 ⟨rfl, hw⟩; have hw' := hw.symm; subst hw'; clear hw)
        go_ret2
        exact tans_none HO.out (own_mono (ISt.start w2).own B2.size) (B2.alloc B2.size _)
end Go.Proofs.YtklalfkdikjkfaaGreat
namespace Go.Proofs.YtklalfkdikjkfaaGreat
open Go.RowKit

theorem rans_no {w u : World} {N : Int} {o : Option (List (List Int))} (ho : o = none) (h : Below w.heap.size w u) : RAns w N o (.returned (.tuple #[.agg #[.int .i64 0, .slice none 0 0], .bool false])) u := by
  subst ho
  exact ⟨none, 0, 0, [], rfl, ⟨World.ownsRow_nil _ _ _ _, HdT.nil _ _, by simp⟩, h⟩
/-- two numbers in a row -/
theorem is_two {w : World} {x y : Int} : Is (w.alloc (.cells #[.int .i64 x, .int .i64 y] 3)) (w.alloc (.cells #[.int .i64 x, .int .i64 y] 3)).heap.size (some ⟨w.heap.size, 0, none⟩) 2 [x, y] := ⟨rfl, .inr ⟨w.heap.size, 0, rfl, by simp, fun j z hz => by
  rcases j with _ | _ | j
  · simp at hz; subst hz; simp
  · simp at hz; subst hz; simp
  · simp at hz⟩⟩
theorem ts_one {w : World} {x : Option Addr} {cx : Nat} {t : List Int} (h : Is w w.heap.size x t.length t) (hc : t.length ≤ cx) : Ts (w.alloc (.cells #[.slice x t.length cx] 39)) (w.alloc (.cells #[.slice x t.length cx] 39)).heap.size (some ⟨w.heap.size, 0, none⟩) 1 [t] := ⟨rfl, .inr ⟨w.heap.size, 0, rfl, by simp, fun j s hs => by
  rcases j with _ | j
  · simp at hs
    subst hs
    exact ⟨x, cx, by simp, h.up ((Good.refl w).alloc _), hc⟩
  · simp at hs⟩⟩
set_option maxRecDepth 100000 in
set_option maxHeartbeats 8000000 in
theorem sLink_any (N : Int) (ts : List (List Int)) (f : EdgeV) (n : Nat) (a : Option Addr) (c : Nat) (hn : n + lnS ts ≤ 1048576) (w : World) (h : Ts w w.heap.size a n ts) :
    Calls Tryz.prog 99 #[.agg #[.int .i64 N, .slice a n c], .agg #[.int .i64 f.1, .int .i64 f.2]] w fun e w' => RAns w N (linkO N ts f) e w' := by
  obtain ⟨W, hW⟩ : ∃ W, W = w3of w N a n c f := ⟨_, rfl⟩
  have hsz : W.heap.size = w.heap.size + 3 := by rw [hW, w3_size]
  have gW : Good w W := by rw [hW]; exact w3_good _ _ _ _ _ _
  have HA := hideIt (h.up gW)
  have HAw := hideIt h
  have hlen := h.1
  have HT : Hid (∀ x u, Good W u → Calls Tryz.prog 84 #[.agg #[.int .i64 N, .slice a n c], .int .i64 x] u fun e v => e = .returned (.int .i64 (treeO N ts x)) ∧ Good W v) := fun x u hu =>
    (sTreeOf_any N ts x n a c hn u (HA.out.up hu)).mono fun _ _ ⟨he, hb⟩ => ⟨he, hu.up hb⟩
  have HE : Hid (∀ u, Good W u → Calls Tryz.prog 79 #[.int .i64 N, .agg #[.int .i64 f.1, .int .i64 f.2]] u fun e v => e = .returned (.bool (eB N f)) ∧ Good W v) := fun u hu =>
    (sEdgeOk_any N f u).mono fun _ _ ⟨he, hb⟩ => ⟨he, hu.up hb⟩
  have HC : Hid (∀ u, Good W u → ((u.cell? ⟨w.heap.size, 0, none⟩ = some (.int .i64 N) ∧ u.cell? ⟨w.heap.size, 1, none⟩ = some (.slice a n c)) ∧ u.cell? ⟨w.heap.size + 1, 0, none⟩ = some (.int .i64 f.1) ∧ u.cell? ⟨w.heap.size + 1, 1, none⟩ = some (.int .i64 f.2)) ∧ Good W u) := fun u hu => ⟨w3_cells (hW ▸ hu), hu⟩
  have HO : Hid (∀ u, Below (w.heap.size + 3) W u → (u.cell? ⟨w.heap.size + 2, 0, none⟩ = some (.int .i64 0) ∧ u.cell? ⟨w.heap.size + 2, 1, none⟩ = some (.slice none 0 0)) ∧ u.frozen? ⟨w.heap.size + 2, 0, none⟩ = false ∧ u.frozen? ⟨w.heap.size + 2, 1, none⟩ = false) := fun u hu => w3_out (hW ▸ hu)
  have HNo : Hid (∀ u, Good W u → linkO N ts f = none → RAns w N (linkO N ts f) (.returned (.tuple #[.agg #[.int .i64 0, .slice none 0 0], .bool false])) ((u.setCell ⟨w.heap.size + 2, 0, none⟩ (.int .i64 0)).setCell ⟨w.heap.size + 2, 1, none⟩ (.slice none 0 0))) := fun u hu ho =>
    rans_no ho (((gW.up hu).setCell (p := ⟨w.heap.size + 2, 0, none⟩) (by show w.heap.size ≤ w.heap.size + 2; omega) _).setCell (p := ⟨w.heap.size + 2, 1, none⟩) (by show w.heap.size ≤ w.heap.size + 2; omega) _)
  have HS0 := hideIt (HC.out _ (Good.refl W).drew)
  have HGW := hideIt gW
  go_enter Tryz.func99, Tryz.ntmps99
  go_upto_region 1 with fail
  have hW' : (((w.alloc (.cells #[.int .i64 N, .slice a n c] 26)).alloc (.cells #[.int .i64 f.1, .int .i64 f.2] 28)).alloc (.cells #[.int .i64 0, .slice none 0 0] 26)) = W := hW.symm
  rw [hW']
  clear h gW hW HS0 hW'
  obtain ⟨⟨⟨k0, k1⟩, k2, k3⟩, _⟩ := HC.out _ (Good.refl W)
  have HT0 := hideIt (HT.out f.1 W (Good.refl W))
  go_wp2_with (go_at_call 84; refine HT0.out.mono ?_; rintro e w0 ⟨rfl, G0⟩; refine Hid.out ?_)
  refine (show ∀ {p : Prop}, p → Hid p from fun h => h) ?_
  clear k0 k1 k2 k3 HT0
  obtain ⟨⟨⟨k0, k1⟩, k2, k3⟩, _⟩ := HC.out _ G0
  have HT1 := hideIt (HT.out f.2 w0 G0)
  go_wp2_with (go_at_call 84; refine HT1.out.mono ?_; rintro e w1 ⟨rfl, G1⟩; refine Hid.out ?_)
  refine (show ∀ {p : Prop}, p → Hid p from fun h => h) ?_
  clear k0 k1 k2 k3 HT1
  · skip
    obtain ⟨⟨⟨k0, k1⟩, k2, k3⟩, _⟩ := HC.out _ G1
    have HE1 := hideIt (HE.out _ G1)
    cases hE : eB N f with
    | false =>
      rw [hE] at HE1
      have HL := hideIt (linkO_no (N := N) (ts := ts) (e := f) (fun h => by rw [hE] at h; exact absurd h.2.1 (by simp)))
      clear hE
      go_wp2_with (go_at_call 79; refine HE1.out.mono ?_; rintro e w2 ⟨rfl, G2⟩; refine Hid.out ?_)
      refine (show ∀ {p : Prop}, p → Hid p from fun h => h) ?_
      obtain ⟨⟨r0, r1⟩, r2, r3⟩ := HO.out _ (by rw [← hsz]; exact G2)
      have HN2 := hideIt (HNo.out _ G2 HL.out)
      clear k0 k1 k2 k3
      go_wp2
      exact bodyPost_ret (v := .tuple #[.agg #[.int .i64 0, .slice none 0 0], .bool false]) (by simp [results, Tryz.results99, go_sem, r0, r1]) rfl HN2.out
    | true =>
      rw [hE] at HE1
      by_cases hP : FP N ts
      · obtain ⟨M, rfl, hM1, hM2⟩ := FP_nat hP
        obtain ⟨i, j, p, q, hi, hj, hu, hv⟩ := edge_at hP hE
        have e1 : treeO (M : Int) ts f.1 = (i : Int) := (treeO_yes hP f.1).trans (trI_of hP.q hi hu)
        have e2 : treeO (M : Int) ts f.2 = (j : Int) := (treeO_yes hP f.2).trans (trI_of hP.q hj hv)
        rw [e1, e2]
        have hil := (List.getElem?_eq_some_iff.1 hi).1
        have hjl := (List.getElem?_eq_some_iff.1 hj).1
        rcases HA.out.2 with hz | ⟨b, off, rfl, hbl, hc⟩
        · omega
        · obtain ⟨x, cx, ci, ii, hcx⟩ := hc i p hi
          obtain ⟨y, cy, cj, ij, hcy⟩ := hc j q hj
          have hp := tB_len (hP.q.1 p (List.mem_of_getElem? hi)).1
          have hq := tB_len (hP.q.1 q (List.mem_of_getElem? hj)).1
          have HJ : Hid (∀ u, Good W u → Calls Tryz.prog 143 #[.slice x p.length cx, .int .i64 f.1, .slice y q.length cy, .int .i64 f.2] u fun e v => TAns u (joO p f.1 q f.2) e v) := fun u hu =>
            sJoinTours_any p f.1 q f.2 p.length x cx (by omega) hcx q.length y cy (by omega) hcy u (ii.up hu) (ij.up hu)
          have HC4 : Hid (∀ u, Good W u → (((u.cell? ⟨w.heap.size, 0, none⟩ = some (.int .i64 (M : Int)) ∧ u.cell? ⟨w.heap.size, 1, none⟩ = some (.slice (some ⟨b, off, none⟩) n c)) ∧ u.cell? ⟨w.heap.size + 1, 0, none⟩ = some (.int .i64 f.1) ∧ u.cell? ⟨w.heap.size + 1, 1, none⟩ = some (.int .i64 f.2)) ∧ u.cell? ⟨b, off + i, none⟩ = some (.slice x p.length cx) ∧ u.cell? ⟨b, off + j, none⟩ = some (.slice y q.length cy)) ∧ Good W u) := fun u hu =>
            ⟨⟨(HC.out u hu).1, by rw [hu.cell hbl]; exact ci, by rw [hu.cell hbl]; exact cj⟩, hu⟩
          have b1 : (0 : Int) ≤ (i : Int) := by omega
          have b2 : (i : Int) < (n : Int) := by omega
          have b3 : (0 : Int) ≤ (j : Int) := by omega
          have b4 : (j : Int) < (n : Int) := by omega
          have d1 : decide ((i : Int) < 0) = false := decide_eq_false (by omega)
          have d2 : decide ((j : Int) < 0) = false := decide_eq_false (by omega)
          have HAw2 := HAw
          clear hc ii ij ci cj e1 e2
          go_wp2_with (go_at_call 79; refine HE1.out.mono ?_; rintro e w2 ⟨rfl, G2⟩; refine Hid.out ?_)
          refine (show ∀ {p : Prop}, p → Hid p from fun h => h) ?_
          have g2d : Good W w2.drew := G2.drew
          have hS2 := HC4.out _ g2d
          clear k0 k1 k2 k3 HE1
          by_cases hij : i = j
          · subst hij
            have HL := hideIt (linkO_no (N := (M : Int)) (ts := ts) (e := f) (fun h => h.2.2 ((trI_of hP.q hi hu).trans (trI_of hP.q hj hv).symm)))
            have d3 : ((i : Int) == (i : Int)) = true := by simp
            obtain ⟨⟨r0, r1⟩, r2, r3⟩ := HO.out _ (by rw [← hsz]; exact G2)
            have HN2 := hideIt (HNo.out _ G2 HL.out)
            clear hi hj hu hv hE HJ hP
            go_wp2
            exact bodyPost_ret (v := .tuple #[.agg #[.int .i64 0, .slice none 0 0], .bool false]) (by simp [results, Tryz.results99, go_sem, r0, r1]) rfl HN2.out
          · obtain ⟨J, hJ, LK⟩ := lk_is hP hi hj hij hu hv
            rw [hJ] at HJ
            have d3 : ((i : Int) == (j : Int)) = false := by simp; omega
            have HL := hideIt (linkO_yes hP hE hi hj hu hv hij hJ)
            have hJB := LK.jo.ok
            have hJl := tB_len hJB
            have hFQ := link_fq hP hi hj hu hv hij hJ
            have HJ2 : Hid (∀ u, Good W u → Calls Tryz.prog 143 #[.slice x p.length cx, .int .i64 f.1, .slice y q.length cy, .int .i64 f.2] u fun e v => ∃ g cJ, e = .returned (.tuple #[.slice (some ⟨g, 0, none⟩) J.length cJ, .bool true]) ∧ ((Is v v.heap.size (some ⟨g, 0, none⟩) J.length J ∧ J.length ≤ cJ) ∧ w.heap.size + 3 ≤ g) ∧ Good W v) := fun u hu =>
              (HJ.out u hu).mono fun _ v ⟨aJ, mJ, cJ, he, ho, hb⟩ => by
                have ho' : v.ownsRow u.heap.size 3 1 (.slice aJ mJ cJ) mJ (ic J) := ho
                have hm : mJ = J.length := by have := ho'.1; rw [ic_len] at this; omega
                subst hm
                obtain ⟨g, rfl, _, hg⟩ := own_some ho' (by omega)
                exact ⟨g, cJ, he, ⟨⟨Is_of_own ho', (RwB.of_own ho').cap⟩, by have := hu.size; omega⟩, hu.up hb⟩
            have HWi : Hid (∀ u no ao bi, Good W u → Is u u.heap.size ao 2 [(i : Int), (j : Int)] → Ts u u.heap.size (some ⟨bi, 0, none⟩) 1 [J] → no = 2 → Calls Tryz.prog 142 #[.agg #[.int .i64 (M : Int), .slice (some ⟨b, off, none⟩) n c], .slice ao 2 2, .slice (some ⟨bi, 0, none⟩) 1 1] u fun e v => ∃ a' m' c' hs, e = .returned (.agg #[.int .i64 (M : Int), .slice a' m' c']) ∧ (v.ownsRow u.heap.size 39 1 (.slice a' m' c') m' hs ∧ HdT v v.heap.size hs (srtK (woK ts [i, j] ts.length ++ [J]) M) ∧ ∀ y ∈ hs, NewOr u bi 0 y) ∧ Good W v) := fun u no ao bi hu hI hT _ => by
              have hFQ' := hFQ
              rw [hlen] at hFQ'
              refine (l07With_any M ts [i, j] [J] n (some ⟨b, off, none⟩) c 2 ao 2 1 bi 0 1 hP hFQ' (by omega) (by omega) (by omega) u (HA.out.up hu) hI hT).mono ?_
              rintro e v ⟨a', m', c', hs, he, h1, h2⟩
              exact ⟨a', m', c', hs, he, by rw [hlen]; exact h1, hu.up h2⟩
            clear hi hj hu hv hE HJ hP LK hJ hFQ
            go_upto_region 5 with fail
            go_region_held3 (fun u => (((u.cell? ⟨w.heap.size, 0, none⟩ = some (.int .i64 (M : Int)) ∧ u.cell? ⟨w.heap.size, 1, none⟩ = some (.slice (some ⟨b, off, none⟩) n c)) ∧ u.cell? ⟨w.heap.size + 1, 0, none⟩ = some (.int .i64 f.1) ∧ u.cell? ⟨w.heap.size + 1, 1, none⟩ = some (.int .i64 f.2)) ∧ u.cell? ⟨b, off + i, none⟩ = some (.slice x p.length cx) ∧ u.cell? ⟨b, off + j, none⟩ = some (.slice y q.length cy)) ∧ Good W u)
              (first | assumption)
              (first | (go_at_call 143; refine (HJ2.out _ (And.right (by assumption))).mono ?_; rintro e w3 ⟨g, cJ, rfl, hIJ, G3⟩; have hS3 := HC4.out _ G3))
            all_goals
              obtain ⟨⟨⟨k0, k1⟩, k2, k3⟩, _⟩ := HC.out _ G3
              have g4 : Good w3 (w3.alloc (.cells #[.int .i64 (i : Int), .int .i64 (j : Int)] 3)) := (Good.refl w3).alloc _
              have g5 : Good (w3.alloc (.cells #[.int .i64 (i : Int), .int .i64 (j : Int)] 3)) ((w3.alloc (.cells #[.int .i64 (i : Int), .int .i64 (j : Int)] 3)).alloc (.cells #[.slice (some ⟨g, 0, none⟩) J.length cJ] 39)) := (Good.refl _).alloc _
              have HR3 := hideIt (HWi.out _ 2 _ (w3.heap.size + 1) (G3.up (g4.up g5)) ((is_two (w := w3)).up g5) (by have := ts_one (cx := cJ) (hIJ.1.1.up g4) hIJ.1.2; simpa using this) rfl)
              have HNO : Hid (∀ y, NewOr ((w3.alloc (.cells #[.int .i64 (i : Int), .int .i64 (j : Int)] 3)).alloc (.cells #[.slice (some ⟨g, 0, none⟩) J.length cJ] 39)) (w3.heap.size + 1) 0 y → HdL (w.heap.size + 3) y) := fun y hy b off s n c e => by
                have hs3 := G3.size
                rcases hy with hy | ⟨q, hq⟩
                · have := hy b off s n c e
                  simp at this
                  omega
                · rcases q with _ | q
                  · simp [go_sem] at hq
                    rw [← hq] at e
                    simp at e
                    have := hIJ.2
                    omega
                  · have hh : (((w3.alloc (.cells #[.int .i64 (i : Int), .int .i64 (j : Int)] 3)).alloc (.cells #[.slice (some ⟨g, 0, none⟩) J.length cJ] 39))).heap[w3.heap.size + 1]? = some (.cells #[.slice (some ⟨g, 0, none⟩) J.length cJ] 39 (0, 0)) := by
                      have := heap_alloc_new (w3.alloc (.cells #[.int .i64 (i : Int), .int .i64 (j : Int)] 3)) (.cells #[.slice (some ⟨g, 0, none⟩) J.length cJ] 39)
                      simpa using this
                    rw [cell_of_row _ _ _ _ _ _ hh] at hq
                    simp at hq
              clear HWi hIJ HJ2 HT HE HC4 hS2 hS3 g4 g5
              go_wp2_with (go_at_call 142; refine HR3.out.mono ?_; rintro e w4 ⟨a4, m4, c4, hs4, rfl, F4, G4⟩; refine Hid.out ?_)
              refine (show ∀ {p : Prop}, p → Hid p from fun h => h) ?_
              obtain ⟨⟨r0, r1⟩, r2, r3⟩ := HO.out _ (by rw [← hsz]; exact G4)
              have hs3 := G3.size
              have HF5 := hideIt (with_set (X := w.heap.size + 2) ⟨F4.1, F4.2.1⟩ (by simp; omega) (fun y hy => (HNO.out y (F4.2.2 y hy)).ne (by omega)) (.int .i64 (M : Int)) (.slice a4 m4 c4))
              have HLo : Hid (∀ y ∈ hs4, HdL w.heap.size y) := fun y hy => (HNO.out y (F4.2.2 y hy)).mono (by omega)
              have hlo5 : w.heap.size ≤ ((w3.alloc (.cells #[.int .i64 (i : Int), .int .i64 (j : Int)] 3)).alloc (.cells #[.slice (some ⟨g, 0, none⟩) J.length cJ] 39)).heap.size := by simp; omega
              have HB5 : Hid (Below w.heap.size w ((w4.setCell ⟨w.heap.size + 2, 0, none⟩ (.int .i64 (M : Int))).setCell ⟨w.heap.size + 2, 1, none⟩ (.slice a4 m4 c4))) := ((HGW.out.up G4).setCell (p := ⟨w.heap.size + 2, 0, none⟩) (by show w.heap.size ≤ w.heap.size + 2; omega) _).setCell (p := ⟨w.heap.size + 2, 1, none⟩) (by show w.heap.size ≤ w.heap.size + 2; omega) _
              clear F4 G4 k0 k1 k2 k3 HNO
              go_wp2
              exact bodyPost_ret (v := .tuple #[.agg #[.int .i64 (M : Int), .slice a4 m4 c4], .bool true]) (by simp [results, Tryz.results99, go_sem, r0, r1]) rfl ⟨a4, m4, c4, hs4, by rw [HL.out]; rfl, by rw [HL.out]; exact ⟨own_mono HF5.out.1 hlo5, HF5.out.2, HLo.out⟩, HB5.out⟩
      · have HL := hideIt (linkO_no (N := N) (ts := ts) (e := f) (fun h => hP h.1))
        have e1 := treeO_no hP f.1
        have d1 : decide ((-1 : Int) < 0) = true := by decide
        have e2 := treeO_no hP f.2
        rw [e1, e2]
        clear hE e1 e2
        go_wp2_with (go_at_call 79; refine HE1.out.mono ?_; rintro e w2 ⟨rfl, G2⟩; refine Hid.out ?_)
        refine (show ∀ {p : Prop}, p → Hid p from fun h => h) ?_
        obtain ⟨⟨r0, r1⟩, r2, r3⟩ := HO.out _ (by rw [← hsz]; exact G2)
        have HN2 := hideIt (HNo.out _ G2 HL.out)
        clear k0 k1 k2 k3
        go_wp2
        exact bodyPost_ret (v := .tuple #[.agg #[.int .i64 0, .slice none 0 0], .bool false]) (by simp [results, Tryz.results99, go_sem, r0, r1]) rfl HN2.out
end Go.Proofs.YtklalfkdikjkfaaGreat
namespace Go.Proofs.YtklalfkdikjkfaaGreat
open Go.RowKit

/-- a row that is ours is lengthened by a list that stands elsewhere -/
theorem app_row {x : World} {base gr m c : Nat} {ls xs : List Int} {ad : Addr} {k cc : Nat} (hown : x.ownsRow base 3 1 (.slice (some ⟨gr, 0, none⟩) m c) m (ic ls)) (hl : xs.length = k) (hnews : ∀ j u, (ic xs)[j]? = some u → x.cell? (ad.add j) = some u) (hm : m + k ≤ 5000000) (hb : base ≤ x.heap.size) :
    ∃ g cap y, (Builtin.append_ #[39, 39] 39 #[.slice (some ⟨gr, 0, none⟩) m c, .slice (some ad) k cc]).run Tryz.prog x = .ok (.slice (some ⟨g, 0, none⟩) (m + k) cap) y ∧ y.ownsRow base 3 1 (.slice (some ⟨g, 0, none⟩) (m + k) cap) (m + k) (ic (ls ++ xs)) ∧ x.grownBy y (some gr) ∧ (g = gr ∨ g = x.heap.size) := by
  obtain ⟨i0, hi, hz0, hz1, hz2⟩ := info_parts info3i
  obtain ⟨v', y, hr, h2, h3, h4, h5⟩ := run_append_own_at (P := Tryz.prog) x base 39 39 3 i0 _ 1 8 Tryz.underlying39 hi hz0 hz1 hz2 rfl (by decide) _ m _ hown ad k cc (ic xs) (by rw [ic_len]; omega) hnews ic_one (by unfold maxLen; omega) (by omega) hb
  rw [← ic_append] at h2
  rcases h2.2 with ⟨h6, _⟩ | ⟨g, cap, cur, h6, _⟩
  · exact absurd (h4.1 h6).1 (by simp)
  · subst h6
    refine ⟨g, cap, y, hr, h2, h3, ?_⟩
    rcases h5 with h5 | h5
    · simp [Value.ownBlock] at h5; exact .inl h5
    · simp [Value.ownBlock] at h5; exact .inr h5
/-- an append, at a step of a region that draws its order: as its run says -/
theorem step_app {P : Program} {ops : Array Oper} {o : Oper} {a : Go.Act} {w : World} {K : Go.Act → World → Prop} {Q : Exit → Go.Act → World → Prop} {E : Prop} (hgd : o.guard = none) (s x : Operand) (t : TypeId)
    (ho : o.op = .call { callee := .builtin .append, args := #[s, x], argTypes := #[t, t] }) {v v2 v' : Value} {w' : World} (hs : a.eval s = v) (hx : a.eval x = v2) (hr : (Builtin.append_ #[t, t] o.type #[v, v2]).run P w = .ok v' w') (hK : K (a.put o.dst v') w') :
    if Region.wanted o (yielded ops a.tmps) = true then Oper.wp P o a w K Q else E := by
  have hw : Region.wanted o (yielded ops a.tmps) = true := by simp [Region.wanted, hgd]
  rw [if_pos hw]
  unfold Oper.wp
  simp [execOp, ho, resolve, invoke, builtin, hs, hx, hr, Result.andThen]
  exact hK
theorem s2_no {w u : World} {o : List Int × List Int × Bool} (ho : o = ([], [], false)) {g : Nat} (hown : u.ownsRow w.heap.size 3 1 (.slice (some ⟨g, 0, none⟩) 0 0) 0 (ic [])) (h : Below w.heap.size w u) : S2Ans w o (.returned (.tuple #[.slice (some ⟨g, 0, none⟩) 0 0, .slice (some ⟨g, 0, none⟩) 0 0, .bool false])) u := by
  subst ho
  exact ⟨_, 0, 0, _, 0, 0, rfl, RBox.laid hown, RBox.laid hown, h⟩
theorem s2_yes {w u : World} {o : List Int × List Int × Bool} {t : List Int} {d q : Nat} (ho : o = spT t d q) {g m c g' m' c' : Nat} (h1 : u.ownsRow w.heap.size 3 1 (.slice (some ⟨g, 0, none⟩) m c) m (ic (t.take (d + 1) ++ t.drop (q + 2)))) (h2 : u.ownsRow w.heap.size 3 1 (.slice (some ⟨g', 0, none⟩) m' c') m' (ic ((t.take (q + 1)).drop (d + 1)))) (h : Below w.heap.size w u) :
    S2Ans w o (.returned (.tuple #[.slice (some ⟨g, 0, none⟩) m c, .slice (some ⟨g', 0, none⟩) m' c', .bool true])) u := by
  subst ho
  exact ⟨_, m, c, _, m', c', rfl, RBox.laid h1, RBox.laid h2, h⟩
theorem own_grown {x y : World} {B g m c gr : Nat} {xs : List Value} (h : x.ownsRow B 3 1 (.slice (some ⟨g, 0, none⟩) m c) m xs) (hg : x.grownBy y (some gr)) (hne : g ≠ gr) : y.ownsRow B 3 1 (.slice (some ⟨g, 0, none⟩) m c) m xs :=
  World.ownsRow.kept h hg (.inr (by simp [Value.ownBlock]; exact fun e => hne e))
theorem own_empty (x : World) (B : Nat) (h : B ≤ x.heap.size) : (x.alloc (.cells #[] 3)).ownsRow B 3 1 (.slice (some ⟨x.heap.size, 0, none⟩) 0 0) 0 (ic []) := by
  have h0 := World.ownsRow_lit (base := B) (e := 3) (size := 1) x #[] 0 h (by unfold maxLen; omega) (by simp)
  simpa [ic] using h0
/-- two rows, the one lengthened, the other made of nothing, in the three orders -/
theorem app_two {w x : World} {gr m c : Nat} {ls xs ys : List Int} {ad1 ad2 : Addr} {k1 cc1 k2 cc2 : Nat} (hB : Below w.heap.size w x) (hown : x.ownsRow w.heap.size 3 1 (.slice (some ⟨gr, 0, none⟩) m c) m (ic ls))
    (h1 : Is w w.heap.size (some ad1) k1 xs) (h2 : Is w w.heap.size (some ad2) k2 ys) (ha1 : ad1.spot = none) (ha2 : ad2.spot = none) (hs : m + k1 + k2 ≤ 4000000) :
    (∃ g cap y g' cap' z, (Builtin.append_ #[39, 39] 39 #[.slice (some ⟨gr, 0, none⟩) m c, .slice (some ad1) k1 cc1]).run Tryz.prog x = .ok (.slice (some ⟨g, 0, none⟩) (m + k1) cap) y ∧
      (Builtin.append_ #[39, 39] 39 #[.slice (some ⟨y.heap.size, 0, none⟩) 0 0, .slice (some ad2) k2 cc2]).run Tryz.prog (y.alloc (.cells #[] 3)) = .ok (.slice (some ⟨g', 0, none⟩) k2 cap') z ∧
      z.ownsRow w.heap.size 3 1 (.slice (some ⟨g, 0, none⟩) (m + k1) cap) (m + k1) (ic (ls ++ xs)) ∧ z.ownsRow w.heap.size 3 1 (.slice (some ⟨g', 0, none⟩) k2 cap') k2 (ic ys) ∧ Below w.heap.size w z) ∧
    (∃ g cap y g' cap' z, (Builtin.append_ #[39, 39] 39 #[.slice (some ⟨gr, 0, none⟩) m c, .slice (some ad1) k1 cc1]).run Tryz.prog (x.alloc (.cells #[] 3)) = .ok (.slice (some ⟨g, 0, none⟩) (m + k1) cap) y ∧
      (Builtin.append_ #[39, 39] 39 #[.slice (some ⟨x.heap.size, 0, none⟩) 0 0, .slice (some ad2) k2 cc2]).run Tryz.prog y = .ok (.slice (some ⟨g', 0, none⟩) k2 cap') z ∧
      z.ownsRow w.heap.size 3 1 (.slice (some ⟨g, 0, none⟩) (m + k1) cap) (m + k1) (ic (ls ++ xs)) ∧ z.ownsRow w.heap.size 3 1 (.slice (some ⟨g', 0, none⟩) k2 cap') k2 (ic ys) ∧ Below w.heap.size w z) ∧
    (∃ g cap y g' cap' z, (Builtin.append_ #[39, 39] 39 #[.slice (some ⟨x.heap.size, 0, none⟩) 0 0, .slice (some ad2) k2 cc2]).run Tryz.prog (x.alloc (.cells #[] 3)) = .ok (.slice (some ⟨g', 0, none⟩) k2 cap') y ∧
      (Builtin.append_ #[39, 39] 39 #[.slice (some ⟨gr, 0, none⟩) m c, .slice (some ad1) k1 cc1]).run Tryz.prog y = .ok (.slice (some ⟨g, 0, none⟩) (m + k1) cap) z ∧
      z.ownsRow w.heap.size 3 1 (.slice (some ⟨g, 0, none⟩) (m + k1) cap) (m + k1) (ic (ls ++ xs)) ∧ z.ownsRow w.heap.size 3 1 (.slice (some ⟨g', 0, none⟩) k2 cap') k2 (ic ys) ∧ Below w.heap.size w z) := by
  obtain ⟨b1, o1, s1⟩ := ad1
  obtain ⟨b2, o2, s2⟩ := ad2
  dsimp only at ha1 ha2
  subst ha1 ha2
  have hz := hB.size
  have hgr := hown.lt gr rfl
  have n1 : ∀ u, Below w.heap.size w u → ∀ j v, (ic xs)[j]? = some v → u.cell? ((⟨b1, o1, none⟩ : Addr).add j) = some v := fun u hu => (h1.up hu).news
  have n2 : ∀ u, Below w.heap.size w u → ∀ j v, (ic ys)[j]? = some v → u.cell? ((⟨b2, o2, none⟩ : Addr).add j) = some v := fun u hu => (h2.up hu).news
  have hxa : Below w.heap.size w (x.alloc (.cells #[] 3)) := hB.alloc hz _
  have hsa : (x.alloc (.cells #[] 3)).heap.size = x.heap.size + 1 := by simp
  refine ⟨?_, ?_, ?_⟩
  · obtain ⟨g, cap, y, r1, w1, g1, p1⟩ := app_row (cc := cc1) hown h1.1 (n1 x hB) (by omega) hz
    have hy : Below w.heap.size w y := hB.grown g1 hz (fun j hj => by simp at hj; omega)
    have hgl := (w1.lt g rfl).2
    have hya : Below w.heap.size w (y.alloc (.cells #[] 3)) := hy.alloc hy.size _
    obtain ⟨g', cap', z, r2, w2, g2, p2⟩ := app_row (cc := cc2) (own_empty y w.heap.size hy.size) h2.1 (n2 _ hya) (by omega) hya.size
    rw [Nat.zero_add, List.nil_append] at w2
    rw [Nat.zero_add] at r2
    exact ⟨g, cap, y, g', cap', z, r1, r2, own_grown (w1.alloc _) g2 (by omega), w2, hya.grown g2 hya.size (fun j hj => by simp at hj; rw [← hj]; exact hy.size)⟩
  · obtain ⟨g, cap, y, r1, w1, g1, p1⟩ := app_row (cc := cc1) (hown.alloc (.cells #[] 3)) h1.1 (n1 _ hxa) (by omega) hxa.size
    have hy : Below w.heap.size w y := hxa.grown g1 hxa.size (fun j hj => by simp at hj; omega)
    have he := own_grown (own_empty x w.heap.size hz) g1 (by omega)
    obtain ⟨g', cap', z, r2, w2, g2, p2⟩ := app_row (cc := cc2) he h2.1 (n2 _ hy) (by omega) hy.size
    rw [Nat.zero_add, List.nil_append] at w2
    rw [Nat.zero_add] at r2
    exact ⟨g, cap, y, g', cap', z, r1, r2, own_grown w1 g2 (by rcases p1 with p1 | p1 <;> omega), w2, hy.grown g2 hy.size (fun j hj => by simp at hj; omega)⟩
  · obtain ⟨g', cap', y, r2, w2, g2, p2⟩ := app_row (cc := cc2) (own_empty x w.heap.size hz) h2.1 (n2 _ hxa) (by omega) hxa.size
    rw [Nat.zero_add, List.nil_append] at w2
    rw [Nat.zero_add] at r2
    have hy : Below w.heap.size w y := hxa.grown g2 hxa.size (fun j hj => by simp at hj; omega)
    have hr := own_grown (hown.alloc (.cells #[] 3)) g2 (by omega)
    obtain ⟨g, cap, z, r1, w1, g1, p1⟩ := app_row (cc := cc1) hr h1.1 (n1 _ hy) (by omega) hy.size
    exact ⟨g, cap, y, g', cap', z, r2, r1, w1, own_grown w2 g1 (by rcases p2 with p2 | p2 <;> omega), hy.grown g1 hy.size (fun j hj => by simp at hj; omega)⟩

end Go.Proofs.YtklalfkdikjkfaaGreat
namespace Go.Proofs.YtklalfkdikjkfaaGreat
open Go.RowKit

theorem wpAny_frame {P : Program} {md : Region.Mode} {ops : Array Oper} {Q : Exit → Go.Act → World → Prop} {fuel : Nat} {listed : Array Bool} {a a' : Go.Act} {w : World} (h : a = a') (hh : wpAny P md ops Q fuel listed a' w) : wpAny P md ops Q fuel listed a w := h ▸ hh
set_option maxRecDepth 100000 in
set_option maxHeartbeats 8000000 in
theorem sSplitTour_any (t : List Int) (u v : Int) (n : Nat) (a : Option Addr) (c : Nat) (hn : n ≤ 1048576) (hc : n ≤ c) (w : World) (h : Is w w.heap.size a n t) :
    Calls Tryz.prog 141 #[.slice a n c, .int .i64 u, .int .i64 v] w fun e w' => S2Ans w (spO t u v) e w' := by
  obtain ⟨i0, hi, hz0, hz1, hz2⟩ := info_parts info3i
  have S0 := ISt.start w
  have HT := hideIt (sTourOk_any t n a c (by omega) (w.alloc (.cells #[] 3)) (h.up S0.bel))
  have HG1 := hideIt (fun x (hx : Below w.heap.size w x) => l06Going_any t u v n a c (by omega) x (h.up hx))
  have HG2 := hideIt (fun x (hx : Below w.heap.size w x) => l06Going_any t v u n a c (by omega) x (h.up hx))
  have HI := hideIt h
  have hlen := h.1
  cases hT : tB t with
  | false =>
    have HO := hideIt (show spO t u v = ([], [], false) by unfold spO; rw [if_neg (fun hh => by have := hh.1; rw [hT] at this; simp at this)])
    rw [hT] at HT
    clear hT h
    go_enter Tryz.func141, Tryz.ntmps141
    go_wp2_with (go_at_call 65; refine HT.out.mono ?_; rintro e w1 ⟨rfl, hb1⟩)
    go_ret3
    exact s2_no HO.out (own_up S0.own hb1) (S0.bel.trans (hb1.mono (by simp)))
  | true =>
    rw [hT] at HT
    rcases go_at (t := t) (u := u) (v := v) with ⟨k, hk, _⟩ | ⟨hk, _⟩
    · obtain ⟨p, hp, hpn, hkn⟩ := go_both hT hk
      rw [hk] at HG1
      rw [hp] at HG2
      rw [hlen] at hpn hkn
      obtain ⟨d, hd⟩ : ∃ d, d = min k p := ⟨_, rfl⟩
      obtain ⟨q, hq⟩ : ∃ q, q = max k p := ⟨_, rfl⟩
      have hm1 : min (k : Int) (p : Int) = (d : Int) := by rw [hd]; omega
      have hm2 : max (k : Int) (p : Int) = (q : Int) := by rw [hq]; omega
      have HO := hideIt (show spO t u v = spT t d q by unfold spO; rw [if_pos ⟨hT, by rw [hk]; omega⟩, hk, hp, hm1, hm2]; rfl)
      have hdq : d ≤ q := by omega
      have hqn : q + 1 < n := by omega
      have d1 : decide ((k : Int) < 0) = false := decide_eq_false (by omega)
      have d2 : decide ((p : Int) < 0) = false := decide_eq_false (by omega)
      obtain ⟨b, off, rfl⟩ : ∃ b off, a = some ⟨b, off, none⟩ := by
        rcases h.2 with hz | ⟨b, off, h1, _⟩
        · omega
        · exact ⟨b, off, h1⟩
      clear hT h hk hp
      go_enter Tryz.func141, Tryz.ntmps141
      go_wp2_with (go_at_call 65; refine HT.out.mono ?_; rintro e w1 ⟨rfl, hb1⟩; refine Hid.out ?_)
      refine (show ∀ {p : Prop}, p → Hid p from fun h => h) ?_
      have B1 := S0.bel.trans (hb1.mono (by simp))
      have HG3 := hideIt (HG1.out w1 B1)
      clear HT hb1
      go_wp2_with (go_at_call 176; refine HG3.out.mono ?_; rintro e w2 ⟨rfl, hw⟩; have hw' := hw.symm; subst hw'; clear hw; refine Hid.out ?_)
      refine (show ∀ {p : Prop}, p → Hid p from fun h => h) ?_
      clear HG3 HG1
      have HG3 := hideIt (HG2.out w1 B1)
      have S1 := ISt.start w1
      have HI1 := hideIt ((HI.out.up B1).up S1.bel)
      have HN1 := hideIt ((HI1.out.take (show d + 1 ≤ n by omega)).news)
      have HN1l : Hid ((ic (t.take (d + 1))).length = (d + 1) * 1) := by show _ = _; rw [ic_len, List.length_take]; omega
      obtain ⟨x1, hx1⟩ : ∃ x, x = t.take (d + 1) := ⟨_, rfl⟩
      rw [← hx1] at HN1 HN1l
      have HX1 := hideIt hx1
      clear hx1
      have e1 : ((d : Int) + 1).toNat = d + 1 := by omega
      have p1 : (0 : Int) ≤ (d : Int) + 1 := by omega
      have p2 : (d : Int) + 1 ≤ (c : Int) := by omega
      clear HG2
      rcases Nat.lt_or_ge p k with hkp | hkp
      · obtain rfl : d = p := by omega
        obtain rfl : q = k := by omega
        have d3 : decide ((d : Int) < (q : Int)) = true := decide_eq_true (by omega)
        clear hm1 hm2 hd hq
        go_wp2_with (first | (go_at_call 176; refine HG3.out.mono ?_; rintro e w2 ⟨rfl, hw⟩; have hw' := hw.symm; subst hw'; clear hw) | (at_builtin; refine wpList_append_own _ rfl _ _ 39 rfl w1.heap.size 3 i0 _ 1 8 Tryz.underlying39 hi hz0 hz1 hz2 rfl (by decide) _ _ _ rfl S1.own ⟨b, off, none⟩ (d + 1) c (ic x1) rfl HN1l.out HN1.out ic_one (by unfold maxLen; omega) (by omega) (by simp) ?_))
        intro v5 w5 hown5 hg5 _
        obtain ⟨a5, c5, rfl, S5⟩ := S1.appL hown5 hg5
        clear hown5 hg5 S1 HI1 HN1 HN1l HG3
        refine Hid.out ?_
        refine (show ∀ {p : Prop}, p → Hid p from fun h => h) ?_
        have B5 := B1.trans (S5.bel.mono B1.size)
        have O5 := own_mono S5.own B1.size
        rw [List.nil_append, HX1.out] at O5
        obtain ⟨g5, c5', hform, _⟩ := O5.form (by omega)
        simp at hform
        obtain ⟨rfl, rfl⟩ := hform
        have e2 : ((q : Int) + 2).toNat = q + 2 := by omega
        have e3 : ((q : Int) + 1).toNat = q + 1 := by omega
        have pw1 : IntKind.i64.wrap ((d : Int) + 1) = (d : Int) + 1 := by rw [IntKind.wrap_i64]; omega
        have pw2 : IntKind.i64.wrap ((q : Int) + 1) = (q : Int) + 1 := by rw [IntKind.wrap_i64]; omega
        have pw3 : IntKind.i64.wrap ((q : Int) + 2) = (q : Int) + 2 := by rw [IntKind.wrap_i64]; omega
        have p3 : (0 : Int) ≤ (q : Int) + 2 := by omega
        have p4 : (q : Int) + 2 ≤ (n : Int) := by omega
        have p6 : (d : Int) + 1 ≤ (q : Int) + 1 := by omega
        have p7 : (q : Int) + 1 ≤ (c : Int) := by omega
        have p8 : (0 : Int) ≤ (q : Int) + 1 := by omega
        have hcd : ¬ (c = d + 1) := by omega
        by_cases hz : c = q + 2
        · have hqd : ¬ (q + 1 = d) := by omega
          obtain ⟨⟨g1, cap1, y1, g1', cap1', z1, rA1, rB1, oA1, oB1, bz1⟩, ⟨g2, cap2, y2, g2', cap2', z2, rA2, rB2, oA2, oB2, bz2⟩, _⟩ := app_two (x := w5.drew) (ad1 := ⟨b, off, none⟩) (k1 := n - (q + 2)) (cc1 := 0) (ad2 := ⟨b, off + (d + 1), none⟩) (k2 := q - d) (cc2 := q + 1 - d) B5.drew (World.ownsRow.drew O5) (xs := t.drop (q + 2)) (by rw [show n - (q + 2) = 0 by omega]; exact Is.none_of (by rw [List.length_drop]; omega)) (by rw [show q - d = q + 1 - (d + 1) by omega]; exact (HI.out.take (show q + 1 ≤ n by omega)).drop (by omega)) rfl rfl (by omega)
          rw [show w5.drew.alloc (.cells #[] 3) = (w5.alloc (.cells #[] 3)).drew from rfl] at rA2
          rw [show w5.drew.heap.size = w5.heap.size from rfl] at rB2
          have F1 := hideIt (And.intro oA1 (And.intro oB1 bz1))
          have F2 := hideIt (And.intro oA2 (And.intro oB2 bz2))
          clear oA1 oB1 bz1 oA2 oB2 bz2 O5 S5 HI B1 S0
          go_wp2
          refine wp_region_any (by kernel_rfl) ?_
          change wpAny _ _ _ _ _ _ _ (World.drew _)
          refine takeOp (i := 0) (v := ?_) rfl (by kernel_rfl) (by kernel_rfl) (by kernel_rfl) (fun _ _ _ h => h) (by kernel_rfl) ?_ ?_
          rotate_left
          · intro w; go_simp; try with_reducible rfl
          refine takeOp (i := 1) (v := ?_) rfl (by kernel_rfl) (by kernel_rfl) (by kernel_rfl) (fun _ _ _ h => h) (by kernel_rfl) ?_ ?_
          rotate_left
          · intro w; go_simp; try with_reducible rfl
          refine takeOp (i := 2) (v := ?_) rfl (by kernel_rfl) (by kernel_rfl) (by kernel_rfl) (fun _ _ _ h => h) (by kernel_rfl) ?_ ?_
          rotate_left
          · intro w; go_simp; try with_reducible rfl
          refine takeOp (i := 3) (v := ?_) rfl (by kernel_rfl) (by kernel_rfl) (by kernel_rfl) (fun _ _ _ h => h) (by kernel_rfl) ?_ ?_
          rotate_left
          · intro w; go_simp; try with_reducible rfl
          refine takeOp (i := 4) (v := ?_) rfl (by kernel_rfl) (by kernel_rfl) (by kernel_rfl) (fun _ _ _ h => h) (by kernel_rfl) ?_ ?_
          rotate_left
          · intro w; go_simp; try with_reducible rfl
          refine takeOp (i := 7) (v := ?_) rfl (by kernel_rfl) (by kernel_rfl) (by kernel_rfl) (fun _ _ _ h => h) (by kernel_rfl) ?_ ?_
          rotate_left
          · intro w; go_simp; try with_reducible rfl
          refine takeOp (i := 8) (v := ?_) rfl (by kernel_rfl) (by kernel_rfl) (by kernel_rfl) (fun _ _ _ h => h) (by kernel_rfl) ?_ ?_
          rotate_left
          · intro w; go_simp; try with_reducible rfl
          refine takeOp (i := 9) (v := ?_) rfl (by kernel_rfl) (by kernel_rfl) (by kernel_rfl) (fun _ _ _ h => h) (by kernel_rfl) ?_ ?_
          rotate_left
          · intro w; go_simp; try with_reducible rfl
          refine takeOp (i := 10) (v := ?_) rfl (by kernel_rfl) (by kernel_rfl) (by kernel_rfl) (fun _ _ _ h => h) (by kernel_rfl) ?_ ?_
          rotate_left
          · intro w; go_simp; try with_reducible rfl
          refine takeOp (i := 11) (v := ?_) rfl (by kernel_rfl) (by kernel_rfl) (by kernel_rfl) (fun _ _ _ h => h) (by kernel_rfl) ?_ ?_
          rotate_left
          · intro w; go_simp; try with_reducible rfl
          refine takeOp (i := 12) (v := ?_) rfl (by kernel_rfl) (by kernel_rfl) (by kernel_rfl) (fun _ _ _ h => h) (by kernel_rfl) ?_ ?_
          rotate_left
          · intro w; go_simp; try with_reducible rfl
          refine wpAny_frame (a' := ?_) ?_ ?_
          rotate_left
          · go_simp; try with_reducible rfl
          refine wpAny_ready (rs := [5, 6]) (by kernel_rfl) (by simp) (AllReady.cons rfl (fun K hK => step_app rfl _ _ 39 rfl rfl rfl rA1 (hK _ _ ?_)) (AllReady.cons rfl (fun K hK => ?_) AllReady.nil))
          · clear hK K rA2 rB2 F2
            refine wpAny_frame (a' := ?_) ?_ ?_
            rotate_left
            · go_simp; try with_reducible rfl
            refine wpAny_ready (rs := [6]) (by kernel_rfl) (by simp) ?_
            refine AllReady.cons rfl (fun K hK => ?_) AllReady.nil
            go_simp
            refine hK _ _ ?_
            clear hK K
            refine wpAny_ready (rs := [13]) (by kernel_rfl) (by simp) (AllReady.cons rfl (fun K hK => step_app rfl _ _ 39 rfl rfl rfl rB1 (hK _ _ ?_)) AllReady.nil)
            clear hK K
            refine wpAny_frame (a' := ?_) ?_ ?_
            rotate_left
            · go_simp; try with_reducible rfl
            refine wpAny_ready (rs := [14]) (by kernel_rfl) (by simp) ?_
            refine AllReady.cons rfl (fun K hK => ?_) AllReady.nil
            go_simp
            refine hK _ _ ?_
            clear hK K
            refine wpAny_ready (rs := [15]) (by kernel_rfl) (by simp) ?_
            refine AllReady.cons rfl (fun K hK => ?_) AllReady.nil
            go_simp
            refine hK _ _ ?_
            clear hK K
            refine wpAny_ready (rs := [16]) (by kernel_rfl) (by simp) ?_
            refine AllReady.cons rfl (fun K hK => ?_) AllReady.nil
            go_simp
            refine hK _ _ ?_
            clear hK K
            refine wpAny_done (by kernel_rfl) ?_ _
            go_wp2
            go_ret3
            exact s2_yes HO.out F1.out.1 F1.out.2.1 F1.out.2.2
          · go_simp
            refine hK _ _ ?_
            clear hK K rA1 rB1 F1
            refine wpAny_ready (rs := [5]) (by kernel_rfl) (by simp) (AllReady.cons rfl (fun K hK => step_app rfl _ _ 39 rfl rfl rfl rA2 (hK _ _ ?_)) AllReady.nil)
            clear hK K
            refine wpAny_frame (a' := ?_) ?_ ?_
            rotate_left
            · go_simp; try with_reducible rfl
            refine wpAny_ready (rs := [13]) (by kernel_rfl) (by simp) (AllReady.cons rfl (fun K hK => step_app rfl _ _ 39 rfl rfl rfl rB2 (hK _ _ ?_)) AllReady.nil)
            clear hK K
            refine wpAny_frame (a' := ?_) ?_ ?_
            rotate_left
            · go_simp; try with_reducible rfl
            refine wpAny_ready (rs := [14]) (by kernel_rfl) (by simp) ?_
            refine AllReady.cons rfl (fun K hK => ?_) AllReady.nil
            go_simp
            refine hK _ _ ?_
            clear hK K
            refine wpAny_ready (rs := [15]) (by kernel_rfl) (by simp) ?_
            refine AllReady.cons rfl (fun K hK => ?_) AllReady.nil
            go_simp
            refine hK _ _ ?_
            clear hK K
            refine wpAny_ready (rs := [16]) (by kernel_rfl) (by simp) ?_
            refine AllReady.cons rfl (fun K hK => ?_) AllReady.nil
            go_simp
            refine hK _ _ ?_
            clear hK K
            refine wpAny_done (by kernel_rfl) ?_ _
            go_wp2
            go_ret3
            exact s2_yes HO.out F2.out.1 F2.out.2.1 F2.out.2.2
        · obtain ⟨⟨g1, cap1, y1, g1', cap1', z1, rA1, rB1, oA1, oB1, bz1⟩, ⟨g2, cap2, y2, g2', cap2', z2, rA2, rB2, oA2, oB2, bz2⟩, _⟩ := app_two (x := w5.drew) (ad1 := ⟨b, off + (q + 2), none⟩) (k1 := n - (q + 2)) (cc1 := c - (q + 2)) (ad2 := ⟨b, off + (d + 1), none⟩) (k2 := q - d) (cc2 := c - (d + 1)) B5.drew (World.ownsRow.drew O5) (HI.out.drop (show q + 2 ≤ n by omega)) (by rw [show q - d = q + 1 - (d + 1) by omega]; exact (HI.out.take (show q + 1 ≤ n by omega)).drop (by omega)) rfl rfl (by omega)
          rw [show w5.drew.alloc (.cells #[] 3) = (w5.alloc (.cells #[] 3)).drew from rfl] at rA2
          rw [show w5.drew.heap.size = w5.heap.size from rfl] at rB2
          have F1 := hideIt (And.intro oA1 (And.intro oB1 bz1))
          have F2 := hideIt (And.intro oA2 (And.intro oB2 bz2))
          clear oA1 oB1 bz1 oA2 oB2 bz2 O5 S5 HI B1 S0
          go_wp2
          refine wp_region_any (by kernel_rfl) ?_
          change wpAny _ _ _ _ _ _ _ (World.drew _)
          refine takeOp (i := 0) (v := ?_) rfl (by kernel_rfl) (by kernel_rfl) (by kernel_rfl) (fun _ _ _ h => h) (by kernel_rfl) ?_ ?_
          rotate_left
          · intro w; go_simp; try with_reducible rfl
          refine takeOp (i := 1) (v := ?_) rfl (by kernel_rfl) (by kernel_rfl) (by kernel_rfl) (fun _ _ _ h => h) (by kernel_rfl) ?_ ?_
          rotate_left
          · intro w; go_simp; try with_reducible rfl
          refine takeOp (i := 2) (v := ?_) rfl (by kernel_rfl) (by kernel_rfl) (by kernel_rfl) (fun _ _ _ h => h) (by kernel_rfl) ?_ ?_
          rotate_left
          · intro w; go_simp; try with_reducible rfl
          refine takeOp (i := 3) (v := ?_) rfl (by kernel_rfl) (by kernel_rfl) (by kernel_rfl) (fun _ _ _ h => h) (by kernel_rfl) ?_ ?_
          rotate_left
          · intro w; go_simp; try with_reducible rfl
          refine takeOp (i := 4) (v := ?_) rfl (by kernel_rfl) (by kernel_rfl) (by kernel_rfl) (fun _ _ _ h => h) (by kernel_rfl) ?_ ?_
          rotate_left
          · intro w; go_simp; try with_reducible rfl
          refine takeOp (i := 7) (v := ?_) rfl (by kernel_rfl) (by kernel_rfl) (by kernel_rfl) (fun _ _ _ h => h) (by kernel_rfl) ?_ ?_
          rotate_left
          · intro w; go_simp; try with_reducible rfl
          refine takeOp (i := 8) (v := ?_) rfl (by kernel_rfl) (by kernel_rfl) (by kernel_rfl) (fun _ _ _ h => h) (by kernel_rfl) ?_ ?_
          rotate_left
          · intro w; go_simp; try with_reducible rfl
          refine takeOp (i := 9) (v := ?_) rfl (by kernel_rfl) (by kernel_rfl) (by kernel_rfl) (fun _ _ _ h => h) (by kernel_rfl) ?_ ?_
          rotate_left
          · intro w; go_simp; try with_reducible rfl
          refine takeOp (i := 10) (v := ?_) rfl (by kernel_rfl) (by kernel_rfl) (by kernel_rfl) (fun _ _ _ h => h) (by kernel_rfl) ?_ ?_
          rotate_left
          · intro w; go_simp; try with_reducible rfl
          refine takeOp (i := 11) (v := ?_) rfl (by kernel_rfl) (by kernel_rfl) (by kernel_rfl) (fun _ _ _ h => h) (by kernel_rfl) ?_ ?_
          rotate_left
          · intro w; go_simp; try with_reducible rfl
          refine takeOp (i := 12) (v := ?_) rfl (by kernel_rfl) (by kernel_rfl) (by kernel_rfl) (fun _ _ _ h => h) (by kernel_rfl) ?_ ?_
          rotate_left
          · intro w; go_simp; try with_reducible rfl
          refine wpAny_frame (a' := ?_) ?_ ?_
          rotate_left
          · go_simp; try with_reducible rfl
          refine wpAny_ready (rs := [5, 6]) (by kernel_rfl) (by simp) (AllReady.cons rfl (fun K hK => step_app rfl _ _ 39 rfl rfl rfl rA1 (hK _ _ ?_)) (AllReady.cons rfl (fun K hK => ?_) AllReady.nil))
          · clear hK K rA2 rB2 F2
            refine wpAny_frame (a' := ?_) ?_ ?_
            rotate_left
            · go_simp; try with_reducible rfl
            refine wpAny_ready (rs := [6]) (by kernel_rfl) (by simp) ?_
            refine AllReady.cons rfl (fun K hK => ?_) AllReady.nil
            go_simp
            refine hK _ _ ?_
            clear hK K
            refine wpAny_ready (rs := [13]) (by kernel_rfl) (by simp) (AllReady.cons rfl (fun K hK => step_app rfl _ _ 39 rfl rfl rfl rB1 (hK _ _ ?_)) AllReady.nil)
            clear hK K
            refine wpAny_frame (a' := ?_) ?_ ?_
            rotate_left
            · go_simp; try with_reducible rfl
            refine wpAny_ready (rs := [14]) (by kernel_rfl) (by simp) ?_
            refine AllReady.cons rfl (fun K hK => ?_) AllReady.nil
            go_simp
            refine hK _ _ ?_
            clear hK K
            refine wpAny_ready (rs := [15]) (by kernel_rfl) (by simp) ?_
            refine AllReady.cons rfl (fun K hK => ?_) AllReady.nil
            go_simp
            refine hK _ _ ?_
            clear hK K
            refine wpAny_ready (rs := [16]) (by kernel_rfl) (by simp) ?_
            refine AllReady.cons rfl (fun K hK => ?_) AllReady.nil
            go_simp
            refine hK _ _ ?_
            clear hK K
            refine wpAny_done (by kernel_rfl) ?_ _
            go_wp2
            go_ret3
            exact s2_yes HO.out F1.out.1 F1.out.2.1 F1.out.2.2
          · go_simp
            refine hK _ _ ?_
            clear hK K rA1 rB1 F1
            refine wpAny_ready (rs := [5]) (by kernel_rfl) (by simp) (AllReady.cons rfl (fun K hK => step_app rfl _ _ 39 rfl rfl rfl rA2 (hK _ _ ?_)) AllReady.nil)
            clear hK K
            refine wpAny_frame (a' := ?_) ?_ ?_
            rotate_left
            · go_simp; try with_reducible rfl
            refine wpAny_ready (rs := [13]) (by kernel_rfl) (by simp) (AllReady.cons rfl (fun K hK => step_app rfl _ _ 39 rfl rfl rfl rB2 (hK _ _ ?_)) AllReady.nil)
            clear hK K
            refine wpAny_frame (a' := ?_) ?_ ?_
            rotate_left
            · go_simp; try with_reducible rfl
            refine wpAny_ready (rs := [14]) (by kernel_rfl) (by simp) ?_
            refine AllReady.cons rfl (fun K hK => ?_) AllReady.nil
            go_simp
            refine hK _ _ ?_
            clear hK K
            refine wpAny_ready (rs := [15]) (by kernel_rfl) (by simp) ?_
            refine AllReady.cons rfl (fun K hK => ?_) AllReady.nil
            go_simp
            refine hK _ _ ?_
            clear hK K
            refine wpAny_ready (rs := [16]) (by kernel_rfl) (by simp) ?_
            refine AllReady.cons rfl (fun K hK => ?_) AllReady.nil
            go_simp
            refine hK _ _ ?_
            clear hK K
            refine wpAny_done (by kernel_rfl) ?_ _
            go_wp2
            go_ret3
            exact s2_yes HO.out F2.out.1 F2.out.2.1 F2.out.2.2
      · obtain rfl : d = k := by omega
        obtain rfl : q = p := by omega
        have d3 : decide ((q : Int) < (d : Int)) = false := decide_eq_false (by omega)
        clear hm1 hm2 hd hq
        go_wp2_with (first | (go_at_call 176; refine HG3.out.mono ?_; rintro e w2 ⟨rfl, hw⟩; have hw' := hw.symm; subst hw'; clear hw) | (at_builtin; refine wpList_append_own _ rfl _ _ 39 rfl w1.heap.size 3 i0 _ 1 8 Tryz.underlying39 hi hz0 hz1 hz2 rfl (by decide) _ _ _ rfl S1.own ⟨b, off, none⟩ (d + 1) c (ic x1) rfl HN1l.out HN1.out ic_one (by unfold maxLen; omega) (by omega) (by simp) ?_))
        intro v5 w5 hown5 hg5 _
        obtain ⟨a5, c5, rfl, S5⟩ := S1.appL hown5 hg5
        clear hown5 hg5 S1 HI1 HN1 HN1l HG3
        refine Hid.out ?_
        refine (show ∀ {p : Prop}, p → Hid p from fun h => h) ?_
        have B5 := B1.trans (S5.bel.mono B1.size)
        have O5 := own_mono S5.own B1.size
        rw [List.nil_append, HX1.out] at O5
        obtain ⟨g5, c5', hform, _⟩ := O5.form (by omega)
        simp at hform
        obtain ⟨rfl, rfl⟩ := hform
        have e2 : ((q : Int) + 2).toNat = q + 2 := by omega
        have e3 : ((q : Int) + 1).toNat = q + 1 := by omega
        have pw1 : IntKind.i64.wrap ((d : Int) + 1) = (d : Int) + 1 := by rw [IntKind.wrap_i64]; omega
        have pw2 : IntKind.i64.wrap ((q : Int) + 1) = (q : Int) + 1 := by rw [IntKind.wrap_i64]; omega
        have pw3 : IntKind.i64.wrap ((q : Int) + 2) = (q : Int) + 2 := by rw [IntKind.wrap_i64]; omega
        have p3 : (0 : Int) ≤ (q : Int) + 2 := by omega
        have p4 : (q : Int) + 2 ≤ (n : Int) := by omega
        have p6 : (d : Int) + 1 ≤ (q : Int) + 1 := by omega
        have p7 : (q : Int) + 1 ≤ (c : Int) := by omega
        have p8 : (0 : Int) ≤ (q : Int) + 1 := by omega
        have hcd : ¬ (c = d + 1) := by omega
        by_cases hz : c = q + 2
        · have hqd : ¬ (q + 1 = d) := by omega
          obtain ⟨⟨g1, cap1, y1, g1', cap1', z1, rA1, rB1, oA1, oB1, bz1⟩, ⟨g2, cap2, y2, g2', cap2', z2, rA2, rB2, oA2, oB2, bz2⟩, _⟩ := app_two (x := w5.drew) (ad1 := ⟨b, off, none⟩) (k1 := n - (q + 2)) (cc1 := 0) (ad2 := ⟨b, off + (d + 1), none⟩) (k2 := q - d) (cc2 := q + 1 - d) B5.drew (World.ownsRow.drew O5) (xs := t.drop (q + 2)) (by rw [show n - (q + 2) = 0 by omega]; exact Is.none_of (by rw [List.length_drop]; omega)) (by rw [show q - d = q + 1 - (d + 1) by omega]; exact (HI.out.take (show q + 1 ≤ n by omega)).drop (by omega)) rfl rfl (by omega)
          rw [show w5.drew.alloc (.cells #[] 3) = (w5.alloc (.cells #[] 3)).drew from rfl] at rA2
          rw [show w5.drew.heap.size = w5.heap.size from rfl] at rB2
          have F1 := hideIt (And.intro oA1 (And.intro oB1 bz1))
          have F2 := hideIt (And.intro oA2 (And.intro oB2 bz2))
          clear oA1 oB1 bz1 oA2 oB2 bz2 O5 S5 HI B1 S0
          go_wp2
          refine wp_region_any (by kernel_rfl) ?_
          change wpAny _ _ _ _ _ _ _ (World.drew _)
          refine takeOp (i := 0) (v := ?_) rfl (by kernel_rfl) (by kernel_rfl) (by kernel_rfl) (fun _ _ _ h => h) (by kernel_rfl) ?_ ?_
          rotate_left
          · intro w; go_simp; try with_reducible rfl
          refine takeOp (i := 1) (v := ?_) rfl (by kernel_rfl) (by kernel_rfl) (by kernel_rfl) (fun _ _ _ h => h) (by kernel_rfl) ?_ ?_
          rotate_left
          · intro w; go_simp; try with_reducible rfl
          refine takeOp (i := 2) (v := ?_) rfl (by kernel_rfl) (by kernel_rfl) (by kernel_rfl) (fun _ _ _ h => h) (by kernel_rfl) ?_ ?_
          rotate_left
          · intro w; go_simp; try with_reducible rfl
          refine takeOp (i := 3) (v := ?_) rfl (by kernel_rfl) (by kernel_rfl) (by kernel_rfl) (fun _ _ _ h => h) (by kernel_rfl) ?_ ?_
          rotate_left
          · intro w; go_simp; try with_reducible rfl
          refine takeOp (i := 4) (v := ?_) rfl (by kernel_rfl) (by kernel_rfl) (by kernel_rfl) (fun _ _ _ h => h) (by kernel_rfl) ?_ ?_
          rotate_left
          · intro w; go_simp; try with_reducible rfl
          refine takeOp (i := 7) (v := ?_) rfl (by kernel_rfl) (by kernel_rfl) (by kernel_rfl) (fun _ _ _ h => h) (by kernel_rfl) ?_ ?_
          rotate_left
          · intro w; go_simp; try with_reducible rfl
          refine takeOp (i := 8) (v := ?_) rfl (by kernel_rfl) (by kernel_rfl) (by kernel_rfl) (fun _ _ _ h => h) (by kernel_rfl) ?_ ?_
          rotate_left
          · intro w; go_simp; try with_reducible rfl
          refine takeOp (i := 9) (v := ?_) rfl (by kernel_rfl) (by kernel_rfl) (by kernel_rfl) (fun _ _ _ h => h) (by kernel_rfl) ?_ ?_
          rotate_left
          · intro w; go_simp; try with_reducible rfl
          refine takeOp (i := 10) (v := ?_) rfl (by kernel_rfl) (by kernel_rfl) (by kernel_rfl) (fun _ _ _ h => h) (by kernel_rfl) ?_ ?_
          rotate_left
          · intro w; go_simp; try with_reducible rfl
          refine takeOp (i := 11) (v := ?_) rfl (by kernel_rfl) (by kernel_rfl) (by kernel_rfl) (fun _ _ _ h => h) (by kernel_rfl) ?_ ?_
          rotate_left
          · intro w; go_simp; try with_reducible rfl
          refine takeOp (i := 12) (v := ?_) rfl (by kernel_rfl) (by kernel_rfl) (by kernel_rfl) (fun _ _ _ h => h) (by kernel_rfl) ?_ ?_
          rotate_left
          · intro w; go_simp; try with_reducible rfl
          refine wpAny_frame (a' := ?_) ?_ ?_
          rotate_left
          · go_simp; try with_reducible rfl
          refine wpAny_ready (rs := [5, 6]) (by kernel_rfl) (by simp) (AllReady.cons rfl (fun K hK => step_app rfl _ _ 39 rfl rfl rfl rA1 (hK _ _ ?_)) (AllReady.cons rfl (fun K hK => ?_) AllReady.nil))
          · clear hK K rA2 rB2 F2
            refine wpAny_frame (a' := ?_) ?_ ?_
            rotate_left
            · go_simp; try with_reducible rfl
            refine wpAny_ready (rs := [6]) (by kernel_rfl) (by simp) ?_
            refine AllReady.cons rfl (fun K hK => ?_) AllReady.nil
            go_simp
            refine hK _ _ ?_
            clear hK K
            refine wpAny_ready (rs := [13]) (by kernel_rfl) (by simp) (AllReady.cons rfl (fun K hK => step_app rfl _ _ 39 rfl rfl rfl rB1 (hK _ _ ?_)) AllReady.nil)
            clear hK K
            refine wpAny_frame (a' := ?_) ?_ ?_
            rotate_left
            · go_simp; try with_reducible rfl
            refine wpAny_ready (rs := [14]) (by kernel_rfl) (by simp) ?_
            refine AllReady.cons rfl (fun K hK => ?_) AllReady.nil
            go_simp
            refine hK _ _ ?_
            clear hK K
            refine wpAny_ready (rs := [15]) (by kernel_rfl) (by simp) ?_
            refine AllReady.cons rfl (fun K hK => ?_) AllReady.nil
            go_simp
            refine hK _ _ ?_
            clear hK K
            refine wpAny_ready (rs := [16]) (by kernel_rfl) (by simp) ?_
            refine AllReady.cons rfl (fun K hK => ?_) AllReady.nil
            go_simp
            refine hK _ _ ?_
            clear hK K
            refine wpAny_done (by kernel_rfl) ?_ _
            go_wp2
            go_ret3
            exact s2_yes HO.out F1.out.1 F1.out.2.1 F1.out.2.2
          · go_simp
            refine hK _ _ ?_
            clear hK K rA1 rB1 F1
            refine wpAny_ready (rs := [5]) (by kernel_rfl) (by simp) (AllReady.cons rfl (fun K hK => step_app rfl _ _ 39 rfl rfl rfl rA2 (hK _ _ ?_)) AllReady.nil)
            clear hK K
            refine wpAny_frame (a' := ?_) ?_ ?_
            rotate_left
            · go_simp; try with_reducible rfl
            refine wpAny_ready (rs := [13]) (by kernel_rfl) (by simp) (AllReady.cons rfl (fun K hK => step_app rfl _ _ 39 rfl rfl rfl rB2 (hK _ _ ?_)) AllReady.nil)
            clear hK K
            refine wpAny_frame (a' := ?_) ?_ ?_
            rotate_left
            · go_simp; try with_reducible rfl
            refine wpAny_ready (rs := [14]) (by kernel_rfl) (by simp) ?_
            refine AllReady.cons rfl (fun K hK => ?_) AllReady.nil
            go_simp
            refine hK _ _ ?_
            clear hK K
            refine wpAny_ready (rs := [15]) (by kernel_rfl) (by simp) ?_
            refine AllReady.cons rfl (fun K hK => ?_) AllReady.nil
            go_simp
            refine hK _ _ ?_
            clear hK K
            refine wpAny_ready (rs := [16]) (by kernel_rfl) (by simp) ?_
            refine AllReady.cons rfl (fun K hK => ?_) AllReady.nil
            go_simp
            refine hK _ _ ?_
            clear hK K
            refine wpAny_done (by kernel_rfl) ?_ _
            go_wp2
            go_ret3
            exact s2_yes HO.out F2.out.1 F2.out.2.1 F2.out.2.2
        · obtain ⟨⟨g1, cap1, y1, g1', cap1', z1, rA1, rB1, oA1, oB1, bz1⟩, ⟨g2, cap2, y2, g2', cap2', z2, rA2, rB2, oA2, oB2, bz2⟩, _⟩ := app_two (x := w5.drew) (ad1 := ⟨b, off + (q + 2), none⟩) (k1 := n - (q + 2)) (cc1 := c - (q + 2)) (ad2 := ⟨b, off + (d + 1), none⟩) (k2 := q - d) (cc2 := c - (d + 1)) B5.drew (World.ownsRow.drew O5) (HI.out.drop (show q + 2 ≤ n by omega)) (by rw [show q - d = q + 1 - (d + 1) by omega]; exact (HI.out.take (show q + 1 ≤ n by omega)).drop (by omega)) rfl rfl (by omega)
          rw [show w5.drew.alloc (.cells #[] 3) = (w5.alloc (.cells #[] 3)).drew from rfl] at rA2
          rw [show w5.drew.heap.size = w5.heap.size from rfl] at rB2
          have F1 := hideIt (And.intro oA1 (And.intro oB1 bz1))
          have F2 := hideIt (And.intro oA2 (And.intro oB2 bz2))
          clear oA1 oB1 bz1 oA2 oB2 bz2 O5 S5 HI B1 S0
          go_wp2
          refine wp_region_any (by kernel_rfl) ?_
          change wpAny _ _ _ _ _ _ _ (World.drew _)
          refine takeOp (i := 0) (v := ?_) rfl (by kernel_rfl) (by kernel_rfl) (by kernel_rfl) (fun _ _ _ h => h) (by kernel_rfl) ?_ ?_
          rotate_left
          · intro w; go_simp; try with_reducible rfl
          refine takeOp (i := 1) (v := ?_) rfl (by kernel_rfl) (by kernel_rfl) (by kernel_rfl) (fun _ _ _ h => h) (by kernel_rfl) ?_ ?_
          rotate_left
          · intro w; go_simp; try with_reducible rfl
          refine takeOp (i := 2) (v := ?_) rfl (by kernel_rfl) (by kernel_rfl) (by kernel_rfl) (fun _ _ _ h => h) (by kernel_rfl) ?_ ?_
          rotate_left
          · intro w; go_simp; try with_reducible rfl
          refine takeOp (i := 3) (v := ?_) rfl (by kernel_rfl) (by kernel_rfl) (by kernel_rfl) (fun _ _ _ h => h) (by kernel_rfl) ?_ ?_
          rotate_left
          · intro w; go_simp; try with_reducible rfl
          refine takeOp (i := 4) (v := ?_) rfl (by kernel_rfl) (by kernel_rfl) (by kernel_rfl) (fun _ _ _ h => h) (by kernel_rfl) ?_ ?_
          rotate_left
          · intro w; go_simp; try with_reducible rfl
          refine takeOp (i := 7) (v := ?_) rfl (by kernel_rfl) (by kernel_rfl) (by kernel_rfl) (fun _ _ _ h => h) (by kernel_rfl) ?_ ?_
          rotate_left
          · intro w; go_simp; try with_reducible rfl
          refine takeOp (i := 8) (v := ?_) rfl (by kernel_rfl) (by kernel_rfl) (by kernel_rfl) (fun _ _ _ h => h) (by kernel_rfl) ?_ ?_
          rotate_left
          · intro w; go_simp; try with_reducible rfl
          refine takeOp (i := 9) (v := ?_) rfl (by kernel_rfl) (by kernel_rfl) (by kernel_rfl) (fun _ _ _ h => h) (by kernel_rfl) ?_ ?_
          rotate_left
          · intro w; go_simp; try with_reducible rfl
          refine takeOp (i := 10) (v := ?_) rfl (by kernel_rfl) (by kernel_rfl) (by kernel_rfl) (fun _ _ _ h => h) (by kernel_rfl) ?_ ?_
          rotate_left
          · intro w; go_simp; try with_reducible rfl
          refine takeOp (i := 11) (v := ?_) rfl (by kernel_rfl) (by kernel_rfl) (by kernel_rfl) (fun _ _ _ h => h) (by kernel_rfl) ?_ ?_
          rotate_left
          · intro w; go_simp; try with_reducible rfl
          refine takeOp (i := 12) (v := ?_) rfl (by kernel_rfl) (by kernel_rfl) (by kernel_rfl) (fun _ _ _ h => h) (by kernel_rfl) ?_ ?_
          rotate_left
          · intro w; go_simp; try with_reducible rfl
          refine wpAny_frame (a' := ?_) ?_ ?_
          rotate_left
          · go_simp; try with_reducible rfl
          refine wpAny_ready (rs := [5, 6]) (by kernel_rfl) (by simp) (AllReady.cons rfl (fun K hK => step_app rfl _ _ 39 rfl rfl rfl rA1 (hK _ _ ?_)) (AllReady.cons rfl (fun K hK => ?_) AllReady.nil))
          · clear hK K rA2 rB2 F2
            refine wpAny_frame (a' := ?_) ?_ ?_
            rotate_left
            · go_simp; try with_reducible rfl
            refine wpAny_ready (rs := [6]) (by kernel_rfl) (by simp) ?_
            refine AllReady.cons rfl (fun K hK => ?_) AllReady.nil
            go_simp
            refine hK _ _ ?_
            clear hK K
            refine wpAny_ready (rs := [13]) (by kernel_rfl) (by simp) (AllReady.cons rfl (fun K hK => step_app rfl _ _ 39 rfl rfl rfl rB1 (hK _ _ ?_)) AllReady.nil)
            clear hK K
            refine wpAny_frame (a' := ?_) ?_ ?_
            rotate_left
            · go_simp; try with_reducible rfl
            refine wpAny_ready (rs := [14]) (by kernel_rfl) (by simp) ?_
            refine AllReady.cons rfl (fun K hK => ?_) AllReady.nil
            go_simp
            refine hK _ _ ?_
            clear hK K
            refine wpAny_ready (rs := [15]) (by kernel_rfl) (by simp) ?_
            refine AllReady.cons rfl (fun K hK => ?_) AllReady.nil
            go_simp
            refine hK _ _ ?_
            clear hK K
            refine wpAny_ready (rs := [16]) (by kernel_rfl) (by simp) ?_
            refine AllReady.cons rfl (fun K hK => ?_) AllReady.nil
            go_simp
            refine hK _ _ ?_
            clear hK K
            refine wpAny_done (by kernel_rfl) ?_ _
            go_wp2
            go_ret3
            exact s2_yes HO.out F1.out.1 F1.out.2.1 F1.out.2.2
          · go_simp
            refine hK _ _ ?_
            clear hK K rA1 rB1 F1
            refine wpAny_ready (rs := [5]) (by kernel_rfl) (by simp) (AllReady.cons rfl (fun K hK => step_app rfl _ _ 39 rfl rfl rfl rA2 (hK _ _ ?_)) AllReady.nil)
            clear hK K
            refine wpAny_frame (a' := ?_) ?_ ?_
            rotate_left
            · go_simp; try with_reducible rfl
            refine wpAny_ready (rs := [13]) (by kernel_rfl) (by simp) (AllReady.cons rfl (fun K hK => step_app rfl _ _ 39 rfl rfl rfl rB2 (hK _ _ ?_)) AllReady.nil)
            clear hK K
            refine wpAny_frame (a' := ?_) ?_ ?_
            rotate_left
            · go_simp; try with_reducible rfl
            refine wpAny_ready (rs := [14]) (by kernel_rfl) (by simp) ?_
            refine AllReady.cons rfl (fun K hK => ?_) AllReady.nil
            go_simp
            refine hK _ _ ?_
            clear hK K
            refine wpAny_ready (rs := [15]) (by kernel_rfl) (by simp) ?_
            refine AllReady.cons rfl (fun K hK => ?_) AllReady.nil
            go_simp
            refine hK _ _ ?_
            clear hK K
            refine wpAny_ready (rs := [16]) (by kernel_rfl) (by simp) ?_
            refine AllReady.cons rfl (fun K hK => ?_) AllReady.nil
            go_simp
            refine hK _ _ ?_
            clear hK K
            refine wpAny_done (by kernel_rfl) ?_ _
            go_wp2
            go_ret3
            exact s2_yes HO.out F2.out.1 F2.out.2.1 F2.out.2.2
    · have HO := hideIt (show spO t u v = ([], [], false) by unfold spO; rw [if_neg (fun hh => by have := hh.2; omega)])
      rw [hk] at HG1
      clear hT h
      go_enter Tryz.func141, Tryz.ntmps141
      go_wp2_with (go_at_call 65; refine HT.out.mono ?_; rintro e w1 ⟨rfl, hb1⟩; refine Hid.out ?_)
      refine (show ∀ {p : Prop}, p → Hid p from fun h => h) ?_
      have B1 := S0.bel.trans (hb1.mono (by simp))
      have O1 := own_up S0.own hb1
      have HG3 := hideIt (HG1.out w1 B1)
      have HG4 := hideIt (HG2.out w1 B1)
      clear HT hb1 HG1 HG2
      go_wp2_with (first | (go_at_call 176; refine HG3.out.mono ?_; clear HG3; rintro e w2 ⟨rfl, hw⟩; have hw' := hw.symm; subst hw'; clear hw) | (go_at_call 176; refine HG4.out.mono ?_; rintro e w2 ⟨rfl, hw⟩; have hw' := hw.symm; subst hw'; clear hw))
      go_ret3
      exact s2_no HO.out O1 B1
end Go.Proofs.YtklalfkdikjkfaaGreat
namespace Go.Proofs.YtklalfkdikjkfaaGreat
open Go.RowKit

theorem rans_noC {w u : World} {N : Int} {o : Option (List (List Int))} (ho : o = none) (h : Below w.heap.size w u) : RAns w N o (.returned (.tuple #[.agg #[.int .i64 0, .slice none 0 0], .bool false])) u := by
  subst ho
  exact ⟨none, 0, 0, [], rfl, ⟨World.ownsRow_nil _ _ _ _, HdT.nil _ _, by simp⟩, h⟩
/-- a number in a row -/
theorem is_one {w : World} {x : Int} : Is (w.alloc (.cells #[.int .i64 x] 3)) (w.alloc (.cells #[.int .i64 x] 3)).heap.size (some ⟨w.heap.size, 0, none⟩) 1 [x] := ⟨rfl, .inr ⟨w.heap.size, 0, rfl, by simp, fun j z hz => by
  rcases j with _ | j
  · simp at hz; subst hz; simp
  · simp at hz⟩⟩
theorem ts_two {w : World} {x y : Option Addr} {cx cy : Nat} {t s : List Int} (h : Is w w.heap.size x t.length t) (hc : t.length ≤ cx) (h' : Is w w.heap.size y s.length s) (hc' : s.length ≤ cy) : Ts (w.alloc (.cells #[.slice x t.length cx, .slice y s.length cy] 39)) (w.alloc (.cells #[.slice x t.length cx, .slice y s.length cy] 39)).heap.size (some ⟨w.heap.size, 0, none⟩) 2 [t, s] := ⟨rfl, .inr ⟨w.heap.size, 0, rfl, by simp, fun j q hq => by
  rcases j with _ | _ | j
  · simp at hq
    subst hq
    exact ⟨x, cx, by simp, h.up ((Good.refl w).alloc _), hc⟩
  · simp at hq
    subst hq
    exact ⟨y, cy, by simp, h'.up ((Good.refl w).alloc _), hc'⟩
  · simp at hq⟩⟩
set_option maxRecDepth 100000 in
set_option maxHeartbeats 8000000 in
theorem sCut_any (N : Int) (ts : List (List Int)) (f : EdgeV) (n : Nat) (a : Option Addr) (c : Nat) (hn : n + lnS ts ≤ 1048576) (w : World) (h : Ts w w.heap.size a n ts) :
    Calls Tryz.prog 98 #[.agg #[.int .i64 N, .slice a n c], .agg #[.int .i64 f.1, .int .i64 f.2]] w fun e w' => RAns w N (cutO N ts f) e w' := by
  obtain ⟨W, hW⟩ : ∃ W, W = w3of w N a n c f := ⟨_, rfl⟩
  have hsz : W.heap.size = w.heap.size + 3 := by rw [hW, w3_size]
  have gW : Good w W := by rw [hW]; exact w3_good _ _ _ _ _ _
  have HA := hideIt (h.up gW)
  have HAw := hideIt h
  have hlen := h.1
  have HT : Hid (∀ x u, Good W u → Calls Tryz.prog 84 #[.agg #[.int .i64 N, .slice a n c], .int .i64 x] u fun e v => e = .returned (.int .i64 (treeO N ts x)) ∧ Good W v) := fun x u hu =>
    (sTreeOf_any N ts x n a c hn u (HA.out.up hu)).mono fun _ _ ⟨he, hb⟩ => ⟨he, hu.up hb⟩
  have HE : Hid (∀ u, Good W u → Calls Tryz.prog 79 #[.int .i64 N, .agg #[.int .i64 f.1, .int .i64 f.2]] u fun e v => e = .returned (.bool (eB N f)) ∧ Good W v) := fun u hu =>
    (sEdgeOk_any N f u).mono fun _ _ ⟨he, hb⟩ => ⟨he, hu.up hb⟩
  have HC : Hid (∀ u, Good W u → ((u.cell? ⟨w.heap.size, 0, none⟩ = some (.int .i64 N) ∧ u.cell? ⟨w.heap.size, 1, none⟩ = some (.slice a n c)) ∧ u.cell? ⟨w.heap.size + 1, 0, none⟩ = some (.int .i64 f.1) ∧ u.cell? ⟨w.heap.size + 1, 1, none⟩ = some (.int .i64 f.2)) ∧ Good W u) := fun u hu => ⟨w3_cells (hW ▸ hu), hu⟩
  have HO : Hid (∀ u, Below (w.heap.size + 3) W u → (u.cell? ⟨w.heap.size + 2, 0, none⟩ = some (.int .i64 0) ∧ u.cell? ⟨w.heap.size + 2, 1, none⟩ = some (.slice none 0 0)) ∧ u.frozen? ⟨w.heap.size + 2, 0, none⟩ = false ∧ u.frozen? ⟨w.heap.size + 2, 1, none⟩ = false) := fun u hu => w3_out (hW ▸ hu)
  have HNo : Hid (∀ u, Good W u → cutO N ts f = none → RAns w N (cutO N ts f) (.returned (.tuple #[.agg #[.int .i64 0, .slice none 0 0], .bool false])) ((u.setCell ⟨w.heap.size + 2, 0, none⟩ (.int .i64 0)).setCell ⟨w.heap.size + 2, 1, none⟩ (.slice none 0 0))) := fun u hu ho =>
    rans_noC ho (((gW.up hu).setCell (p := ⟨w.heap.size + 2, 0, none⟩) (by show w.heap.size ≤ w.heap.size + 2; omega) _).setCell (p := ⟨w.heap.size + 2, 1, none⟩) (by show w.heap.size ≤ w.heap.size + 2; omega) _)
  have HS0 := hideIt (HC.out _ (Good.refl W).drew)
  have HGW := hideIt gW
  go_enter Tryz.func98, Tryz.ntmps98
  go_upto_region 1 with fail
  clear h gW
  have hW' : (((w.alloc (.cells #[.int .i64 N, .slice a n c] 26)).alloc (.cells #[.int .i64 f.1, .int .i64 f.2] 28)).alloc (.cells #[.int .i64 0, .slice none 0 0] 26)) = W := hW.symm
  rw [hW']
  clear hW hW'
  obtain ⟨⟨⟨k0, k1⟩, k2, k3⟩, _⟩ := HC.out _ (Good.refl W)
  have HT0 := hideIt (HT.out f.1 W (Good.refl W))
  clear HS0
  go_wp2_with (go_at_call 84; refine HT0.out.mono ?_; rintro e w1 ⟨rfl, G1⟩; refine Hid.out ?_)
  refine (show ∀ {p : Prop}, p → Hid p from fun h => h) ?_
  clear k0 k1 k2 k3 HT0
  · skip
    obtain ⟨⟨⟨k0, k1⟩, k2, k3⟩, _⟩ := HC.out _ G1
    have HE1 := hideIt (HE.out _ G1)
    cases hE : eB N f with
    | false =>
      rw [hE] at HE1
      have HL := hideIt (cutO_no (N := N) (ts := ts) (e := f) (fun h => by rw [hE] at h; exact absurd h.2.1 (by simp)))
      clear hE
      go_wp2_with (go_at_call 79; refine HE1.out.mono ?_; rintro e w2 ⟨rfl, G2⟩; refine Hid.out ?_)
      refine (show ∀ {p : Prop}, p → Hid p from fun h => h) ?_
      obtain ⟨⟨r0, r1⟩, r2, r3⟩ := HO.out _ (by rw [← hsz]; exact G2)
      have HN2 := hideIt (HNo.out _ G2 HL.out)
      clear k0 k1 k2 k3
      go_wp2
      exact bodyPost_ret (v := .tuple #[.agg #[.int .i64 0, .slice none 0 0], .bool false]) (by simp [results, Tryz.results98, go_sem, r0, r1]) rfl HN2.out
    | true =>
      rw [hE] at HE1
      by_cases hP : FP N ts
      · obtain ⟨M, rfl, hM1, hM2⟩ := FP_nat hP
        obtain ⟨i, j, p, q, hi, hj, hu, hv⟩ := edge_at hP hE
        have e1 : treeO (M : Int) ts f.1 = (i : Int) := (treeO_yes hP f.1).trans (trI_of hP.q hi hu)
        rw [e1]
        have hil := (List.getElem?_eq_some_iff.1 hi).1
        rcases HA.out.2 with hz | ⟨b, off, rfl, hbl, hc⟩
        · omega
        · obtain ⟨x, cx, ci, ii, hcx⟩ := hc i p hi
          have hp := tB_len (hP.q.1 p (List.mem_of_getElem? hi)).1
          have HJ : Hid (∀ u, Good W u → Calls Tryz.prog 141 #[.slice x p.length cx, .int .i64 f.1, .int .i64 f.2] u fun e v => S2Ans u (spO p f.1 f.2) e v) := fun u hu =>
            sSplitTour_any p f.1 f.2 p.length x cx (by omega) hcx u (ii.up hu)
          have HC4 : Hid (∀ u, Good W u → (((u.cell? ⟨w.heap.size, 0, none⟩ = some (.int .i64 (M : Int)) ∧ u.cell? ⟨w.heap.size, 1, none⟩ = some (.slice (some ⟨b, off, none⟩) n c)) ∧ u.cell? ⟨w.heap.size + 1, 0, none⟩ = some (.int .i64 f.1) ∧ u.cell? ⟨w.heap.size + 1, 1, none⟩ = some (.int .i64 f.2)) ∧ u.cell? ⟨b, off + i, none⟩ = some (.slice x p.length cx)) ∧ Good W u) := fun u hu =>
            ⟨⟨(HC.out u hu).1, by rw [hu.cell hbl]; exact ci⟩, hu⟩
          have b1 : (0 : Int) ≤ (i : Int) := by omega
          have b2 : (i : Int) < (n : Int) := by omega
          have d1 : decide ((i : Int) < 0) = false := decide_eq_false (by omega)
          have HAw2 := HAw
          clear hc ii ci e1
          go_wp2_with (go_at_call 79; refine HE1.out.mono ?_; rintro e w2 ⟨rfl, G2⟩; refine Hid.out ?_)
          refine (show ∀ {p : Prop}, p → Hid p from fun h => h) ?_
          have g2d : Good W w2.drew := G2.drew
          have hS2 := HC4.out _ g2d
          clear k0 k1 k2 k3 HE1
          cases hsp : (spO p f.1 f.2).2.2 with
          | false =>
            have HL := hideIt (cutO_no (N := (M : Int)) (ts := ts) (e := f) (fun h => by
              have h3 := h.2.2
              rw [trI_of hP.q hi hu, tat_at hi, hsp] at h3
              cases h3))
            have HJ2 : Hid (∀ u, Good W u → Calls Tryz.prog 141 #[.slice x p.length cx, .int .i64 f.1, .int .i64 f.2] u fun e v => ∃ aJ mJ cJ aK mK cK, e = .returned (.tuple #[.slice aJ mJ cJ, .slice aK mK cK, .bool false]) ∧ Good W v) := fun u hu =>
              (HJ.out u hu).mono fun _ _ ⟨aJ, mJ, cJ, aK, mK, cK, he, _, _, hb⟩ => ⟨aJ, mJ, cJ, aK, mK, cK, by rw [he, hsp], hu.up hb⟩
            clear hi hj hu hv hE HJ hP hsp
            go_upto_region 4 with fail
            go_region_held3 (fun u => (((u.cell? ⟨w.heap.size, 0, none⟩ = some (.int .i64 (M : Int)) ∧ u.cell? ⟨w.heap.size, 1, none⟩ = some (.slice (some ⟨b, off, none⟩) n c)) ∧ u.cell? ⟨w.heap.size + 1, 0, none⟩ = some (.int .i64 f.1) ∧ u.cell? ⟨w.heap.size + 1, 1, none⟩ = some (.int .i64 f.2)) ∧ u.cell? ⟨b, off + i, none⟩ = some (.slice x p.length cx)) ∧ Good W u)
              (first | assumption)
              (first | (go_at_call 141; refine (HJ2.out _ (And.right (by assumption))).mono ?_; rintro e w3 ⟨aJ, mJ, cJ, aK, mK, cK, rfl, G3⟩; have hS3 := HC4.out _ G3))
            all_goals
              obtain ⟨⟨r0, r1⟩, r2, r3⟩ := HO.out _ (by rw [← hsz]; exact G3)
              have HN2 := hideIt (HNo.out _ G3 HL.out)
              go_wp2
              exact bodyPost_ret (v := .tuple #[.agg #[.int .i64 0, .slice none 0 0], .bool false]) (by simp [results, Tryz.results98, go_sem, r0, r1]) rfl HN2.out
          | true =>
            obtain ⟨A, B, hS⟩ : ∃ A B, spO p f.1 f.2 = (A, B, true) := ⟨_, _, by rw [← hsp]⟩
            rw [hS] at HJ
            have HL := hideIt (cutO_yes hP hE hi hu hS)
            obtain ⟨pp, cc, hSp, hvp⟩ := cut_sp hS
            have hAl := tB_len hSp.oka
            have hBl := tB_len hSp.okb
            have hFQ := cut_fq hP hi hS
            have HJ2 : Hid (∀ u, Good W u → Calls Tryz.prog 141 #[.slice x p.length cx, .int .i64 f.1, .int .i64 f.2] u fun e v => ∃ g cJ g' cK, e = .returned (.tuple #[.slice (some ⟨g, 0, none⟩) A.length cJ, .slice (some ⟨g', 0, none⟩) B.length cK, .bool true]) ∧ ((Is v v.heap.size (some ⟨g, 0, none⟩) A.length A ∧ A.length ≤ cJ) ∧ (Is v v.heap.size (some ⟨g', 0, none⟩) B.length B ∧ B.length ≤ cK)) ∧ (w.heap.size + 3 ≤ g ∧ w.heap.size + 3 ≤ g') ∧ Good W v) := fun u hu =>
              (HJ.out u hu).mono fun _ v ⟨aJ, mJ, cJ, aK, mK, cK, he, hA, hB, hb⟩ => by
                have hm : mJ = A.length := hA.len.symm
                have hm' : mK = B.length := hB.len.symm
                subst hm hm'
                obtain ⟨g, rfl, _, hg⟩ := own_some hA.own (by omega)
                obtain ⟨g', rfl, _, hg'⟩ := own_some hB.own (by omega)
                exact ⟨g, cJ, g', cK, he, ⟨⟨Is_of_own hA.own, (RwB.of_own hA.own).cap⟩, ⟨Is_of_own hB.own, (RwB.of_own hB.own).cap⟩⟩, ⟨by have := hu.size; omega, by have := hu.size; omega⟩, hu.up hb⟩
            have HWi : Hid (∀ u ao bi, Good W u → Is u u.heap.size ao 1 [(i : Int)] → Ts u u.heap.size (some ⟨bi, 0, none⟩) 2 [A, B] → Calls Tryz.prog 142 #[.agg #[.int .i64 (M : Int), .slice (some ⟨b, off, none⟩) n c], .slice ao 1 1, .slice (some ⟨bi, 0, none⟩) 2 2] u fun e v => ∃ a' m' c' hs, e = .returned (.agg #[.int .i64 (M : Int), .slice a' m' c']) ∧ (v.ownsRow u.heap.size 39 1 (.slice a' m' c') m' hs ∧ HdT v v.heap.size hs (srtK (woK ts [i] ts.length ++ [A, B]) M) ∧ ∀ y ∈ hs, NewOr u bi 0 y) ∧ Good W v) := fun u ao bi hu hI hT => by
              have hFQ' := hFQ
              rw [hlen] at hFQ'
              refine (l07With_any M ts [i] [A, B] n (some ⟨b, off, none⟩) c 1 ao 1 2 bi 0 2 hP hFQ' (by omega) (by omega) (by omega) u (HA.out.up hu) hI hT).mono ?_
              rintro e v ⟨a', m', c', hs, he, h1, h2⟩
              exact ⟨a', m', c', hs, he, by rw [hlen]; exact h1, hu.up h2⟩
            clear hi hj hu hv hE HJ hP hS hsp hSp hvp hFQ
            go_upto_region 4 with fail
            go_region_held3 (fun u => (((u.cell? ⟨w.heap.size, 0, none⟩ = some (.int .i64 (M : Int)) ∧ u.cell? ⟨w.heap.size, 1, none⟩ = some (.slice (some ⟨b, off, none⟩) n c)) ∧ u.cell? ⟨w.heap.size + 1, 0, none⟩ = some (.int .i64 f.1) ∧ u.cell? ⟨w.heap.size + 1, 1, none⟩ = some (.int .i64 f.2)) ∧ u.cell? ⟨b, off + i, none⟩ = some (.slice x p.length cx)) ∧ Good W u)
              (first | assumption)
              (first | (go_at_call 141; refine (HJ2.out _ (And.right (by assumption))).mono ?_; rintro e w3 ⟨g, cJ, g', cK, rfl, hrw, hgg, G3⟩; have hS3 := HC4.out _ G3))
            all_goals
              obtain ⟨⟨⟨k0, k1⟩, k2, k3⟩, _⟩ := HC.out _ G3
              have g4 : Good w3 (w3.alloc (.cells #[.int .i64 (i : Int)] 3)) := (Good.refl w3).alloc _
              have g5 : Good (w3.alloc (.cells #[.int .i64 (i : Int)] 3)) ((w3.alloc (.cells #[.int .i64 (i : Int)] 3)).alloc (.cells #[.slice (some ⟨g, 0, none⟩) A.length cJ, .slice (some ⟨g', 0, none⟩) B.length cK] 39)) := (Good.refl _).alloc _
              have HR3 := hideIt (HWi.out _ _ (w3.heap.size + 1) (G3.up (g4.up g5)) ((is_one (w := w3)).up g5) (by have := ts_two (cx := cJ) (cy := cK) (hrw.1.1.up g4) hrw.1.2 (hrw.2.1.up g4) hrw.2.2; simpa using this))
              have HNO : Hid (∀ y, NewOr ((w3.alloc (.cells #[.int .i64 (i : Int)] 3)).alloc (.cells #[.slice (some ⟨g, 0, none⟩) A.length cJ, .slice (some ⟨g', 0, none⟩) B.length cK] 39)) (w3.heap.size + 1) 0 y → HdL (w.heap.size + 3) y) := fun y hy b off s n c e => by
                have hs3 := G3.size
                rcases hy with hy | ⟨q, hq⟩
                · have := hy b off s n c e
                  simp at this
                  omega
                · have hh : (((w3.alloc (.cells #[.int .i64 (i : Int)] 3)).alloc (.cells #[.slice (some ⟨g, 0, none⟩) A.length cJ, .slice (some ⟨g', 0, none⟩) B.length cK] 39))).heap[w3.heap.size + 1]? = some (.cells #[.slice (some ⟨g, 0, none⟩) A.length cJ, .slice (some ⟨g', 0, none⟩) B.length cK] 39 (0, 0)) := by
                    have := heap_alloc_new (w3.alloc (.cells #[.int .i64 (i : Int)] 3)) (.cells #[.slice (some ⟨g, 0, none⟩) A.length cJ, .slice (some ⟨g', 0, none⟩) B.length cK] 39)
                    simpa using this
                  rw [cell_of_row _ _ _ _ _ _ hh] at hq
                  rcases q with _ | _ | q
                  · simp at hq
                    rw [← hq] at e
                    simp at e
                    have := hgg.1
                    omega
                  · simp at hq
                    rw [← hq] at e
                    simp at e
                    have := hgg.2
                    omega
                  · simp at hq
              clear HWi hrw HJ2 HT HE HC4 hS2 hS3 g4 g5
              go_wp2_with (go_at_call 142; refine HR3.out.mono ?_; rintro e w4 ⟨a4, m4, c4, hs4, rfl, F4, G4⟩; refine Hid.out ?_)
              refine (show ∀ {p : Prop}, p → Hid p from fun h => h) ?_
              obtain ⟨⟨r0, r1⟩, r2, r3⟩ := HO.out _ (by rw [← hsz]; exact G4)
              have hs3 := G3.size
              have HF5 := hideIt (with_set (X := w.heap.size + 2) ⟨F4.1, F4.2.1⟩ (by simp; omega) (fun y hy => (HNO.out y (F4.2.2 y hy)).ne (by omega)) (.int .i64 (M : Int)) (.slice a4 m4 c4))
              have HLo : Hid (∀ y ∈ hs4, HdL w.heap.size y) := fun y hy => (HNO.out y (F4.2.2 y hy)).mono (by omega)
              have hlo5 : w.heap.size ≤ ((w3.alloc (.cells #[.int .i64 (i : Int)] 3)).alloc (.cells #[.slice (some ⟨g, 0, none⟩) A.length cJ, .slice (some ⟨g', 0, none⟩) B.length cK] 39)).heap.size := by simp; omega
              have HB5 : Hid (Below w.heap.size w ((w4.setCell ⟨w.heap.size + 2, 0, none⟩ (.int .i64 (M : Int))).setCell ⟨w.heap.size + 2, 1, none⟩ (.slice a4 m4 c4))) := ((HGW.out.up G4).setCell (p := ⟨w.heap.size + 2, 0, none⟩) (by show w.heap.size ≤ w.heap.size + 2; omega) _).setCell (p := ⟨w.heap.size + 2, 1, none⟩) (by show w.heap.size ≤ w.heap.size + 2; omega) _
              clear F4 G4 k0 k1 k2 k3 HNO
              go_wp2
              exact bodyPost_ret (v := .tuple #[.agg #[.int .i64 (M : Int), .slice a4 m4 c4], .bool true]) (by simp [results, Tryz.results98, go_sem, r0, r1]) rfl ⟨a4, m4, c4, hs4, by rw [HL.out]; rfl, by rw [HL.out]; exact ⟨own_mono HF5.out.1 hlo5, HF5.out.2, HLo.out⟩, HB5.out⟩
      · have HL := hideIt (cutO_no (N := N) (ts := ts) (e := f) (fun h => hP h.1))
        have e1 := treeO_no hP f.1
        have d1 : decide ((-1 : Int) < 0) = true := by decide
        rw [e1]
        clear hE e1
        go_wp2_with (go_at_call 79; refine HE1.out.mono ?_; rintro e w2 ⟨rfl, G2⟩; refine Hid.out ?_)
        refine (show ∀ {p : Prop}, p → Hid p from fun h => h) ?_
        obtain ⟨⟨r0, r1⟩, r2, r3⟩ := HO.out _ (by rw [← hsz]; exact G2)
        have HN2 := hideIt (HNo.out _ G2 HL.out)
        clear k0 k1 k2 k3
        go_wp2
        exact bodyPost_ret (v := .tuple #[.agg #[.int .i64 0, .slice none 0 0], .bool false]) (by simp [results, Tryz.results98, go_sem, r0, r1]) rfl HN2.out
end Go.Proofs.YtklalfkdikjkfaaGreat
namespace Go.Proofs.YtklalfkdikjkfaaGreat
open Go.RowKit

theorem Cur.box7 {u : World} {G b : Nat} {a : Option Addr} {len cap : Nat} {t : TypeId} {x y : Value} (hc : Cur u G a len cap) (hb : Box7 u b t x y) : b ≠ G := by
  rintro rfl
  obtain ⟨i, h, _, hG⟩ := hc
  unfold Box7 at hb
  rw [hG] at hb
  simp at hb
theorem Drawn.keep7 {u v : World} {G : Nat} {a : Option Addr} {len cap : Nat} (d : Drawn u v G a len cap) (hc : Cur u G a len cap) : Keep7 u v := fun _ _ _ _ hb => hb.grown d.grown (by simpa using hc.box7 hb)
theorem Drawn.refl7 {u : World} {G : Nat} {a : Option Addr} {len cap : Nat} (hc : Cur u G a len cap) (hd : Code u G a len) : Drawn u u G a len cap := ⟨hc, hd, ⟨rfl, rfl, rfl, Nat.le_refl _, fun _ _ _ => rfl⟩⟩
theorem Drawn.up7 {w u v : World} {G : Nat} {a : Option Addr} {len cap : Nat} (h : Drawn w u G a len cap) (hb : Below u.heap.size u v) : Drawn w v G a len cap := ⟨h.cur.up7 hb, h.code.up7 hb, grown_up7 h.grown (hb.mono h.grown.size)⟩
theorem Drawn.al7 {w u : World} {G : Nat} {a : Option Addr} {len cap : Nat} (h : Drawn w u G a len cap) (o : Obj) : Drawn w (u.alloc o) G a len cap := h.up7 ((Below.refl _ _).alloc (Nat.le_refl _) _)
theorem Drawn.drew7 {w u : World} {G : Nat} {a : Option Addr} {len cap : Nat} (h : Drawn w u G a len cap) : Drawn w u.drew G a len cap := h.up7 (Below.refl _ _).drew
theorem Drawn.set7 {w u : World} {G b j : Nat} {a : Option Addr} {len cap : Nat} {v : Value} (h : Drawn w u G a len cap) (hG : G < w.heap.size) (hc : Code w G a len) (hb : w.heap.size ≤ b) : Drawn w (u.setCell ⟨b, j, none⟩ v) G a len cap := by
  have hgw := grown_up7 h.grown ((Below.refl w.heap.size u).setCell (p := ⟨b, j, none⟩) hb v)
  exact ⟨h.cur.grownX7 (grown_set u b j v) (by omega), hc.kept hgw, hgw⟩
theorem TL.re {u : World} {lo X Y : Nat} {a : Option Addr} {m c : Nat} {ts : List (List Int)} (h : TL u lo X a m c ts) (hY : Y < lo) : TL u lo Y a m c ts := by
  obtain ⟨hs, h1, h2, h3⟩ := h
  exact ⟨hs, h1, h2, fun v hv => ⟨(h3 v hv).1, (h3 v hv).1.ne hY⟩⟩
theorem TL.stored {u : World} {lo X b : Nat} {a : Option Addr} {m c : Nat} {hs : List Value} {ts : List (List Int)} {v0 v1 x y : Value} (hb : Box7 u b 26 v0 v1) (h1 : u.ownsRow lo 39 1 (.slice a m c) m hs) (h2 : HdT u u.heap.size hs ts) (h3 : ∀ v ∈ hs, HdL lo v) (hn : ∀ v ∈ hs, HdN b v) (hX : X < lo) :
    TL ((u.setCell ⟨b, 0, none⟩ x).setCell ⟨b, 1, none⟩ y) lo X a m c ts := by
  have hb0 : Box7 (u.setCell ⟨b, 0, none⟩ x) b 26 x v1 := by
    unfold Box7
    rw [heap_setCell_same _ b 0 _ 26 _ hb]; rfl
  exact (((show TL u lo b a m c ts from ⟨hs, h1, h2, fun v hv => ⟨h3 v hv, hn v hv⟩⟩).setX hb x).setX hb0 y).re hX
theorem edges_few {N : Int} {ts : List (List Int)} (h : FP N ts) : (edgesO N ts).length ≤ 1000 := by
  have hB : ∀ t ∈ ts, tB t = true := fun t ht => (h.q.1 t ht).1
  have h1 := allE_len hB
  have h2 := FP_small h
  unfold lnS at h2
  rw [edgesO_yes h, srtE_len, ← (allU_perm hB).length_eq]
  omega
theorem sEd_l {N : Nat} {ts : List (List Int)} (hP : FP (N : Int) ts) (u : World) {lo X : Nat} {a : Option Addr} {m c : Nat} (h : TL u lo X a m c ts) :
    Calls Tryz.prog 97 #[.agg #[.int .i64 (N : Int), .slice a m c]] u fun x v => ∃ a' m' c', x = .returned (.slice a' m' c') ∧ m' ≤ 1000 ∧ Hid (v.ownsRow u.heap.size 28 2 (.slice a' m' c') m' (ecells (edgesO (N : Int) ts))) ∧ Below u.heap.size u v :=
  (sEdgesOf_any (N : Int) ts m a c (by have := FP_small hP; have := h.ts.1; omega) u h.ts).mono fun _ _ ⟨a', m', c', hx, ho, hb⟩ => ⟨a', m', c', hx, by have := ho.1; rw [ecells_length] at this; have := edges_few hP; omega, ho, hb⟩
theorem sCut_l {N : Nat} {ts : List (List Int)} (hP : FP (N : Int) ts) {e : EdgeV} (he : e ∈ edgesO (N : Int) ts) (u : World) {lo X : Nat} {a : Option Addr} {m c : Nat} (h : TL u lo X a m c ts) (hX : X < u.heap.size) (hlo : lo ≤ u.heap.size) :
    Calls Tryz.prog 98 #[.agg #[.int .i64 (N : Int), .slice a m c], .agg #[.int .i64 e.1, .int .i64 e.2]] u fun x v => ∃ a2 m2 c2 gs, x = .returned (.tuple #[.agg #[.int .i64 (N : Int), .slice a2 m2 c2], .bool true]) ∧ Hid (FP (N : Int) gs) ∧ Hid (TL v lo X a2 m2 c2 gs) ∧ Below u.heap.size u v := by
  obtain ⟨gs, hg, hPg⟩ := edge_cut hP he
  refine (sCut_any (N : Int) ts e m a c (by have := FP_small hP; have := h.ts.1; omega) u h.ts).mono ?_
  rw [hg]
  rintro _ v ⟨a2, m2, c2, hs, hx, ⟨o1, o2, o3⟩, hb⟩
  exact ⟨a2, m2, c2, gs, hx, hPg, (TL.nw o1 o2 o3 hX).lo hlo, hb⟩
theorem sLink_l {N : Nat} {ts : List (List Int)} (hP : FP (N : Int) ts) (e : EdgeV) (u : World) {lo X : Nat} {a : Option Addr} {m c : Nat} (h : TL u lo X a m c ts) :
    Calls Tryz.prog 99 #[.agg #[.int .i64 (N : Int), .slice a m c], .agg #[.int .i64 e.1, .int .i64 e.2]] u fun x v => ∃ (b : Bool) (M : Nat) (a2 : Option Addr) (m2 c2 : Nat) (hs : List Value) (gs : List (List Int)), x = .returned (.tuple #[.agg #[.int .i64 (M : Int), .slice a2 m2 c2], .bool b]) ∧ Hid (b = true → M = N ∧ FP (N : Int) gs) ∧ (v.ownsRow u.heap.size 39 1 (.slice a2 m2 c2) m2 hs ∧ HdT v v.heap.size hs gs ∧ ∀ y ∈ hs, HdL u.heap.size y) ∧ Below u.heap.size u v := by
  refine (sLink_any (N : Int) ts e m a c (by have := FP_small hP; have := h.ts.1; omega) u h.ts).mono ?_
  cases hg : linkO (N : Int) ts e with
  | none =>
    rintro _ v ⟨a2, m2, c2, hs, hx, ho, hb⟩
    exact ⟨false, 0, a2, m2, c2, hs, [], hx, fun e => absurd e (by decide), ho, hb⟩
  | some gs =>
    rintro _ v ⟨a2, m2, c2, hs, hx, ho, hb⟩
    exact ⟨true, N, a2, m2, c2, hs, gs, hx, fun _ => ⟨rfl, link_fp hg⟩, ho, hb⟩
theorem sNew_l {N : Nat} (h1 : 1 ≤ N) (h2 : N ≤ 12) (u : World) :
    Calls Tryz.prog 96 #[.int .i64 (N : Int)] u fun x v => ∃ a2 m2 c2, x = .returned (.tuple #[.agg #[.int .i64 (N : Int), .slice a2 m2 c2], .bool true]) ∧ Hid (TL v u.heap.size v.heap.size a2 m2 c2 (newT N)) ∧ Below u.heap.size u v := by
  refine (sForestNew_any (N : Int) u).mono ?_
  rw [newO_yes h1 h2]
  rintro _ v ⟨a2, m2, c2, R, hx, hF, hr, hb⟩
  refine ⟨a2, m2, c2, hx, ?_, hb⟩
  have hr : rts R = newT N := hr
  have hd := hF.hdt
  rw [hr] at hd
  exact TL.of (newT_fp h1 h2) hF.own hd hF.hdl

set_option maxRecDepth 100000 in
set_option maxHeartbeats 8000000 in
theorem l07Forest_any (w : World) (G : Nat) (a : Option Addr) (len cap : Nat) (hl : len ≤ 1048576) (hcur : Cur w G a len cap) (hcode : Code w G a len) :
    Calls Tryz.prog 48 #[.pointer (some ⟨G, 0, none⟩)] w fun x w' => ∃ (nn X : Nat) (a' : Option Addr) (m c' : Nat) (ts : List (List Int)), 2 ≤ nn ∧ nn ≤ 12 ∧ Hid (FP (nn : Int) ts) ∧ x = .returned (.agg #[.int .i64 (nn : Int), .slice a' m c']) ∧ Hid (TL w' w.heap.size X a' m c' ts) ∧ Drawn w w' G a len cap := by
  have hb0 : Below w.heap.size w (w.alloc (.cells #[.int .i64 0, .slice none 0 0] 26)) := (Below.refl _ _).alloc (Nat.le_refl _) _
  have HB := hideIt (fun (n : Int) (h0 : 0 < n) (h1 : n ≤ 4294967296) (W : World) (hc : Cur W G a len cap) (hd : Code W G a len) => l01Below_any n h0 h1 W G a len cap hl hc hd)
  have HCode := hideIt hcode
  have hG := hcur.lt7
  have HGr : Hid (w.grownBy (w.alloc (.cells #[.int .i64 0, .slice none 0 0] 26)) (some G)) := grown_of_below hb0 _
  have HX := hideIt (HB.out 11 (by omega) (by omega) _ (hcur.up7 hb0) (hcode.up7 hb0))
  have R0 := Box7.new w 26 (.int .i64 0) (.slice none 0 0) w.heap.size rfl
  clear hcur hcode hb0
  go_enter Tryz.func48, Tryz.ntmps48
  go_wp2_with (go_at_call 69; refine HX.out.mono ?_; rintro e w1 ⟨x, hx, rfl, d1⟩; refine Hid.out ?_)
  refine (show ∀ {p : Prop}, p → Hid p from fun h => h) ?_
  have hz1 : w.heap.size < w1.heap.size := by have := d1.grown.size; simp at this; omega
  have hr := R0.grown d1.grown (by simp; omega)
  have HDr : Hid (Cur w1 G a len cap ∧ Box7 w1 w.heap.size 26 (.int .i64 0) (.slice none 0 0) ∧ w.grownBy w1 (some G)) := ⟨d1.cur, hr, grownT HGr.out d1.grown⟩
  have HN := hideIt (sNew_l (N := x + 2) (by omega) (by omega) w1)
  have en : (2 : Int) + (x : Int) = ((x + 2 : Nat) : Int) := by omega
  obtain ⟨nn, hnn⟩ : ∃ nn, nn = x + 2 := ⟨_, rfl⟩
  rw [← hnn] at HN en
  have hn2 : 2 ≤ nn := by omega
  have hn12 : nn ≤ 12 := by omega
  clear HX d1 R0 HGr hnn hr
  go_wp2_with (go_at_call 96; refine HN.out.mono ?_; rintro e wF ⟨a1, m1, c1, rfl, HT1, hb1⟩; refine Hid.out ?_)
  refine (show ∀ {p : Prop}, p → Hid p from fun h => h) ?_
  obtain ⟨X, hX⟩ : ∃ X, X = wF.heap.size := ⟨_, rfl⟩
  have HD0 : Hid (FDr w G X a len cap nn a1 m1 c1 (newT nn) (wF.alloc (.cells #[.int .i64 (nn : Int), .slice a1 m1 c1] 26))) := by
    subst hX
    have hu : Below w1.heap.size w1 (wF.alloc (.cells #[.int .i64 (nn : Int), .slice a1 m1 c1] 26)) := hb1.alloc hb1.size _
    have hs1 := hb1.size
    exact ⟨HDr.out.1.up7 hu, HDr.out.2.1.up hu, Box7.new _ _ _ _ _ rfl, (HT1.out.lo (by omega)).up ((Below.refl _ _).alloc (Nat.le_refl _) _), grown_up7 HDr.out.2.2 (hu.mono (by omega)), hG, by omega⟩
  have HP0 : Hid (FP (nn : Int) (newT nn)) := newT_fp (by omega) hn12
  clear HN HDr HT1 hb1 en
  go_wp2
  rw [← hX]
  go_loopw [5] (fun i wr => ∃ (k : Nat) (a' : Option Addr) (m c' : Nat) (ts : List (List Int)), k ≤ 16 ∧ i = .int .i64 (k : Int) ∧ Hid (FP (nn : Int) ts) ∧ Hid (FDr w G X a len cap nn a' m c' ts wr)) (fun i _ => 17 - (intOf i).toNat)
  case atStart => exact ⟨0, a1, m1, c1, _, by omega, rfl, HP0, HD0⟩
  case round =>
    obtain ⟨k, a', m, c', ts, hk, rfl, hP, hD⟩ := hrel
    clear HD0 HP0 hX
    have HX := hideIt (HB.out 16 (by omega) (by omega) wr hD.out.cur (hD.out.code HCode.out))
    go_wp2_with (go_at_call 69; refine HX.out.mono ?_; rintro e w2 ⟨y, hy, rfl, dr2⟩; refine Hid.out ?_)
    refine (show ∀ {p : Prop}, p → Hid p from fun h => h) ?_
    have D2 := hideIt (hD.out.drawn dr2)
    clear HX dr2 hD
    by_cases hkx : k < y
    · have d1 : decide ((k : Int) < (y : Int)) = true := decide_eq_true (by omega)
      have q0 := D2.out.box.cell0
      have q1 := D2.out.box.cell1
      have HX := hideIt (sEd_l hP.out w2 D2.out.tl)
      go_wp2_with (go_at_call 97; refine HX.out.mono ?_; rintro e w3 ⟨a3, m3, c3, rfl, hm3, ho3, hb3⟩; refine Hid.out ?_)
      refine (show ∀ {p : Prop}, p → Hid p from fun h => h) ?_
      have D3 := hideIt (D2.out.up hb3)
      have hl3 : G < w2.heap.size := D2.out.cur.lt7
      clear HX D2 hb3 q0 q1
      by_cases hm : 0 < m3
      · have d2 : decide ((0 : Int) < (m3 : Int)) = true := decide_eq_true (by omega)
        have HX := hideIt (l01Once_any 4 (by omega) (by omega) w3 G a len cap hl D3.out.cur (D3.out.code HCode.out))
        go_wp2_with (go_at_call 68; refine HX.out.mono ?_; rintro e w4 ⟨bo, rfl, dr4⟩; refine Hid.out ?_)
        refine (show ∀ {p : Prop}, p → Hid p from fun h => h) ?_
        have D4 := hideIt (D3.out.drawn dr4)
        have ho4 := hideIt (World.ownsRow.kept ho3.out dr4.grown (.inr fun e => by have := (ho3.out.lt G e).1; omega))
        clear HX D3 dr4 ho3
        cases bo with
        | true =>
          obtain ⟨g3, c32, hform, _, _⟩ := ho4.out.form (by omega)
          simp at hform
          obtain ⟨rfl, rfl⟩ := hform
          have hml : (edgesO (nn : Int) ts).length = m3 := by have := ho4.out.1; rw [ecells_length] at this; omega
          have D4d := hideIt (D4.out.up (Below.refl _ _).drew)
          have HX : Hid (Calls Tryz.prog 69 #[.pointer (some ⟨G, 0, none⟩), .int .i64 (m3 : Int)] w4.drew fun e v => ∃ (x : Nat) (f : EdgeV), (x : Int) < (m3 : Int) ∧ e = .returned (.int .i64 (x : Int)) ∧ v.cell? ⟨g3, x * 2, none⟩ = some (.int .i64 f.1) ∧ v.cell? ⟨g3, x * 2 + 1, none⟩ = some (.int .i64 f.2) ∧ Hid (f ∈ edgesO (nn : Int) ts) ∧ Hid (FDr w G X a len cap nn a' m c' ts v)) := by
            refine (l01Below_any (m3 : Int) (by omega) (by omega) w4.drew G a len cap hl D4d.out.cur (D4d.out.code HCode.out)).mono ?_
            rintro e v ⟨x, hx, he, d5⟩
            obtain ⟨f, hf⟩ : ∃ f, (edgesO (nn : Int) ts)[x]? = some f := ⟨(edgesO (nn : Int) ts)[x]'(by omega), List.getElem?_eq_getElem (by omega)⟩
            have hO5 : v.ownsRow w2.heap.size 28 2 (.slice (some ⟨g3, 0, none⟩) m3 c3) m3 (ecells (edgesO (nn : Int) ts)) := World.ownsRow.kept (w := w4.drew) ho4.out d5.grown (.inr fun e => by have := (ho4.out.lt G e).1; omega)
            have hat := ecells_at _ x f hf
            exact ⟨x, f, hx, he, (hO5.cellAt (x * 2) (by omega)).trans hat.1, (hO5.cellAt (x * 2 + 1) (by omega)).trans hat.2, List.mem_of_getElem? hf, D4d.out.drawn d5⟩
          have HC : Hid (∀ (f : EdgeV) (v : World), Hid (f ∈ edgesO (nn : Int) ts) → Hid (FDr w G X a len cap nn a' m c' ts v) → Calls Tryz.prog 98 #[.agg #[.int .i64 (nn : Int), .slice a' m c'], .agg #[.int .i64 f.1, .int .i64 f.2]] v fun x u => ∃ a2 m2 c2 gs, x = .returned (.tuple #[.agg #[.int .i64 (nn : Int), .slice a2 m2 c2], .bool true]) ∧ Hid (FP (nn : Int) gs) ∧ Hid (TL u (w.heap.size + 1) X a2 m2 c2 gs) ∧ Hid (FDr w G X a len cap nn a' m c' ts u)) := fun f v hf hv =>
            (sCut_l hP.out hf.out v hv.out.tl hv.out.box.lt hv.out.res.lt).mono fun _ _ ⟨a2, m2, c2, gs, h1, h2, h3, h4⟩ => ⟨a2, m2, c2, gs, h1, h2, h3, hv.out.up h4⟩
          have q0 := D4.out.box.cell0
          have q1 := D4.out.box.cell1
          clear hml ho4 D4 D4d
          go_upto_region 7 with fail
          go_region_with (first
            | (go_at_call 69; refine HX.out.mono ?_; clear HX; rintro e w5 ⟨x, f, hx, rfl, e0, e1, hf, D5⟩; have x0 : (0 : Int) ≤ (x : Int) := (by omega); have r0 := D5.out.box.cell0; have r1 := D5.out.box.cell1)
            | (go_at_call 98; refine (HC.out f w5 hf D5).mono ?_; rintro e w6 ⟨a2, m2, c2, gs, rfl, HP6, HT6, D6⟩; have s0 := D6.out.box.cell0; have s1 := D6.out.box.cell1; have t0 := D6.out.box.frozen 0; have t1 := D6.out.box.frozen 1))
          all_goals
            have D7 := hideIt (D6.out.put (M := nn) HT6.out)
            go_wp2
            exact ⟨⟨k + 1, a2, m2, c2, gs, by omega, by go_num, HP6, D7⟩, by simp [intOf]; omega⟩
        | false =>
          have HCd := hideIt (D4.out.code HCode.out)
          have hGl : G < w4.heap.size := D4.out.cur.lt7
          have hXl : X < w4.heap.size := D4.out.box.lt
          have hRl : w.heap.size + 1 ≤ w4.heap.size := D4.out.res.lt
          have HS : Hid (∀ u, Drawn w4 u G a len cap → ((u.cell? ⟨X, 0, none⟩ = some (.int .i64 (nn : Int)) ∧ u.cell? ⟨X, 1, none⟩ = some (.slice a' m c')) ∧ Drawn w4 u G a len cap)) := fun u hu => ⟨⟨(D4.out.drawn hu).box.cell0, (D4.out.drawn hu).box.cell1⟩, hu⟩
          have hS0 := HS.out _ (Drawn.refl7 D4.out.cur HCd.out).drew7
          have HEd : Hid (∀ u, Drawn w4 u G a len cap → Calls Tryz.prog 49 #[.pointer (some ⟨G, 0, none⟩), .int .i64 (nn : Int)] u fun x v => ∃ e : EdgeV, x = .returned (.agg #[.int .i64 e.1, .int .i64 e.2]) ∧ Drawn w4 v G a len cap ∧ Keep7 u v) := fun u hu =>
            (l05Edge_any nn hn2 hn12 u G a len cap hl hu.cur hu.code).mono fun _ _ ⟨e, _, hx, d⟩ => ⟨e, hx, hu.trans d, d.keep7 hu.cur⟩
          have HLk : Hid (∀ u (e : EdgeV), Drawn w4 u G a len cap → Calls Tryz.prog 99 #[.agg #[.int .i64 (nn : Int), .slice a' m c'], .agg #[.int .i64 e.1, .int .i64 e.2]] u fun x v => ∃ (b : Bool) (M : Nat) (a2 : Option Addr) (m2 c2 : Nat) (hs : List Value) (gs : List (List Int)), x = .returned (.tuple #[.agg #[.int .i64 (M : Int), .slice a2 m2 c2], .bool b]) ∧ Hid (b = true → M = nn ∧ FP (nn : Int) gs) ∧ Hid (v.ownsRow w4.heap.size 39 1 (.slice a2 m2 c2) m2 hs ∧ HdT v v.heap.size hs gs ∧ ∀ y ∈ hs, HdL w4.heap.size y) ∧ Drawn w4 v G a len cap ∧ Keep7 u v ∧ Away u hs) := fun u e hu =>
            (sLink_l (hP.out) e u (D4.out.drawn hu).tl).mono fun _ _ ⟨b, M, a2, m2, c2, hs, gs, hx, hb, ⟨o1, o2, o3⟩, hv⟩ => ⟨b, M, a2, m2, c2, hs, gs, hx, hb, ⟨own_mono o1 hu.grown.size, o2, fun y hy => (o3 y hy).mono hu.grown.size⟩, hu.up7 hv, Keep7.of hv, fun _ hbx y hy => (o3 y hy).ne hbx.lt⟩
          go_upto_region 8 with fail
          go_cut [7, 8] (fun p ok wx => ∃ (b7 : Nat) (b : Bool) (M : Nat) (a2 : Option Addr) (m2 c2 : Nat) (gs : List (List Int)), p = .pointer (some ⟨b7, 0, none⟩) ∧ ok = .bool b ∧ Box7 wx b7 26 (.int .i64 (M : Int)) (.slice a2 m2 c2) ∧ Hid (b = true → M = nn ∧ FP (nn : Int) gs) ∧ Hid (TL wx (w.heap.size + 1) X a2 m2 c2 gs) ∧ Hid (Drawn w4 wx G a len cap))
          case first =>
            go_region_held3 (fun u => (u.cell? ⟨X, 0, none⟩ = some (.int .i64 (nn : Int)) ∧ u.cell? ⟨X, 1, none⟩ = some (.slice a' m c')) ∧ Drawn w4 u G a len cap)
              (first | assumption | exact HS.out _ (Drawn.al7 (And.right (by assumption)) _) | exact HS.out _ (Drawn.set7 (Drawn.set7 (And.right (by assumption)) hGl HCd.out (by omega)) hGl HCd.out (by omega)))
              (first
                | (go_at_call 49; refine (HEd.out _ (And.right (by assumption))).mono ?_; rintro x w6 ⟨e, rfl, d6, k6⟩; have hS6 := HS.out _ d6; have z6 := d6.grown.size; try (have bx := k6.nil (Box7.new w4 _ _ _ _ rfl)))
                | (go_at_call 99; refine (HLk.out _ e (And.right (by assumption))).mono ?_; rintro x w7 ⟨b, M, a2, m2, c2, hs7, gs, rfl, hb7, ho7, d7, k7, n7⟩; have hS7 := HS.out _ d7; have z7 := d7.grown.size; (first | have nx := n7 _ bx | have nx := n7 _ (Box7.new w6 _ _ _ _ rfl) | skip); (first | have bx := k7.nil bx | have bx := k7.nil (Box7.new w6 _ _ _ _ rfl) | skip); try (have bc0 := bx.cell0; have bc1 := bx.cell1; have bz0 := bx.frozen 0; have bz1 := bx.frozen 1)))
            all_goals
              go_wp2_with fail
              go_meet
              first
                | exact ⟨_, b, M, a2, m2, c2, gs, rfl, rfl, bx.set _ _, hb7, (TL.stored bx ho7.out.1 ho7.out.2.1 ho7.out.2.2 nx hXl).lo hRl, Drawn.set7 (Drawn.set7 d7 hGl HCd.out (by omega)) hGl HCd.out (by omega)⟩
                | exact ⟨_, b, M, a2, m2, c2, gs, rfl, rfl, Box7.new _ _ _ _ _ rfl, hb7, ((TL.nw ho7.out.1 ho7.out.2.1 ho7.out.2.2 hXl).lo hRl).up ((Below.refl _ _).alloc (Nat.le_refl _) _), d7.al7 _⟩
          case rest =>
            obtain ⟨b7, b, M, a2, m2, c2, gs, rfl, rfl, bx, hb7, ht, dd⟩ := hcut
            have D9 := hideIt (D4.out.drawn dd.out)
            clear HCd HS hS0 HEd HLk D4
            cases b with
            | false =>
              go_wp2
              exact ⟨⟨k + 1, a', m, c', ts, by omega, by go_num, hP, D9⟩, by simp [intOf]; omega⟩
            | true =>
              have HP2 : Hid (FP (nn : Int) gs) := (hb7.out rfl).2
              obtain rfl : M = nn := (hb7.out rfl).1
              have D10 := hideIt (D9.out.put (M := M) ht.out)
              have r0 := bx.cell0
              have r1 := bx.cell1
              have s0 := D9.out.box.cell0
              have s1 := D9.out.box.cell1
              have t0 := D9.out.box.frozen 0
              have t1 := D9.out.box.frozen 1
              clear D9 ht dd hb7 bx
              go_wp2
              exact ⟨⟨k + 1, a2, m2, c2, gs, by omega, by go_num, HP2, D10⟩, by simp [intOf]; omega⟩
      · obtain rfl : m3 = 0 := by omega
        have HCd := hideIt (D3.out.code HCode.out)
        have hGl : G < w3.heap.size := D3.out.cur.lt7
        have hXl : X < w3.heap.size := D3.out.box.lt
        have hRl : w.heap.size + 1 ≤ w3.heap.size := D3.out.res.lt
        have HS : Hid (∀ u, Drawn w3 u G a len cap → ((u.cell? ⟨X, 0, none⟩ = some (.int .i64 (nn : Int)) ∧ u.cell? ⟨X, 1, none⟩ = some (.slice a' m c')) ∧ Drawn w3 u G a len cap)) := fun u hu => ⟨⟨(D3.out.drawn hu).box.cell0, (D3.out.drawn hu).box.cell1⟩, hu⟩
        have hS0 := HS.out _ (Drawn.refl7 D3.out.cur HCd.out).drew7
        have HEd : Hid (∀ u, Drawn w3 u G a len cap → Calls Tryz.prog 49 #[.pointer (some ⟨G, 0, none⟩), .int .i64 (nn : Int)] u fun x v => ∃ e : EdgeV, x = .returned (.agg #[.int .i64 e.1, .int .i64 e.2]) ∧ Drawn w3 v G a len cap ∧ Keep7 u v) := fun u hu =>
          (l05Edge_any nn hn2 hn12 u G a len cap hl hu.cur hu.code).mono fun _ _ ⟨e, _, hx, d⟩ => ⟨e, hx, hu.trans d, d.keep7 hu.cur⟩
        have HLk : Hid (∀ u (e : EdgeV), Drawn w3 u G a len cap → Calls Tryz.prog 99 #[.agg #[.int .i64 (nn : Int), .slice a' m c'], .agg #[.int .i64 e.1, .int .i64 e.2]] u fun x v => ∃ (b : Bool) (M : Nat) (a2 : Option Addr) (m2 c2 : Nat) (hs : List Value) (gs : List (List Int)), x = .returned (.tuple #[.agg #[.int .i64 (M : Int), .slice a2 m2 c2], .bool b]) ∧ Hid (b = true → M = nn ∧ FP (nn : Int) gs) ∧ Hid (v.ownsRow w3.heap.size 39 1 (.slice a2 m2 c2) m2 hs ∧ HdT v v.heap.size hs gs ∧ ∀ y ∈ hs, HdL w3.heap.size y) ∧ Drawn w3 v G a len cap ∧ Keep7 u v ∧ Away u hs) := fun u e hu =>
          (sLink_l (hP.out) e u (D3.out.drawn hu).tl).mono fun _ _ ⟨b, M, a2, m2, c2, hs, gs, hx, hb, ⟨o1, o2, o3⟩, hv⟩ => ⟨b, M, a2, m2, c2, hs, gs, hx, hb, ⟨own_mono o1 hu.grown.size, o2, fun y hy => (o3 y hy).mono hu.grown.size⟩, hu.up7 hv, Keep7.of hv, fun _ hbx y hy => (o3 y hy).ne hbx.lt⟩
        go_upto_region 8 with fail
        go_cut [7, 8] (fun p ok wx => ∃ (b7 : Nat) (b : Bool) (M : Nat) (a2 : Option Addr) (m2 c2 : Nat) (gs : List (List Int)), p = .pointer (some ⟨b7, 0, none⟩) ∧ ok = .bool b ∧ Box7 wx b7 26 (.int .i64 (M : Int)) (.slice a2 m2 c2) ∧ Hid (b = true → M = nn ∧ FP (nn : Int) gs) ∧ Hid (TL wx (w.heap.size + 1) X a2 m2 c2 gs) ∧ Hid (Drawn w3 wx G a len cap))
        case first =>
          go_region_held3 (fun u => (u.cell? ⟨X, 0, none⟩ = some (.int .i64 (nn : Int)) ∧ u.cell? ⟨X, 1, none⟩ = some (.slice a' m c')) ∧ Drawn w3 u G a len cap)
            (first | assumption | exact HS.out _ (Drawn.al7 (And.right (by assumption)) _) | exact HS.out _ (Drawn.set7 (Drawn.set7 (And.right (by assumption)) hGl HCd.out (by omega)) hGl HCd.out (by omega)))
            (first
              | (go_at_call 49; refine (HEd.out _ (And.right (by assumption))).mono ?_; rintro x w6 ⟨e, rfl, d6, k6⟩; have hS6 := HS.out _ d6; have z6 := d6.grown.size; try (have bx := k6.nil (Box7.new w3 _ _ _ _ rfl)))
              | (go_at_call 99; refine (HLk.out _ e (And.right (by assumption))).mono ?_; rintro x w7 ⟨b, M, a2, m2, c2, hs7, gs, rfl, hb7, ho7, d7, k7, n7⟩; have hS7 := HS.out _ d7; have z7 := d7.grown.size; (first | have nx := n7 _ bx | have nx := n7 _ (Box7.new w6 _ _ _ _ rfl) | skip); (first | have bx := k7.nil bx | have bx := k7.nil (Box7.new w6 _ _ _ _ rfl) | skip); try (have bc0 := bx.cell0; have bc1 := bx.cell1; have bz0 := bx.frozen 0; have bz1 := bx.frozen 1)))
          all_goals
            go_wp2_with fail
            go_meet
            first
              | exact ⟨_, b, M, a2, m2, c2, gs, rfl, rfl, bx.set _ _, hb7, (TL.stored bx ho7.out.1 ho7.out.2.1 ho7.out.2.2 nx hXl).lo hRl, Drawn.set7 (Drawn.set7 d7 hGl HCd.out (by omega)) hGl HCd.out (by omega)⟩
              | exact ⟨_, b, M, a2, m2, c2, gs, rfl, rfl, Box7.new _ _ _ _ _ rfl, hb7, ((TL.nw ho7.out.1 ho7.out.2.1 ho7.out.2.2 hXl).lo hRl).up ((Below.refl _ _).alloc (Nat.le_refl _) _), d7.al7 _⟩
        case rest =>
          obtain ⟨b7, b, M, a2, m2, c2, gs, rfl, rfl, bx, hb7, ht, dd⟩ := hcut
          have D9 := hideIt (D3.out.drawn dd.out)
          clear HCd HS hS0 HEd HLk D3
          cases b with
          | false =>
            go_wp2
            exact ⟨⟨k + 1, a', m, c', ts, by omega, by go_num, hP, D9⟩, by simp [intOf]; omega⟩
          | true =>
            have HP2 : Hid (FP (nn : Int) gs) := (hb7.out rfl).2
            obtain rfl : M = nn := (hb7.out rfl).1
            have D10 := hideIt (D9.out.put (M := M) ht.out)
            have r0 := bx.cell0
            have r1 := bx.cell1
            have s0 := D9.out.box.cell0
            have s1 := D9.out.box.cell1
            have t0 := D9.out.box.frozen 0
            have t1 := D9.out.box.frozen 1
            clear D9 ht dd hb7 bx
            go_wp2
            exact ⟨⟨k + 1, a2, m2, c2, gs, by omega, by go_num, HP2, D10⟩, by simp [intOf]; omega⟩
    · have d1 : decide ((k : Int) < (y : Int)) = false := decide_eq_false (by omega)
      have r0 := D2.out.box.cell0
      have r1 := D2.out.box.cell1
      have s0 := D2.out.res.cell0
      have s1 := D2.out.res.cell1
      have t0 := D2.out.res.frozen 0
      have t1 := D2.out.res.frozen 1
      have hbw : Below w.heap.size w2 ((w2.setCell ⟨w.heap.size, 0, none⟩ (.int .i64 (nn : Int))).setCell ⟨w.heap.size, 1, none⟩ (.slice a' m c')) := ((Below.refl w.heap.size w2).setCell (p := ⟨w.heap.size, 0, none⟩) (Nat.le_refl _) _).setCell (p := ⟨w.heap.size, 1, none⟩) (Nat.le_refl _) _
      have hgs := grownT (grown_set w2 w.heap.size 0 (.int .i64 (nn : Int))) (grown_set _ w.heap.size 1 (.slice a' m c'))
      have hgw := grown_up7 D2.out.grown hbw
      have HF : Hid (Hid (TL ((w2.setCell ⟨w.heap.size, 0, none⟩ (.int .i64 (nn : Int))).setCell ⟨w.heap.size, 1, none⟩ (.slice a' m c')) w.heap.size X a' m c' ts) ∧ Drawn w ((w2.setCell ⟨w.heap.size, 0, none⟩ (.int .i64 (nn : Int))).setCell ⟨w.heap.size, 1, none⟩ (.slice a' m c')) G a len cap) :=
        ⟨(D2.out.tl.grown hgs (by omega)).lo (by omega), D2.out.cur.grownX7 hgs (by omega), HCode.out.kept hgw, hgw⟩
      have hXw : X ≠ w.heap.size := by have := D2.out.high; omega
      clear D2 hbw hgs hgw
      go_wp2
      exact bodyPost_ret (v := .agg #[.int .i64 (nn : Int), .slice a' m c']) (by simp [results, Tryz.results48, go_sem, s0, s1]) rfl ⟨nn, X, a', m, c', ts, hn2, hn12, hP, rfl, HF.out.1, HF.out.2⟩
end Go.Proofs.YtklalfkdikjkfaaGreat
