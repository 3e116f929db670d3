/- The specification's SplitTour. -/
import Derived.Test.YtcppbgkocipnlabSSplit
namespace Go.Proofs.Ytcppbgkocipnlab
open Go.RowKit

theorem wpAny_frame {P : Program} {md : Region.Mode} {ops : Array Oper} {Q : Exit → Go.Act → World → Prop} {fuel : Nat} {listed : Array Bool} {a a' : Go.Act} {w : World} (h : a = a') (hh : wpAny P md ops Q fuel listed a' w) : wpAny P md ops Q fuel listed a w := h ▸ hh
set_option maxRecDepth 100000 in
set_option maxHeartbeats 8000000 in
theorem sSplitTour_any (t : List Int) (u v : Int) (n : Nat) (a : Option Addr) (c : Nat) (hn : n ≤ 1048576) (hc : n ≤ c) (w : World) (h : Is w w.heap.size a n t) :
    Calls Try.prog 5 #[.slice a n c, .int .i64 u, .int .i64 v] w fun e w' => S2Ans w (spO t u v) e w' := by
  obtain ⟨i0, hi, hz0, hz1, hz2⟩ := info_parts info3i
  have S0 := ISt.start w
  have HT := hideIt (sTourOk_any t n a c (by omega) (w.alloc (.cells #[] 3)) (h.up S0.bel))
  have HG1 := hideIt (fun x (hx : Below w.heap.size w x) => l06Going_any t u v n a c (by omega) x (h.up hx))
  have HG2 := hideIt (fun x (hx : Below w.heap.size w x) => l06Going_any t v u n a c (by omega) x (h.up hx))
  have HI := hideIt h
  have hlen := h.1
  cases hT : tB t with
  | false =>
    have HO := hideIt (show spO t u v = ([], [], false) by unfold spO; rw [if_neg (fun hh => by have := hh.1; rw [hT] at this; simp at this)])
    rw [hT] at HT
    clear hT h
    go_enter Try.func5, Try.ntmps5
    go_wp2_with (go_at_call 13; refine HT.out.mono ?_; rintro e w1 ⟨rfl, hb1⟩)
    go_ret3
    exact s2_no HO.out (own_up S0.own hb1) (S0.bel.trans (hb1.mono (by simp)))
  | true =>
    rw [hT] at HT
    rcases go_at (t := t) (u := u) (v := v) with ⟨k, hk, _⟩ | ⟨hk, _⟩
    · obtain ⟨p, hp, hpn, hkn⟩ := go_both hT hk
      rw [hk] at HG1
      rw [hp] at HG2
      rw [hlen] at hpn hkn
      obtain ⟨d, hd⟩ : ∃ d, d = min k p := ⟨_, rfl⟩
      obtain ⟨q, hq⟩ : ∃ q, q = max k p := ⟨_, rfl⟩
      have hm1 : min (k : Int) (p : Int) = (d : Int) := by rw [hd]; omega
      have hm2 : max (k : Int) (p : Int) = (q : Int) := by rw [hq]; omega
      have HO := hideIt (show spO t u v = spT t d q by unfold spO; rw [if_pos ⟨hT, by rw [hk]; omega⟩, hk, hp, hm1, hm2]; rfl)
      have hdq : d ≤ q := by omega
      have hqn : q + 1 < n := by omega
      have d1 : decide ((k : Int) < 0) = false := decide_eq_false (by omega)
      have d2 : decide ((p : Int) < 0) = false := decide_eq_false (by omega)
      obtain ⟨b, off, rfl⟩ : ∃ b off, a = some ⟨b, off, none⟩ := by
        rcases h.2 with hz | ⟨b, off, h1, _⟩
        · omega
        · exact ⟨b, off, h1⟩
      clear hT h hk hp
      go_enter Try.func5, Try.ntmps5
      go_wp2_with (go_at_call 13; refine HT.out.mono ?_; rintro e w1 ⟨rfl, hb1⟩; refine Hid.out ?_)
      refine (show ∀ {p : Prop}, p → Hid p from fun h => h) ?_
      have B1 := S0.bel.trans (hb1.mono (by simp))
      have HG3 := hideIt (HG1.out w1 B1)
      clear HT hb1
      go_wp2_with (go_at_call 14; refine HG3.out.mono ?_; rintro e w2 ⟨rfl, hw⟩; have hw' := hw.symm; subst hw'; clear hw; refine Hid.out ?_)
      refine (show ∀ {p : Prop}, p → Hid p from fun h => h) ?_
      clear HG3 HG1
      have HG3 := hideIt (HG2.out w1 B1)
      have S1 := ISt.start w1
      have HI1 := hideIt ((HI.out.up B1).up S1.bel)
      have HN1 := hideIt ((HI1.out.take (show d + 1 ≤ n by omega)).news)
      have HN1l : Hid ((ic (t.take (d + 1))).length = (d + 1) * 1) := by show _ = _; rw [ic_len, List.length_take]; omega
      obtain ⟨x1, hx1⟩ : ∃ x, x = t.take (d + 1) := ⟨_, rfl⟩
      rw [← hx1] at HN1 HN1l
      have HX1 := hideIt hx1
      clear hx1
      have e1 : ((d : Int) + 1).toNat = d + 1 := by omega
      have p1 : (0 : Int) ≤ (d : Int) + 1 := by omega
      have p2 : (d : Int) + 1 ≤ (c : Int) := by omega
      clear HG2
      rcases Nat.lt_or_ge p k with hkp | hkp
      · obtain rfl : d = p := by omega
        obtain rfl : q = k := by omega
        have d3 : decide ((d : Int) < (q : Int)) = true := decide_eq_true (by omega)
        clear hm1 hm2 hd hq
        go_wp2_with (first | (go_at_call 14; refine HG3.out.mono ?_; rintro e w2 ⟨rfl, hw⟩; have hw' := hw.symm; subst hw'; clear hw) | (at_builtin; refine wpList_append_own _ rfl _ _ 22 rfl w1.heap.size 3 i0 _ 1 8 Try.underlying22 hi hz0 hz1 hz2 rfl (by decide) _ _ _ rfl S1.own ⟨b, off, none⟩ (d + 1) c (ic x1) rfl HN1l.out HN1.out ic_one (by unfold maxLen; omega) (by omega) (by simp) ?_))
        intro v5 w5 hown5 hg5 _
        obtain ⟨a5, c5, rfl, S5⟩ := S1.appL hown5 hg5
        clear hown5 hg5 S1 HI1 HN1 HN1l HG3
        refine Hid.out ?_
        refine (show ∀ {p : Prop}, p → Hid p from fun h => h) ?_
        have B5 := B1.trans (S5.bel.mono B1.size)
        have O5 := own_mono S5.own B1.size
        rw [List.nil_append, HX1.out] at O5
        obtain ⟨g5, c5', hform, _⟩ := O5.form (by omega)
        simp at hform
        obtain ⟨rfl, rfl⟩ := hform
        have e2 : ((q : Int) + 2).toNat = q + 2 := by omega
        have e3 : ((q : Int) + 1).toNat = q + 1 := by omega
        have pw1 : IntKind.i64.wrap ((d : Int) + 1) = (d : Int) + 1 := by rw [IntKind.wrap_i64]; omega
        have pw2 : IntKind.i64.wrap ((q : Int) + 1) = (q : Int) + 1 := by rw [IntKind.wrap_i64]; omega
        have pw3 : IntKind.i64.wrap ((q : Int) + 2) = (q : Int) + 2 := by rw [IntKind.wrap_i64]; omega
        have p3 : (0 : Int) ≤ (q : Int) + 2 := by omega
        have p4 : (q : Int) + 2 ≤ (n : Int) := by omega
        have p6 : (d : Int) + 1 ≤ (q : Int) + 1 := by omega
        have p7 : (q : Int) + 1 ≤ (c : Int) := by omega
        have p8 : (0 : Int) ≤ (q : Int) + 1 := by omega
        have hcd : ¬ (c = d + 1) := by omega
        by_cases hz : c = q + 2
        · have hqd : ¬ (q + 1 = d) := by omega
          obtain ⟨⟨g1, cap1, y1, g1', cap1', z1, rA1, rB1, oA1, oB1, bz1⟩, ⟨g2, cap2, y2, g2', cap2', z2, rA2, rB2, oA2, oB2, bz2⟩, _⟩ := app_two (x := w5.drew) (ad1 := ⟨b, off, none⟩) (k1 := n - (q + 2)) (cc1 := 0) (ad2 := ⟨b, off + (d + 1), none⟩) (k2 := q - d) (cc2 := q + 1 - d) B5.drew (World.ownsRow.drew O5) (xs := t.drop (q + 2)) (by rw [show n - (q + 2) = 0 by omega]; exact Is.none_of (by rw [List.length_drop]; omega)) (by rw [show q - d = q + 1 - (d + 1) by omega]; exact (HI.out.take (show q + 1 ≤ n by omega)).drop (by omega)) rfl rfl (by omega)
          rw [show w5.drew.alloc (.cells #[] 3) = (w5.alloc (.cells #[] 3)).drew from rfl] at rA2
          rw [show w5.drew.heap.size = w5.heap.size from rfl] at rB2
          have F1 := hideIt (And.intro oA1 (And.intro oB1 bz1))
          have F2 := hideIt (And.intro oA2 (And.intro oB2 bz2))
          clear oA1 oB1 bz1 oA2 oB2 bz2 O5 S5 HI B1 S0
          go_wp2
          refine wp_region_any (by kernel_rfl) ?_
          change wpAny _ _ _ _ _ _ _ (World.drew _)
          refine takeOp (i := 0) (v := ?_) rfl (by kernel_rfl) (by kernel_rfl) (by kernel_rfl) (fun _ _ _ h => h) (by kernel_rfl) ?_ ?_
          rotate_left
          · intro w; go_simp; try with_reducible rfl
          refine takeOp (i := 1) (v := ?_) rfl (by kernel_rfl) (by kernel_rfl) (by kernel_rfl) (fun _ _ _ h => h) (by kernel_rfl) ?_ ?_
          rotate_left
          · intro w; go_simp; try with_reducible rfl
          refine takeOp (i := 2) (v := ?_) rfl (by kernel_rfl) (by kernel_rfl) (by kernel_rfl) (fun _ _ _ h => h) (by kernel_rfl) ?_ ?_
          rotate_left
          · intro w; go_simp; try with_reducible rfl
          refine takeOp (i := 3) (v := ?_) rfl (by kernel_rfl) (by kernel_rfl) (by kernel_rfl) (fun _ _ _ h => h) (by kernel_rfl) ?_ ?_
          rotate_left
          · intro w; go_simp; try with_reducible rfl
          refine takeOp (i := 4) (v := ?_) rfl (by kernel_rfl) (by kernel_rfl) (by kernel_rfl) (fun _ _ _ h => h) (by kernel_rfl) ?_ ?_
          rotate_left
          · intro w; go_simp; try with_reducible rfl
          refine takeOp (i := 7) (v := ?_) rfl (by kernel_rfl) (by kernel_rfl) (by kernel_rfl) (fun _ _ _ h => h) (by kernel_rfl) ?_ ?_
          rotate_left
          · intro w; go_simp; try with_reducible rfl
          refine takeOp (i := 8) (v := ?_) rfl (by kernel_rfl) (by kernel_rfl) (by kernel_rfl) (fun _ _ _ h => h) (by kernel_rfl) ?_ ?_
          rotate_left
          · intro w; go_simp; try with_reducible rfl
          refine takeOp (i := 9) (v := ?_) rfl (by kernel_rfl) (by kernel_rfl) (by kernel_rfl) (fun _ _ _ h => h) (by kernel_rfl) ?_ ?_
          rotate_left
          · intro w; go_simp; try with_reducible rfl
          refine takeOp (i := 10) (v := ?_) rfl (by kernel_rfl) (by kernel_rfl) (by kernel_rfl) (fun _ _ _ h => h) (by kernel_rfl) ?_ ?_
          rotate_left
          · intro w; go_simp; try with_reducible rfl
          refine takeOp (i := 11) (v := ?_) rfl (by kernel_rfl) (by kernel_rfl) (by kernel_rfl) (fun _ _ _ h => h) (by kernel_rfl) ?_ ?_
          rotate_left
          · intro w; go_simp; try with_reducible rfl
          refine takeOp (i := 12) (v := ?_) rfl (by kernel_rfl) (by kernel_rfl) (by kernel_rfl) (fun _ _ _ h => h) (by kernel_rfl) ?_ ?_
          rotate_left
          · intro w; go_simp; try with_reducible rfl
          refine wpAny_frame (a' := ?_) ?_ ?_
          rotate_left
          · go_simp; try with_reducible rfl
          refine wpAny_ready (rs := [5, 6]) (by kernel_rfl) (by simp) (AllReady.cons rfl (fun K hK => step_app rfl _ _ 22 rfl rfl rfl rA1 (hK _ _ ?_)) (AllReady.cons rfl (fun K hK => ?_) AllReady.nil))
          · clear hK K rA2 rB2 F2
            refine wpAny_frame (a' := ?_) ?_ ?_
            rotate_left
            · go_simp; try with_reducible rfl
            refine wpAny_ready (rs := [6]) (by kernel_rfl) (by simp) ?_
            refine AllReady.cons rfl (fun K hK => ?_) AllReady.nil
            go_simp
            refine hK _ _ ?_
            clear hK K
            refine wpAny_ready (rs := [13]) (by kernel_rfl) (by simp) (AllReady.cons rfl (fun K hK => step_app rfl _ _ 22 rfl rfl rfl rB1 (hK _ _ ?_)) AllReady.nil)
            clear hK K
            refine wpAny_frame (a' := ?_) ?_ ?_
            rotate_left
            · go_simp; try with_reducible rfl
            refine wpAny_ready (rs := [14]) (by kernel_rfl) (by simp) ?_
            refine AllReady.cons rfl (fun K hK => ?_) AllReady.nil
            go_simp
            refine hK _ _ ?_
            clear hK K
            refine wpAny_ready (rs := [15]) (by kernel_rfl) (by simp) ?_
            refine AllReady.cons rfl (fun K hK => ?_) AllReady.nil
            go_simp
            refine hK _ _ ?_
            clear hK K
            refine wpAny_ready (rs := [16]) (by kernel_rfl) (by simp) ?_
            refine AllReady.cons rfl (fun K hK => ?_) AllReady.nil
            go_simp
            refine hK _ _ ?_
            clear hK K
            refine wpAny_done (by kernel_rfl) ?_ _
            go_wp2
            go_ret3
            exact s2_yes HO.out F1.out.1 F1.out.2.1 F1.out.2.2
          · go_simp
            refine hK _ _ ?_
            clear hK K rA1 rB1 F1
            refine wpAny_ready (rs := [5]) (by kernel_rfl) (by simp) (AllReady.cons rfl (fun K hK => step_app rfl _ _ 22 rfl rfl rfl rA2 (hK _ _ ?_)) AllReady.nil)
            clear hK K
            refine wpAny_frame (a' := ?_) ?_ ?_
            rotate_left
            · go_simp; try with_reducible rfl
            refine wpAny_ready (rs := [13]) (by kernel_rfl) (by simp) (AllReady.cons rfl (fun K hK => step_app rfl _ _ 22 rfl rfl rfl rB2 (hK _ _ ?_)) AllReady.nil)
            clear hK K
            refine wpAny_frame (a' := ?_) ?_ ?_
            rotate_left
            · go_simp; try with_reducible rfl
            refine wpAny_ready (rs := [14]) (by kernel_rfl) (by simp) ?_
            refine AllReady.cons rfl (fun K hK => ?_) AllReady.nil
            go_simp
            refine hK _ _ ?_
            clear hK K
            refine wpAny_ready (rs := [15]) (by kernel_rfl) (by simp) ?_
            refine AllReady.cons rfl (fun K hK => ?_) AllReady.nil
            go_simp
            refine hK _ _ ?_
            clear hK K
            refine wpAny_ready (rs := [16]) (by kernel_rfl) (by simp) ?_
            refine AllReady.cons rfl (fun K hK => ?_) AllReady.nil
            go_simp
            refine hK _ _ ?_
            clear hK K
            refine wpAny_done (by kernel_rfl) ?_ _
            go_wp2
            go_ret3
            exact s2_yes HO.out F2.out.1 F2.out.2.1 F2.out.2.2
        · obtain ⟨⟨g1, cap1, y1, g1', cap1', z1, rA1, rB1, oA1, oB1, bz1⟩, ⟨g2, cap2, y2, g2', cap2', z2, rA2, rB2, oA2, oB2, bz2⟩, _⟩ := app_two (x := w5.drew) (ad1 := ⟨b, off + (q + 2), none⟩) (k1 := n - (q + 2)) (cc1 := c - (q + 2)) (ad2 := ⟨b, off + (d + 1), none⟩) (k2 := q - d) (cc2 := c - (d + 1)) B5.drew (World.ownsRow.drew O5) (HI.out.drop (show q + 2 ≤ n by omega)) (by rw [show q - d = q + 1 - (d + 1) by omega]; exact (HI.out.take (show q + 1 ≤ n by omega)).drop (by omega)) rfl rfl (by omega)
          rw [show w5.drew.alloc (.cells #[] 3) = (w5.alloc (.cells #[] 3)).drew from rfl] at rA2
          rw [show w5.drew.heap.size = w5.heap.size from rfl] at rB2
          have F1 := hideIt (And.intro oA1 (And.intro oB1 bz1))
          have F2 := hideIt (And.intro oA2 (And.intro oB2 bz2))
          clear oA1 oB1 bz1 oA2 oB2 bz2 O5 S5 HI B1 S0
          go_wp2
          refine wp_region_any (by kernel_rfl) ?_
          change wpAny _ _ _ _ _ _ _ (World.drew _)
          refine takeOp (i := 0) (v := ?_) rfl (by kernel_rfl) (by kernel_rfl) (by kernel_rfl) (fun _ _ _ h => h) (by kernel_rfl) ?_ ?_
          rotate_left
          · intro w; go_simp; try with_reducible rfl
          refine takeOp (i := 1) (v := ?_) rfl (by kernel_rfl) (by kernel_rfl) (by kernel_rfl) (fun _ _ _ h => h) (by kernel_rfl) ?_ ?_
          rotate_left
          · intro w; go_simp; try with_reducible rfl
          refine takeOp (i := 2) (v := ?_) rfl (by kernel_rfl) (by kernel_rfl) (by kernel_rfl) (fun _ _ _ h => h) (by kernel_rfl) ?_ ?_
          rotate_left
          · intro w; go_simp; try with_reducible rfl
          refine takeOp (i := 3) (v := ?_) rfl (by kernel_rfl) (by kernel_rfl) (by kernel_rfl) (fun _ _ _ h => h) (by kernel_rfl) ?_ ?_
          rotate_left
          · intro w; go_simp; try with_reducible rfl
          refine takeOp (i := 4) (v := ?_) rfl (by kernel_rfl) (by kernel_rfl) (by kernel_rfl) (fun _ _ _ h => h) (by kernel_rfl) ?_ ?_
          rotate_left
          · intro w; go_simp; try with_reducible rfl
          refine takeOp (i := 7) (v := ?_) rfl (by kernel_rfl) (by kernel_rfl) (by kernel_rfl) (fun _ _ _ h => h) (by kernel_rfl) ?_ ?_
          rotate_left
          · intro w; go_simp; try with_reducible rfl
          refine takeOp (i := 8) (v := ?_) rfl (by kernel_rfl) (by kernel_rfl) (by kernel_rfl) (fun _ _ _ h => h) (by kernel_rfl) ?_ ?_
          rotate_left
          · intro w; go_simp; try with_reducible rfl
          refine takeOp (i := 9) (v := ?_) rfl (by kernel_rfl) (by kernel_rfl) (by kernel_rfl) (fun _ _ _ h => h) (by kernel_rfl) ?_ ?_
          rotate_left
          · intro w; go_simp; try with_reducible rfl
          refine takeOp (i := 10) (v := ?_) rfl (by kernel_rfl) (by kernel_rfl) (by kernel_rfl) (fun _ _ _ h => h) (by kernel_rfl) ?_ ?_
          rotate_left
          · intro w; go_simp; try with_reducible rfl
          refine takeOp (i := 11) (v := ?_) rfl (by kernel_rfl) (by kernel_rfl) (by kernel_rfl) (fun _ _ _ h => h) (by kernel_rfl) ?_ ?_
          rotate_left
          · intro w; go_simp; try with_reducible rfl
          refine takeOp (i := 12) (v := ?_) rfl (by kernel_rfl) (by kernel_rfl) (by kernel_rfl) (fun _ _ _ h => h) (by kernel_rfl) ?_ ?_
          rotate_left
          · intro w; go_simp; try with_reducible rfl
          refine wpAny_frame (a' := ?_) ?_ ?_
          rotate_left
          · go_simp; try with_reducible rfl
          refine wpAny_ready (rs := [5, 6]) (by kernel_rfl) (by simp) (AllReady.cons rfl (fun K hK => step_app rfl _ _ 22 rfl rfl rfl rA1 (hK _ _ ?_)) (AllReady.cons rfl (fun K hK => ?_) AllReady.nil))
          · clear hK K rA2 rB2 F2
            refine wpAny_frame (a' := ?_) ?_ ?_
            rotate_left
            · go_simp; try with_reducible rfl
            refine wpAny_ready (rs := [6]) (by kernel_rfl) (by simp) ?_
            refine AllReady.cons rfl (fun K hK => ?_) AllReady.nil
            go_simp
            refine hK _ _ ?_
            clear hK K
            refine wpAny_ready (rs := [13]) (by kernel_rfl) (by simp) (AllReady.cons rfl (fun K hK => step_app rfl _ _ 22 rfl rfl rfl rB1 (hK _ _ ?_)) AllReady.nil)
            clear hK K
            refine wpAny_frame (a' := ?_) ?_ ?_
            rotate_left
            · go_simp; try with_reducible rfl
            refine wpAny_ready (rs := [14]) (by kernel_rfl) (by simp) ?_
            refine AllReady.cons rfl (fun K hK => ?_) AllReady.nil
            go_simp
            refine hK _ _ ?_
            clear hK K
            refine wpAny_ready (rs := [15]) (by kernel_rfl) (by simp) ?_
            refine AllReady.cons rfl (fun K hK => ?_) AllReady.nil
            go_simp
            refine hK _ _ ?_
            clear hK K
            refine wpAny_ready (rs := [16]) (by kernel_rfl) (by simp) ?_
            refine AllReady.cons rfl (fun K hK => ?_) AllReady.nil
            go_simp
            refine hK _ _ ?_
            clear hK K
            refine wpAny_done (by kernel_rfl) ?_ _
            go_wp2
            go_ret3
            exact s2_yes HO.out F1.out.1 F1.out.2.1 F1.out.2.2
          · go_simp
            refine hK _ _ ?_
            clear hK K rA1 rB1 F1
            refine wpAny_ready (rs := [5]) (by kernel_rfl) (by simp) (AllReady.cons rfl (fun K hK => step_app rfl _ _ 22 rfl rfl rfl rA2 (hK _ _ ?_)) AllReady.nil)
            clear hK K
            refine wpAny_frame (a' := ?_) ?_ ?_
            rotate_left
            · go_simp; try with_reducible rfl
            refine wpAny_ready (rs := [13]) (by kernel_rfl) (by simp) (AllReady.cons rfl (fun K hK => step_app rfl _ _ 22 rfl rfl rfl rB2 (hK _ _ ?_)) AllReady.nil)
            clear hK K
            refine wpAny_frame (a' := ?_) ?_ ?_
            rotate_left
            · go_simp; try with_reducible rfl
            refine wpAny_ready (rs := [14]) (by kernel_rfl) (by simp) ?_
            refine AllReady.cons rfl (fun K hK => ?_) AllReady.nil
            go_simp
            refine hK _ _ ?_
            clear hK K
            refine wpAny_ready (rs := [15]) (by kernel_rfl) (by simp) ?_
            refine AllReady.cons rfl (fun K hK => ?_) AllReady.nil
            go_simp
            refine hK _ _ ?_
            clear hK K
            refine wpAny_ready (rs := [16]) (by kernel_rfl) (by simp) ?_
            refine AllReady.cons rfl (fun K hK => ?_) AllReady.nil
            go_simp
            refine hK _ _ ?_
            clear hK K
            refine wpAny_done (by kernel_rfl) ?_ _
            go_wp2
            go_ret3
            exact s2_yes HO.out F2.out.1 F2.out.2.1 F2.out.2.2
      · obtain rfl : d = k := by omega
        obtain rfl : q = p := by omega
        have d3 : decide ((q : Int) < (d : Int)) = false := decide_eq_false (by omega)
        clear hm1 hm2 hd hq
        go_wp2_with (first | (go_at_call 14; refine HG3.out.mono ?_; rintro e w2 ⟨rfl, hw⟩; have hw' := hw.symm; subst hw'; clear hw) | (at_builtin; refine wpList_append_own _ rfl _ _ 22 rfl w1.heap.size 3 i0 _ 1 8 Try.underlying22 hi hz0 hz1 hz2 rfl (by decide) _ _ _ rfl S1.own ⟨b, off, none⟩ (d + 1) c (ic x1) rfl HN1l.out HN1.out ic_one (by unfold maxLen; omega) (by omega) (by simp) ?_))
        intro v5 w5 hown5 hg5 _
        obtain ⟨a5, c5, rfl, S5⟩ := S1.appL hown5 hg5
        clear hown5 hg5 S1 HI1 HN1 HN1l HG3
        refine Hid.out ?_
        refine (show ∀ {p : Prop}, p → Hid p from fun h => h) ?_
        have B5 := B1.trans (S5.bel.mono B1.size)
        have O5 := own_mono S5.own B1.size
        rw [List.nil_append, HX1.out] at O5
        obtain ⟨g5, c5', hform, _⟩ := O5.form (by omega)
        simp at hform
        obtain ⟨rfl, rfl⟩ := hform
        have e2 : ((q : Int) + 2).toNat = q + 2 := by omega
        have e3 : ((q : Int) + 1).toNat = q + 1 := by omega
        have pw1 : IntKind.i64.wrap ((d : Int) + 1) = (d : Int) + 1 := by rw [IntKind.wrap_i64]; omega
        have pw2 : IntKind.i64.wrap ((q : Int) + 1) = (q : Int) + 1 := by rw [IntKind.wrap_i64]; omega
        have pw3 : IntKind.i64.wrap ((q : Int) + 2) = (q : Int) + 2 := by rw [IntKind.wrap_i64]; omega
        have p3 : (0 : Int) ≤ (q : Int) + 2 := by omega
        have p4 : (q : Int) + 2 ≤ (n : Int) := by omega
        have p6 : (d : Int) + 1 ≤ (q : Int) + 1 := by omega
        have p7 : (q : Int) + 1 ≤ (c : Int) := by omega
        have p8 : (0 : Int) ≤ (q : Int) + 1 := by omega
        have hcd : ¬ (c = d + 1) := by omega
        by_cases hz : c = q + 2
        · have hqd : ¬ (q + 1 = d) := by omega
          obtain ⟨⟨g1, cap1, y1, g1', cap1', z1, rA1, rB1, oA1, oB1, bz1⟩, ⟨g2, cap2, y2, g2', cap2', z2, rA2, rB2, oA2, oB2, bz2⟩, _⟩ := app_two (x := w5.drew) (ad1 := ⟨b, off, none⟩) (k1 := n - (q + 2)) (cc1 := 0) (ad2 := ⟨b, off + (d + 1), none⟩) (k2 := q - d) (cc2 := q + 1 - d) B5.drew (World.ownsRow.drew O5) (xs := t.drop (q + 2)) (by rw [show n - (q + 2) = 0 by omega]; exact Is.none_of (by rw [List.length_drop]; omega)) (by rw [show q - d = q + 1 - (d + 1) by omega]; exact (HI.out.take (show q + 1 ≤ n by omega)).drop (by omega)) rfl rfl (by omega)
          rw [show w5.drew.alloc (.cells #[] 3) = (w5.alloc (.cells #[] 3)).drew from rfl] at rA2
          rw [show w5.drew.heap.size = w5.heap.size from rfl] at rB2
          have F1 := hideIt (And.intro oA1 (And.intro oB1 bz1))
          have F2 := hideIt (And.intro oA2 (And.intro oB2 bz2))
          clear oA1 oB1 bz1 oA2 oB2 bz2 O5 S5 HI B1 S0
          go_wp2
          refine wp_region_any (by kernel_rfl) ?_
          change wpAny _ _ _ _ _ _ _ (World.drew _)
          refine takeOp (i := 0) (v := ?_) rfl (by kernel_rfl) (by kernel_rfl) (by kernel_rfl) (fun _ _ _ h => h) (by kernel_rfl) ?_ ?_
          rotate_left
          · intro w; go_simp; try with_reducible rfl
          refine takeOp (i := 1) (v := ?_) rfl (by kernel_rfl) (by kernel_rfl) (by kernel_rfl) (fun _ _ _ h => h) (by kernel_rfl) ?_ ?_
          rotate_left
          · intro w; go_simp; try with_reducible rfl
          refine takeOp (i := 2) (v := ?_) rfl (by kernel_rfl) (by kernel_rfl) (by kernel_rfl) (fun _ _ _ h => h) (by kernel_rfl) ?_ ?_
          rotate_left
          · intro w; go_simp; try with_reducible rfl
          refine takeOp (i := 3) (v := ?_) rfl (by kernel_rfl) (by kernel_rfl) (by kernel_rfl) (fun _ _ _ h => h) (by kernel_rfl) ?_ ?_
          rotate_left
          · intro w; go_simp; try with_reducible rfl
          refine takeOp (i := 4) (v := ?_) rfl (by kernel_rfl) (by kernel_rfl) (by kernel_rfl) (fun _ _ _ h => h) (by kernel_rfl) ?_ ?_
          rotate_left
          · intro w; go_simp; try with_reducible rfl
          refine takeOp (i := 7) (v := ?_) rfl (by kernel_rfl) (by kernel_rfl) (by kernel_rfl) (fun _ _ _ h => h) (by kernel_rfl) ?_ ?_
          rotate_left
          · intro w; go_simp; try with_reducible rfl
          refine takeOp (i := 8) (v := ?_) rfl (by kernel_rfl) (by kernel_rfl) (by kernel_rfl) (fun _ _ _ h => h) (by kernel_rfl) ?_ ?_
          rotate_left
          · intro w; go_simp; try with_reducible rfl
          refine takeOp (i := 9) (v := ?_) rfl (by kernel_rfl) (by kernel_rfl) (by kernel_rfl) (fun _ _ _ h => h) (by kernel_rfl) ?_ ?_
          rotate_left
          · intro w; go_simp; try with_reducible rfl
          refine takeOp (i := 10) (v := ?_) rfl (by kernel_rfl) (by kernel_rfl) (by kernel_rfl) (fun _ _ _ h => h) (by kernel_rfl) ?_ ?_
          rotate_left
          · intro w; go_simp; try with_reducible rfl
          refine takeOp (i := 11) (v := ?_) rfl (by kernel_rfl) (by kernel_rfl) (by kernel_rfl) (fun _ _ _ h => h) (by kernel_rfl) ?_ ?_
          rotate_left
          · intro w; go_simp; try with_reducible rfl
          refine takeOp (i := 12) (v := ?_) rfl (by kernel_rfl) (by kernel_rfl) (by kernel_rfl) (fun _ _ _ h => h) (by kernel_rfl) ?_ ?_
          rotate_left
          · intro w; go_simp; try with_reducible rfl
          refine wpAny_frame (a' := ?_) ?_ ?_
          rotate_left
          · go_simp; try with_reducible rfl
          refine wpAny_ready (rs := [5, 6]) (by kernel_rfl) (by simp) (AllReady.cons rfl (fun K hK => step_app rfl _ _ 22 rfl rfl rfl rA1 (hK _ _ ?_)) (AllReady.cons rfl (fun K hK => ?_) AllReady.nil))
          · clear hK K rA2 rB2 F2
            refine wpAny_frame (a' := ?_) ?_ ?_
            rotate_left
            · go_simp; try with_reducible rfl
            refine wpAny_ready (rs := [6]) (by kernel_rfl) (by simp) ?_
            refine AllReady.cons rfl (fun K hK => ?_) AllReady.nil
            go_simp
            refine hK _ _ ?_
            clear hK K
            refine wpAny_ready (rs := [13]) (by kernel_rfl) (by simp) (AllReady.cons rfl (fun K hK => step_app rfl _ _ 22 rfl rfl rfl rB1 (hK _ _ ?_)) AllReady.nil)
            clear hK K
            refine wpAny_frame (a' := ?_) ?_ ?_
            rotate_left
            · go_simp; try with_reducible rfl
            refine wpAny_ready (rs := [14]) (by kernel_rfl) (by simp) ?_
            refine AllReady.cons rfl (fun K hK => ?_) AllReady.nil
            go_simp
            refine hK _ _ ?_
            clear hK K
            refine wpAny_ready (rs := [15]) (by kernel_rfl) (by simp) ?_
            refine AllReady.cons rfl (fun K hK => ?_) AllReady.nil
            go_simp
            refine hK _ _ ?_
            clear hK K
            refine wpAny_ready (rs := [16]) (by kernel_rfl) (by simp) ?_
            refine AllReady.cons rfl (fun K hK => ?_) AllReady.nil
            go_simp
            refine hK _ _ ?_
            clear hK K
            refine wpAny_done (by kernel_rfl) ?_ _
            go_wp2
            go_ret3
            exact s2_yes HO.out F1.out.1 F1.out.2.1 F1.out.2.2
          · go_simp
            refine hK _ _ ?_
            clear hK K rA1 rB1 F1
            refine wpAny_ready (rs := [5]) (by kernel_rfl) (by simp) (AllReady.cons rfl (fun K hK => step_app rfl _ _ 22 rfl rfl rfl rA2 (hK _ _ ?_)) AllReady.nil)
            clear hK K
            refine wpAny_frame (a' := ?_) ?_ ?_
            rotate_left
            · go_simp; try with_reducible rfl
            refine wpAny_ready (rs := [13]) (by kernel_rfl) (by simp) (AllReady.cons rfl (fun K hK => step_app rfl _ _ 22 rfl rfl rfl rB2 (hK _ _ ?_)) AllReady.nil)
            clear hK K
            refine wpAny_frame (a' := ?_) ?_ ?_
            rotate_left
            · go_simp; try with_reducible rfl
            refine wpAny_ready (rs := [14]) (by kernel_rfl) (by simp) ?_
            refine AllReady.cons rfl (fun K hK => ?_) AllReady.nil
            go_simp
            refine hK _ _ ?_
            clear hK K
            refine wpAny_ready (rs := [15]) (by kernel_rfl) (by simp) ?_
            refine AllReady.cons rfl (fun K hK => ?_) AllReady.nil
            go_simp
            refine hK _ _ ?_
            clear hK K
            refine wpAny_ready (rs := [16]) (by kernel_rfl) (by simp) ?_
            refine AllReady.cons rfl (fun K hK => ?_) AllReady.nil
            go_simp
            refine hK _ _ ?_
            clear hK K
            refine wpAny_done (by kernel_rfl) ?_ _
            go_wp2
            go_ret3
            exact s2_yes HO.out F2.out.1 F2.out.2.1 F2.out.2.2
        · obtain ⟨⟨g1, cap1, y1, g1', cap1', z1, rA1, rB1, oA1, oB1, bz1⟩, ⟨g2, cap2, y2, g2', cap2', z2, rA2, rB2, oA2, oB2, bz2⟩, _⟩ := app_two (x := w5.drew) (ad1 := ⟨b, off + (q + 2), none⟩) (k1 := n - (q + 2)) (cc1 := c - (q + 2)) (ad2 := ⟨b, off + (d + 1), none⟩) (k2 := q - d) (cc2 := c - (d + 1)) B5.drew (World.ownsRow.drew O5) (HI.out.drop (show q + 2 ≤ n by omega)) (by rw [show q - d = q + 1 - (d + 1) by omega]; exact (HI.out.take (show q + 1 ≤ n by omega)).drop (by omega)) rfl rfl (by omega)
          rw [show w5.drew.alloc (.cells #[] 3) = (w5.alloc (.cells #[] 3)).drew from rfl] at rA2
          rw [show w5.drew.heap.size = w5.heap.size from rfl] at rB2
          have F1 := hideIt (And.intro oA1 (And.intro oB1 bz1))
          have F2 := hideIt (And.intro oA2 (And.intro oB2 bz2))
          clear oA1 oB1 bz1 oA2 oB2 bz2 O5 S5 HI B1 S0
          go_wp2
          refine wp_region_any (by kernel_rfl) ?_
          change wpAny _ _ _ _ _ _ _ (World.drew _)
          refine takeOp (i := 0) (v := ?_) rfl (by kernel_rfl) (by kernel_rfl) (by kernel_rfl) (fun _ _ _ h => h) (by kernel_rfl) ?_ ?_
          rotate_left
          · intro w; go_simp; try with_reducible rfl
          refine takeOp (i := 1) (v := ?_) rfl (by kernel_rfl) (by kernel_rfl) (by kernel_rfl) (fun _ _ _ h => h) (by kernel_rfl) ?_ ?_
          rotate_left
          · intro w; go_simp; try with_reducible rfl
          refine takeOp (i := 2) (v := ?_) rfl (by kernel_rfl) (by kernel_rfl) (by kernel_rfl) (fun _ _ _ h => h) (by kernel_rfl) ?_ ?_
          rotate_left
          · intro w; go_simp; try with_reducible rfl
          refine takeOp (i := 3) (v := ?_) rfl (by kernel_rfl) (by kernel_rfl) (by kernel_rfl) (fun _ _ _ h => h) (by kernel_rfl) ?_ ?_
          rotate_left
          · intro w; go_simp; try with_reducible rfl
          refine takeOp (i := 4) (v := ?_) rfl (by kernel_rfl) (by kernel_rfl) (by kernel_rfl) (fun _ _ _ h => h) (by kernel_rfl) ?_ ?_
          rotate_left
          · intro w; go_simp; try with_reducible rfl
          refine takeOp (i := 7) (v := ?_) rfl (by kernel_rfl) (by kernel_rfl) (by kernel_rfl) (fun _ _ _ h => h) (by kernel_rfl) ?_ ?_
          rotate_left
          · intro w; go_simp; try with_reducible rfl
          refine takeOp (i := 8) (v := ?_) rfl (by kernel_rfl) (by kernel_rfl) (by kernel_rfl) (fun _ _ _ h => h) (by kernel_rfl) ?_ ?_
          rotate_left
          · intro w; go_simp; try with_reducible rfl
          refine takeOp (i := 9) (v := ?_) rfl (by kernel_rfl) (by kernel_rfl) (by kernel_rfl) (fun _ _ _ h => h) (by kernel_rfl) ?_ ?_
          rotate_left
          · intro w; go_simp; try with_reducible rfl
          refine takeOp (i := 10) (v := ?_) rfl (by kernel_rfl) (by kernel_rfl) (by kernel_rfl) (fun _ _ _ h => h) (by kernel_rfl) ?_ ?_
          rotate_left
          · intro w; go_simp; try with_reducible rfl
          refine takeOp (i := 11) (v := ?_) rfl (by kernel_rfl) (by kernel_rfl) (by kernel_rfl) (fun _ _ _ h => h) (by kernel_rfl) ?_ ?_
          rotate_left
          · intro w; go_simp; try with_reducible rfl
          refine takeOp (i := 12) (v := ?_) rfl (by kernel_rfl) (by kernel_rfl) (by kernel_rfl) (fun _ _ _ h => h) (by kernel_rfl) ?_ ?_
          rotate_left
          · intro w; go_simp; try with_reducible rfl
          refine wpAny_frame (a' := ?_) ?_ ?_
          rotate_left
          · go_simp; try with_reducible rfl
          refine wpAny_ready (rs := [5, 6]) (by kernel_rfl) (by simp) (AllReady.cons rfl (fun K hK => step_app rfl _ _ 22 rfl rfl rfl rA1 (hK _ _ ?_)) (AllReady.cons rfl (fun K hK => ?_) AllReady.nil))
          · clear hK K rA2 rB2 F2
            refine wpAny_frame (a' := ?_) ?_ ?_
            rotate_left
            · go_simp; try with_reducible rfl
            refine wpAny_ready (rs := [6]) (by kernel_rfl) (by simp) ?_
            refine AllReady.cons rfl (fun K hK => ?_) AllReady.nil
            go_simp
            refine hK _ _ ?_
            clear hK K
            refine wpAny_ready (rs := [13]) (by kernel_rfl) (by simp) (AllReady.cons rfl (fun K hK => step_app rfl _ _ 22 rfl rfl rfl rB1 (hK _ _ ?_)) AllReady.nil)
            clear hK K
            refine wpAny_frame (a' := ?_) ?_ ?_
            rotate_left
            · go_simp; try with_reducible rfl
            refine wpAny_ready (rs := [14]) (by kernel_rfl) (by simp) ?_
            refine AllReady.cons rfl (fun K hK => ?_) AllReady.nil
            go_simp
            refine hK _ _ ?_
            clear hK K
            refine wpAny_ready (rs := [15]) (by kernel_rfl) (by simp) ?_
            refine AllReady.cons rfl (fun K hK => ?_) AllReady.nil
            go_simp
            refine hK _ _ ?_
            clear hK K
            refine wpAny_ready (rs := [16]) (by kernel_rfl) (by simp) ?_
            refine AllReady.cons rfl (fun K hK => ?_) AllReady.nil
            go_simp
            refine hK _ _ ?_
            clear hK K
            refine wpAny_done (by kernel_rfl) ?_ _
            go_wp2
            go_ret3
            exact s2_yes HO.out F1.out.1 F1.out.2.1 F1.out.2.2
          · go_simp
            refine hK _ _ ?_
            clear hK K rA1 rB1 F1
            refine wpAny_ready (rs := [5]) (by kernel_rfl) (by simp) (AllReady.cons rfl (fun K hK => step_app rfl _ _ 22 rfl rfl rfl rA2 (hK _ _ ?_)) AllReady.nil)
            clear hK K
            refine wpAny_frame (a' := ?_) ?_ ?_
            rotate_left
            · go_simp; try with_reducible rfl
            refine wpAny_ready (rs := [13]) (by kernel_rfl) (by simp) (AllReady.cons rfl (fun K hK => step_app rfl _ _ 22 rfl rfl rfl rB2 (hK _ _ ?_)) AllReady.nil)
            clear hK K
            refine wpAny_frame (a' := ?_) ?_ ?_
            rotate_left
            · go_simp; try with_reducible rfl
            refine wpAny_ready (rs := [14]) (by kernel_rfl) (by simp) ?_
            refine AllReady.cons rfl (fun K hK => ?_) AllReady.nil
            go_simp
            refine hK _ _ ?_
            clear hK K
            refine wpAny_ready (rs := [15]) (by kernel_rfl) (by simp) ?_
            refine AllReady.cons rfl (fun K hK => ?_) AllReady.nil
            go_simp
            refine hK _ _ ?_
            clear hK K
            refine wpAny_ready (rs := [16]) (by kernel_rfl) (by simp) ?_
            refine AllReady.cons rfl (fun K hK => ?_) AllReady.nil
            go_simp
            refine hK _ _ ?_
            clear hK K
            refine wpAny_done (by kernel_rfl) ?_ _
            go_wp2
            go_ret3
            exact s2_yes HO.out F2.out.1 F2.out.2.1 F2.out.2.2
    · have HO := hideIt (show spO t u v = ([], [], false) by unfold spO; rw [if_neg (fun hh => by have := hh.2; omega)])
      rw [hk] at HG1
      clear hT h
      go_enter Try.func5, Try.ntmps5
      go_wp2_with (go_at_call 13; refine HT.out.mono ?_; rintro e w1 ⟨rfl, hb1⟩; refine Hid.out ?_)
      refine (show ∀ {p : Prop}, p → Hid p from fun h => h) ?_
      have B1 := S0.bel.trans (hb1.mono (by simp))
      have O1 := own_up S0.own hb1
      have HG3 := hideIt (HG1.out w1 B1)
      have HG4 := hideIt (HG2.out w1 B1)
      clear HT hb1 HG1 HG2
      go_wp2_with (first | (go_at_call 14; refine HG3.out.mono ?_; clear HG3; rintro e w2 ⟨rfl, hw⟩; have hw' := hw.symm; subst hw'; clear hw) | (go_at_call 14; refine HG4.out.mono ?_; rintro e w2 ⟨rfl, hw⟩; have hw' := hw.symm; subst hw'; clear hw))
      go_ret3
      exact s2_no HO.out O1 B1
end Go.Proofs.Ytcppbgkocipnlab

