/- The specification's SplitTour. A forest that is cut: pure. The specification's Cut. The program's SplitTour. The program's Cut. The walk of FnExactCut. -/
import Derived.Test.YtcpffonenhhfoabKSSplit
import Derived.Test.YtcpffonenhhfoabKHd7
import Derived.Test.YtcpffonenhhfoabKCmp6
import Derived.Test.YtcpffonenhhfoabKIJoin
import Derived.Deep.DeepCutAuto
namespace Go.Proofs.Ytcpffonenhhfoab
open Go.RowKit

theorem wpAny_frame {P : Program} {md : Region.Mode} {ops : Array Oper} {Q : Exit → Go.Act → World → Prop} {fuel : Nat} {listed : Array Bool} {a a' : Go.Act} {w : World} (h : a = a') (hh : wpAny P md ops Q fuel listed a' w) : wpAny P md ops Q fuel listed a w := h ▸ hh
set_option maxRecDepth 100000 in
set_option maxHeartbeats 8000000 in
theorem sSplitTour_any (t : List Int) (u v : Int) (n : Nat) (a : Option Addr) (c : Nat) (hn : n ≤ 1048576) (hc : n ≤ c) (w : World) (h : Is w w.heap.size a n t) :
    Calls Try.prog 24 #[.slice a n c, .int .i64 u, .int .i64 v] w fun e w' => S2Ans w (spO t u v) e w' := by
  obtain ⟨i0, hi, hz0, hz1, hz2⟩ := info_parts info3i
  have S0 := ISt.start w
  have HT := hideIt (sTourOk_any t n a c (by omega) (w.alloc (.cells #[] 3)) (h.up S0.bel))
  have HG1 := hideIt (fun x (hx : Below w.heap.size w x) => l06Going_any t u v n a c (by omega) x (h.up hx))
  have HG2 := hideIt (fun x (hx : Below w.heap.size w x) => l06Going_any t v u n a c (by omega) x (h.up hx))
  have HI := hideIt h
  have hlen := h.1
  cases hT : tB t with
  | false =>
    have HO := hideIt (show spO t u v = ([], [], false) by unfold spO; rw [if_neg (fun hh => by have := hh.1; rw [hT] at this; simp at this)])
    rw [hT] at HT
    clear hT h
    go_enter Try.func24, Try.ntmps24
    go_wp2_with (go_at_call 46; refine HT.out.mono ?_; rintro e w1 ⟨rfl, hb1⟩)
    go_ret3
    exact s2_no HO.out (own_up S0.own hb1) (S0.bel.trans (hb1.mono (by simp)))
  | true =>
    rw [hT] at HT
    rcases go_at (t := t) (u := u) (v := v) with ⟨k, hk, _⟩ | ⟨hk, _⟩
    · obtain ⟨p, hp, hpn, hkn⟩ := go_both hT hk
      rw [hk] at HG1
      rw [hp] at HG2
      rw [hlen] at hpn hkn
      obtain ⟨d, hd⟩ : ∃ d, d = min k p := ⟨_, rfl⟩
      obtain ⟨q, hq⟩ : ∃ q, q = max k p := ⟨_, rfl⟩
      have hm1 : min (k : Int) (p : Int) = (d : Int) := by rw [hd]; omega
      have hm2 : max (k : Int) (p : Int) = (q : Int) := by rw [hq]; omega
      have HO := hideIt (show spO t u v = spT t d q by unfold spO; rw [if_pos ⟨hT, by rw [hk]; omega⟩, hk, hp, hm1, hm2]; rfl)
      have hdq : d ≤ q := by omega
      have hqn : q + 1 < n := by omega
      have d1 : decide ((k : Int) < 0) = false := decide_eq_false (by omega)
      have d2 : decide ((p : Int) < 0) = false := decide_eq_false (by omega)
      obtain ⟨b, off, rfl⟩ : ∃ b off, a = some ⟨b, off, none⟩ := by
        rcases h.2 with hz | ⟨b, off, h1, _⟩
        · omega
        · exact ⟨b, off, h1⟩
      clear hT h hk hp
      go_enter Try.func24, Try.ntmps24
      go_wp2_with (go_at_call 46; refine HT.out.mono ?_; rintro e w1 ⟨rfl, hb1⟩; refine Hid.out ?_)
      refine (show ∀ {p : Prop}, p → Hid p from fun h => h) ?_
      have B1 := S0.bel.trans (hb1.mono (by simp))
      have HG3 := hideIt (HG1.out w1 B1)
      clear HT hb1
      go_wp2_with (go_at_call 47; refine HG3.out.mono ?_; rintro e w2 ⟨rfl, hw⟩; have hw' := hw.symm; subst hw'; clear hw; refine Hid.out ?_)
      refine (show ∀ {p : Prop}, p → Hid p from fun h => h) ?_
      clear HG3 HG1
      have HG3 := hideIt (HG2.out w1 B1)
      have S1 := ISt.start w1
      have HI1 := hideIt ((HI.out.up B1).up S1.bel)
      have HN1 := hideIt ((HI1.out.take (show d + 1 ≤ n by omega)).news)
      have HN1l : Hid ((ic (t.take (d + 1))).length = (d + 1) * 1) := by show _ = _; rw [ic_len, List.length_take]; omega
      obtain ⟨x1, hx1⟩ : ∃ x, x = t.take (d + 1) := ⟨_, rfl⟩
      rw [← hx1] at HN1 HN1l
      have HX1 := hideIt hx1
      clear hx1
      have e1 : ((d : Int) + 1).toNat = d + 1 := by omega
      have p1 : (0 : Int) ≤ (d : Int) + 1 := by omega
      have p2 : (d : Int) + 1 ≤ (c : Int) := by omega
      clear HG2
      rcases Nat.lt_or_ge p k with hkp | hkp
      · obtain rfl : d = p := by omega
        obtain rfl : q = k := by omega
        have d3 : decide ((d : Int) < (q : Int)) = true := decide_eq_true (by omega)
        clear hm1 hm2 hd hq
        go_wp2_with (first | (go_at_call 47; refine HG3.out.mono ?_; rintro e w2 ⟨rfl, hw⟩; have hw' := hw.symm; subst hw'; clear hw) | (at_builtin; refine wpList_append_own _ rfl _ _ 45 rfl w1.heap.size 3 i0 _ 1 8 Try.underlying45 hi hz0 hz1 hz2 rfl (by decide) _ _ _ rfl S1.own ⟨b, off, none⟩ (d + 1) c (ic x1) rfl HN1l.out HN1.out ic_one (by unfold maxLen; omega) (by omega) (by simp) ?_))
        intro v5 w5 hown5 hg5 _
        obtain ⟨a5, c5, rfl, S5⟩ := S1.appL hown5 hg5
        clear hown5 hg5 S1 HI1 HN1 HN1l HG3
        refine Hid.out ?_
        refine (show ∀ {p : Prop}, p → Hid p from fun h => h) ?_
        have B5 := B1.trans (S5.bel.mono B1.size)
        have O5 := own_mono S5.own B1.size
        rw [List.nil_append, HX1.out] at O5
        obtain ⟨g5, c5', hform, _⟩ := O5.form (by omega)
        simp at hform
        obtain ⟨rfl, rfl⟩ := hform
        have e2 : ((q : Int) + 2).toNat = q + 2 := by omega
        have e3 : ((q : Int) + 1).toNat = q + 1 := by omega
        have pw1 : IntKind.i64.wrap ((d : Int) + 1) = (d : Int) + 1 := by rw [IntKind.wrap_i64]; omega
        have pw2 : IntKind.i64.wrap ((q : Int) + 1) = (q : Int) + 1 := by rw [IntKind.wrap_i64]; omega
        have pw3 : IntKind.i64.wrap ((q : Int) + 2) = (q : Int) + 2 := by rw [IntKind.wrap_i64]; omega
        have p3 : (0 : Int) ≤ (q : Int) + 2 := by omega
        have p4 : (q : Int) + 2 ≤ (n : Int) := by omega
        have p6 : (d : Int) + 1 ≤ (q : Int) + 1 := by omega
        have p7 : (q : Int) + 1 ≤ (c : Int) := by omega
        have p8 : (0 : Int) ≤ (q : Int) + 1 := by omega
        have hcd : ¬ (c = d + 1) := by omega
        by_cases hz : c = q + 2
        · have hqd : ¬ (q + 1 = d) := by omega
          obtain ⟨⟨g1, cap1, y1, g1', cap1', z1, rA1, rB1, oA1, oB1, bz1⟩, ⟨g2, cap2, y2, g2', cap2', z2, rA2, rB2, oA2, oB2, bz2⟩, _⟩ := app_two (x := w5.drew) (ad1 := ⟨b, off, none⟩) (k1 := n - (q + 2)) (cc1 := 0) (ad2 := ⟨b, off + (d + 1), none⟩) (k2 := q - d) (cc2 := q + 1 - d) B5.drew (World.ownsRow.drew O5) (xs := t.drop (q + 2)) (by rw [show n - (q + 2) = 0 by omega]; exact Is.none_of (by rw [List.length_drop]; omega)) (by rw [show q - d = q + 1 - (d + 1) by omega]; exact (HI.out.take (show q + 1 ≤ n by omega)).drop (by omega)) rfl rfl (by omega)
          rw [show w5.drew.alloc (.cells #[] 3) = (w5.alloc (.cells #[] 3)).drew from rfl] at rA2
          rw [show w5.drew.heap.size = w5.heap.size from rfl] at rB2
          have F1 := hideIt (And.intro oA1 (And.intro oB1 bz1))
          have F2 := hideIt (And.intro oA2 (And.intro oB2 bz2))
          clear oA1 oB1 bz1 oA2 oB2 bz2 O5 S5 HI B1 S0
          go_wp2
          refine wp_region_any (by kernel_rfl) ?_
          change wpAny _ _ _ _ _ _ _ (World.drew _)
          refine takeOp (i := 0) (v := ?_) rfl (by kernel_rfl) (by kernel_rfl) (by kernel_rfl) (fun _ _ _ h => h) (by kernel_rfl) ?_ ?_
          rotate_left
          · intro w; go_simp; try with_reducible rfl
          refine takeOp (i := 1) (v := ?_) rfl (by kernel_rfl) (by kernel_rfl) (by kernel_rfl) (fun _ _ _ h => h) (by kernel_rfl) ?_ ?_
          rotate_left
          · intro w; go_simp; try with_reducible rfl
          refine takeOp (i := 2) (v := ?_) rfl (by kernel_rfl) (by kernel_rfl) (by kernel_rfl) (fun _ _ _ h => h) (by kernel_rfl) ?_ ?_
          rotate_left
          · intro w; go_simp; try with_reducible rfl
          refine takeOp (i := 3) (v := ?_) rfl (by kernel_rfl) (by kernel_rfl) (by kernel_rfl) (fun _ _ _ h => h) (by kernel_rfl) ?_ ?_
          rotate_left
          · intro w; go_simp; try with_reducible rfl
          refine takeOp (i := 4) (v := ?_) rfl (by kernel_rfl) (by kernel_rfl) (by kernel_rfl) (fun _ _ _ h => h) (by kernel_rfl) ?_ ?_
          rotate_left
          · intro w; go_simp; try with_reducible rfl
          refine takeOp (i := 7) (v := ?_) rfl (by kernel_rfl) (by kernel_rfl) (by kernel_rfl) (fun _ _ _ h => h) (by kernel_rfl) ?_ ?_
          rotate_left
          · intro w; go_simp; try with_reducible rfl
          refine takeOp (i := 8) (v := ?_) rfl (by kernel_rfl) (by kernel_rfl) (by kernel_rfl) (fun _ _ _ h => h) (by kernel_rfl) ?_ ?_
          rotate_left
          · intro w; go_simp; try with_reducible rfl
          refine takeOp (i := 9) (v := ?_) rfl (by kernel_rfl) (by kernel_rfl) (by kernel_rfl) (fun _ _ _ h => h) (by kernel_rfl) ?_ ?_
          rotate_left
          · intro w; go_simp; try with_reducible rfl
          refine takeOp (i := 10) (v := ?_) rfl (by kernel_rfl) (by kernel_rfl) (by kernel_rfl) (fun _ _ _ h => h) (by kernel_rfl) ?_ ?_
          rotate_left
          · intro w; go_simp; try with_reducible rfl
          refine takeOp (i := 11) (v := ?_) rfl (by kernel_rfl) (by kernel_rfl) (by kernel_rfl) (fun _ _ _ h => h) (by kernel_rfl) ?_ ?_
          rotate_left
          · intro w; go_simp; try with_reducible rfl
          refine takeOp (i := 12) (v := ?_) rfl (by kernel_rfl) (by kernel_rfl) (by kernel_rfl) (fun _ _ _ h => h) (by kernel_rfl) ?_ ?_
          rotate_left
          · intro w; go_simp; try with_reducible rfl
          refine wpAny_frame (a' := ?_) ?_ ?_
          rotate_left
          · go_simp; try with_reducible rfl
          refine wpAny_ready (rs := [5, 6]) (by kernel_rfl) (by simp) (AllReady.cons rfl (fun K hK => step_app rfl _ _ 45 rfl rfl rfl rA1 (hK _ _ ?_)) (AllReady.cons rfl (fun K hK => ?_) AllReady.nil))
          · clear hK K rA2 rB2 F2
            refine wpAny_frame (a' := ?_) ?_ ?_
            rotate_left
            · go_simp; try with_reducible rfl
            refine wpAny_ready (rs := [6]) (by kernel_rfl) (by simp) ?_
            refine AllReady.cons rfl (fun K hK => ?_) AllReady.nil
            go_simp
            refine hK _ _ ?_
            clear hK K
            refine wpAny_ready (rs := [13]) (by kernel_rfl) (by simp) (AllReady.cons rfl (fun K hK => step_app rfl _ _ 45 rfl rfl rfl rB1 (hK _ _ ?_)) AllReady.nil)
            clear hK K
            refine wpAny_frame (a' := ?_) ?_ ?_
            rotate_left
            · go_simp; try with_reducible rfl
            refine wpAny_ready (rs := [14]) (by kernel_rfl) (by simp) ?_
            refine AllReady.cons rfl (fun K hK => ?_) AllReady.nil
            go_simp
            refine hK _ _ ?_
            clear hK K
            refine wpAny_ready (rs := [15]) (by kernel_rfl) (by simp) ?_
            refine AllReady.cons rfl (fun K hK => ?_) AllReady.nil
            go_simp
            refine hK _ _ ?_
            clear hK K
            refine wpAny_ready (rs := [16]) (by kernel_rfl) (by simp) ?_
            refine AllReady.cons rfl (fun K hK => ?_) AllReady.nil
            go_simp
            refine hK _ _ ?_
            clear hK K
            refine wpAny_done (by kernel_rfl) ?_ _
            go_wp2
            go_ret3
            exact s2_yes HO.out F1.out.1 F1.out.2.1 F1.out.2.2
          · go_simp
            refine hK _ _ ?_
            clear hK K rA1 rB1 F1
            refine wpAny_ready (rs := [5]) (by kernel_rfl) (by simp) (AllReady.cons rfl (fun K hK => step_app rfl _ _ 45 rfl rfl rfl rA2 (hK _ _ ?_)) AllReady.nil)
            clear hK K
            refine wpAny_frame (a' := ?_) ?_ ?_
            rotate_left
            · go_simp; try with_reducible rfl
            refine wpAny_ready (rs := [13]) (by kernel_rfl) (by simp) (AllReady.cons rfl (fun K hK => step_app rfl _ _ 45 rfl rfl rfl rB2 (hK _ _ ?_)) AllReady.nil)
            clear hK K
            refine wpAny_frame (a' := ?_) ?_ ?_
            rotate_left
            · go_simp; try with_reducible rfl
            refine wpAny_ready (rs := [14]) (by kernel_rfl) (by simp) ?_
            refine AllReady.cons rfl (fun K hK => ?_) AllReady.nil
            go_simp
            refine hK _ _ ?_
            clear hK K
            refine wpAny_ready (rs := [15]) (by kernel_rfl) (by simp) ?_
            refine AllReady.cons rfl (fun K hK => ?_) AllReady.nil
            go_simp
            refine hK _ _ ?_
            clear hK K
            refine wpAny_ready (rs := [16]) (by kernel_rfl) (by simp) ?_
            refine AllReady.cons rfl (fun K hK => ?_) AllReady.nil
            go_simp
            refine hK _ _ ?_
            clear hK K
            refine wpAny_done (by kernel_rfl) ?_ _
            go_wp2
            go_ret3
            exact s2_yes HO.out F2.out.1 F2.out.2.1 F2.out.2.2
        · obtain ⟨⟨g1, cap1, y1, g1', cap1', z1, rA1, rB1, oA1, oB1, bz1⟩, ⟨g2, cap2, y2, g2', cap2', z2, rA2, rB2, oA2, oB2, bz2⟩, _⟩ := app_two (x := w5.drew) (ad1 := ⟨b, off + (q + 2), none⟩) (k1 := n - (q + 2)) (cc1 := c - (q + 2)) (ad2 := ⟨b, off + (d + 1), none⟩) (k2 := q - d) (cc2 := c - (d + 1)) B5.drew (World.ownsRow.drew O5) (HI.out.drop (show q + 2 ≤ n by omega)) (by rw [show q - d = q + 1 - (d + 1) by omega]; exact (HI.out.take (show q + 1 ≤ n by omega)).drop (by omega)) rfl rfl (by omega)
          rw [show w5.drew.alloc (.cells #[] 3) = (w5.alloc (.cells #[] 3)).drew from rfl] at rA2
          rw [show w5.drew.heap.size = w5.heap.size from rfl] at rB2
          have F1 := hideIt (And.intro oA1 (And.intro oB1 bz1))
          have F2 := hideIt (And.intro oA2 (And.intro oB2 bz2))
          clear oA1 oB1 bz1 oA2 oB2 bz2 O5 S5 HI B1 S0
          go_wp2
          refine wp_region_any (by kernel_rfl) ?_
          change wpAny _ _ _ _ _ _ _ (World.drew _)
          refine takeOp (i := 0) (v := ?_) rfl (by kernel_rfl) (by kernel_rfl) (by kernel_rfl) (fun _ _ _ h => h) (by kernel_rfl) ?_ ?_
          rotate_left
          · intro w; go_simp; try with_reducible rfl
          refine takeOp (i := 1) (v := ?_) rfl (by kernel_rfl) (by kernel_rfl) (by kernel_rfl) (fun _ _ _ h => h) (by kernel_rfl) ?_ ?_
          rotate_left
          · intro w; go_simp; try with_reducible rfl
          refine takeOp (i := 2) (v := ?_) rfl (by kernel_rfl) (by kernel_rfl) (by kernel_rfl) (fun _ _ _ h => h) (by kernel_rfl) ?_ ?_
          rotate_left
          · intro w; go_simp; try with_reducible rfl
          refine takeOp (i := 3) (v := ?_) rfl (by kernel_rfl) (by kernel_rfl) (by kernel_rfl) (fun _ _ _ h => h) (by kernel_rfl) ?_ ?_
          rotate_left
          · intro w; go_simp; try with_reducible rfl
          refine takeOp (i := 4) (v := ?_) rfl (by kernel_rfl) (by kernel_rfl) (by kernel_rfl) (fun _ _ _ h => h) (by kernel_rfl) ?_ ?_
          rotate_left
          · intro w; go_simp; try with_reducible rfl
          refine takeOp (i := 7) (v := ?_) rfl (by kernel_rfl) (by kernel_rfl) (by kernel_rfl) (fun _ _ _ h => h) (by kernel_rfl) ?_ ?_
          rotate_left
          · intro w; go_simp; try with_reducible rfl
          refine takeOp (i := 8) (v := ?_) rfl (by kernel_rfl) (by kernel_rfl) (by kernel_rfl) (fun _ _ _ h => h) (by kernel_rfl) ?_ ?_
          rotate_left
          · intro w; go_simp; try with_reducible rfl
          refine takeOp (i := 9) (v := ?_) rfl (by kernel_rfl) (by kernel_rfl) (by kernel_rfl) (fun _ _ _ h => h) (by kernel_rfl) ?_ ?_
          rotate_left
          · intro w; go_simp; try with_reducible rfl
          refine takeOp (i := 10) (v := ?_) rfl (by kernel_rfl) (by kernel_rfl) (by kernel_rfl) (fun _ _ _ h => h) (by kernel_rfl) ?_ ?_
          rotate_left
          · intro w; go_simp; try with_reducible rfl
          refine takeOp (i := 11) (v := ?_) rfl (by kernel_rfl) (by kernel_rfl) (by kernel_rfl) (fun _ _ _ h => h) (by kernel_rfl) ?_ ?_
          rotate_left
          · intro w; go_simp; try with_reducible rfl
          refine takeOp (i := 12) (v := ?_) rfl (by kernel_rfl) (by kernel_rfl) (by kernel_rfl) (fun _ _ _ h => h) (by kernel_rfl) ?_ ?_
          rotate_left
          · intro w; go_simp; try with_reducible rfl
          refine wpAny_frame (a' := ?_) ?_ ?_
          rotate_left
          · go_simp; try with_reducible rfl
          refine wpAny_ready (rs := [5, 6]) (by kernel_rfl) (by simp) (AllReady.cons rfl (fun K hK => step_app rfl _ _ 45 rfl rfl rfl rA1 (hK _ _ ?_)) (AllReady.cons rfl (fun K hK => ?_) AllReady.nil))
          · clear hK K rA2 rB2 F2
            refine wpAny_frame (a' := ?_) ?_ ?_
            rotate_left
            · go_simp; try with_reducible rfl
            refine wpAny_ready (rs := [6]) (by kernel_rfl) (by simp) ?_
            refine AllReady.cons rfl (fun K hK => ?_) AllReady.nil
            go_simp
            refine hK _ _ ?_
            clear hK K
            refine wpAny_ready (rs := [13]) (by kernel_rfl) (by simp) (AllReady.cons rfl (fun K hK => step_app rfl _ _ 45 rfl rfl rfl rB1 (hK _ _ ?_)) AllReady.nil)
            clear hK K
            refine wpAny_frame (a' := ?_) ?_ ?_
            rotate_left
            · go_simp; try with_reducible rfl
            refine wpAny_ready (rs := [14]) (by kernel_rfl) (by simp) ?_
            refine AllReady.cons rfl (fun K hK => ?_) AllReady.nil
            go_simp
            refine hK _ _ ?_
            clear hK K
            refine wpAny_ready (rs := [15]) (by kernel_rfl) (by simp) ?_
            refine AllReady.cons rfl (fun K hK => ?_) AllReady.nil
            go_simp
            refine hK _ _ ?_
            clear hK K
            refine wpAny_ready (rs := [16]) (by kernel_rfl) (by simp) ?_
            refine AllReady.cons rfl (fun K hK => ?_) AllReady.nil
            go_simp
            refine hK _ _ ?_
            clear hK K
            refine wpAny_done (by kernel_rfl) ?_ _
            go_wp2
            go_ret3
            exact s2_yes HO.out F1.out.1 F1.out.2.1 F1.out.2.2
          · go_simp
            refine hK _ _ ?_
            clear hK K rA1 rB1 F1
            refine wpAny_ready (rs := [5]) (by kernel_rfl) (by simp) (AllReady.cons rfl (fun K hK => step_app rfl _ _ 45 rfl rfl rfl rA2 (hK _ _ ?_)) AllReady.nil)
            clear hK K
            refine wpAny_frame (a' := ?_) ?_ ?_
            rotate_left
            · go_simp; try with_reducible rfl
            refine wpAny_ready (rs := [13]) (by kernel_rfl) (by simp) (AllReady.cons rfl (fun K hK => step_app rfl _ _ 45 rfl rfl rfl rB2 (hK _ _ ?_)) AllReady.nil)
            clear hK K
            refine wpAny_frame (a' := ?_) ?_ ?_
            rotate_left
            · go_simp; try with_reducible rfl
            refine wpAny_ready (rs := [14]) (by kernel_rfl) (by simp) ?_
            refine AllReady.cons rfl (fun K hK => ?_) AllReady.nil
            go_simp
            refine hK _ _ ?_
            clear hK K
            refine wpAny_ready (rs := [15]) (by kernel_rfl) (by simp) ?_
            refine AllReady.cons rfl (fun K hK => ?_) AllReady.nil
            go_simp
            refine hK _ _ ?_
            clear hK K
            refine wpAny_ready (rs := [16]) (by kernel_rfl) (by simp) ?_
            refine AllReady.cons rfl (fun K hK => ?_) AllReady.nil
            go_simp
            refine hK _ _ ?_
            clear hK K
            refine wpAny_done (by kernel_rfl) ?_ _
            go_wp2
            go_ret3
            exact s2_yes HO.out F2.out.1 F2.out.2.1 F2.out.2.2
      · obtain rfl : d = k := by omega
        obtain rfl : q = p := by omega
        have d3 : decide ((q : Int) < (d : Int)) = false := decide_eq_false (by omega)
        clear hm1 hm2 hd hq
        go_wp2_with (first | (go_at_call 47; refine HG3.out.mono ?_; rintro e w2 ⟨rfl, hw⟩; have hw' := hw.symm; subst hw'; clear hw) | (at_builtin; refine wpList_append_own _ rfl _ _ 45 rfl w1.heap.size 3 i0 _ 1 8 Try.underlying45 hi hz0 hz1 hz2 rfl (by decide) _ _ _ rfl S1.own ⟨b, off, none⟩ (d + 1) c (ic x1) rfl HN1l.out HN1.out ic_one (by unfold maxLen; omega) (by omega) (by simp) ?_))
        intro v5 w5 hown5 hg5 _
        obtain ⟨a5, c5, rfl, S5⟩ := S1.appL hown5 hg5
        clear hown5 hg5 S1 HI1 HN1 HN1l HG3
        refine Hid.out ?_
        refine (show ∀ {p : Prop}, p → Hid p from fun h => h) ?_
        have B5 := B1.trans (S5.bel.mono B1.size)
        have O5 := own_mono S5.own B1.size
        rw [List.nil_append, HX1.out] at O5
        obtain ⟨g5, c5', hform, _⟩ := O5.form (by omega)
        simp at hform
        obtain ⟨rfl, rfl⟩ := hform
        have e2 : ((q : Int) + 2).toNat = q + 2 := by omega
        have e3 : ((q : Int) + 1).toNat = q + 1 := by omega
        have pw1 : IntKind.i64.wrap ((d : Int) + 1) = (d : Int) + 1 := by rw [IntKind.wrap_i64]; omega
        have pw2 : IntKind.i64.wrap ((q : Int) + 1) = (q : Int) + 1 := by rw [IntKind.wrap_i64]; omega
        have pw3 : IntKind.i64.wrap ((q : Int) + 2) = (q : Int) + 2 := by rw [IntKind.wrap_i64]; omega
        have p3 : (0 : Int) ≤ (q : Int) + 2 := by omega
        have p4 : (q : Int) + 2 ≤ (n : Int) := by omega
        have p6 : (d : Int) + 1 ≤ (q : Int) + 1 := by omega
        have p7 : (q : Int) + 1 ≤ (c : Int) := by omega
        have p8 : (0 : Int) ≤ (q : Int) + 1 := by omega
        have hcd : ¬ (c = d + 1) := by omega
        by_cases hz : c = q + 2
        · have hqd : ¬ (q + 1 = d) := by omega
          obtain ⟨⟨g1, cap1, y1, g1', cap1', z1, rA1, rB1, oA1, oB1, bz1⟩, ⟨g2, cap2, y2, g2', cap2', z2, rA2, rB2, oA2, oB2, bz2⟩, _⟩ := app_two (x := w5.drew) (ad1 := ⟨b, off, none⟩) (k1 := n - (q + 2)) (cc1 := 0) (ad2 := ⟨b, off + (d + 1), none⟩) (k2 := q - d) (cc2 := q + 1 - d) B5.drew (World.ownsRow.drew O5) (xs := t.drop (q + 2)) (by rw [show n - (q + 2) = 0 by omega]; exact Is.none_of (by rw [List.length_drop]; omega)) (by rw [show q - d = q + 1 - (d + 1) by omega]; exact (HI.out.take (show q + 1 ≤ n by omega)).drop (by omega)) rfl rfl (by omega)
          rw [show w5.drew.alloc (.cells #[] 3) = (w5.alloc (.cells #[] 3)).drew from rfl] at rA2
          rw [show w5.drew.heap.size = w5.heap.size from rfl] at rB2
          have F1 := hideIt (And.intro oA1 (And.intro oB1 bz1))
          have F2 := hideIt (And.intro oA2 (And.intro oB2 bz2))
          clear oA1 oB1 bz1 oA2 oB2 bz2 O5 S5 HI B1 S0
          go_wp2
          refine wp_region_any (by kernel_rfl) ?_
          change wpAny _ _ _ _ _ _ _ (World.drew _)
          refine takeOp (i := 0) (v := ?_) rfl (by kernel_rfl) (by kernel_rfl) (by kernel_rfl) (fun _ _ _ h => h) (by kernel_rfl) ?_ ?_
          rotate_left
          · intro w; go_simp; try with_reducible rfl
          refine takeOp (i := 1) (v := ?_) rfl (by kernel_rfl) (by kernel_rfl) (by kernel_rfl) (fun _ _ _ h => h) (by kernel_rfl) ?_ ?_
          rotate_left
          · intro w; go_simp; try with_reducible rfl
          refine takeOp (i := 2) (v := ?_) rfl (by kernel_rfl) (by kernel_rfl) (by kernel_rfl) (fun _ _ _ h => h) (by kernel_rfl) ?_ ?_
          rotate_left
          · intro w; go_simp; try with_reducible rfl
          refine takeOp (i := 3) (v := ?_) rfl (by kernel_rfl) (by kernel_rfl) (by kernel_rfl) (fun _ _ _ h => h) (by kernel_rfl) ?_ ?_
          rotate_left
          · intro w; go_simp; try with_reducible rfl
          refine takeOp (i := 4) (v := ?_) rfl (by kernel_rfl) (by kernel_rfl) (by kernel_rfl) (fun _ _ _ h => h) (by kernel_rfl) ?_ ?_
          rotate_left
          · intro w; go_simp; try with_reducible rfl
          refine takeOp (i := 7) (v := ?_) rfl (by kernel_rfl) (by kernel_rfl) (by kernel_rfl) (fun _ _ _ h => h) (by kernel_rfl) ?_ ?_
          rotate_left
          · intro w; go_simp; try with_reducible rfl
          refine takeOp (i := 8) (v := ?_) rfl (by kernel_rfl) (by kernel_rfl) (by kernel_rfl) (fun _ _ _ h => h) (by kernel_rfl) ?_ ?_
          rotate_left
          · intro w; go_simp; try with_reducible rfl
          refine takeOp (i := 9) (v := ?_) rfl (by kernel_rfl) (by kernel_rfl) (by kernel_rfl) (fun _ _ _ h => h) (by kernel_rfl) ?_ ?_
          rotate_left
          · intro w; go_simp; try with_reducible rfl
          refine takeOp (i := 10) (v := ?_) rfl (by kernel_rfl) (by kernel_rfl) (by kernel_rfl) (fun _ _ _ h => h) (by kernel_rfl) ?_ ?_
          rotate_left
          · intro w; go_simp; try with_reducible rfl
          refine takeOp (i := 11) (v := ?_) rfl (by kernel_rfl) (by kernel_rfl) (by kernel_rfl) (fun _ _ _ h => h) (by kernel_rfl) ?_ ?_
          rotate_left
          · intro w; go_simp; try with_reducible rfl
          refine takeOp (i := 12) (v := ?_) rfl (by kernel_rfl) (by kernel_rfl) (by kernel_rfl) (fun _ _ _ h => h) (by kernel_rfl) ?_ ?_
          rotate_left
          · intro w; go_simp; try with_reducible rfl
          refine wpAny_frame (a' := ?_) ?_ ?_
          rotate_left
          · go_simp; try with_reducible rfl
          refine wpAny_ready (rs := [5, 6]) (by kernel_rfl) (by simp) (AllReady.cons rfl (fun K hK => step_app rfl _ _ 45 rfl rfl rfl rA1 (hK _ _ ?_)) (AllReady.cons rfl (fun K hK => ?_) AllReady.nil))
          · clear hK K rA2 rB2 F2
            refine wpAny_frame (a' := ?_) ?_ ?_
            rotate_left
            · go_simp; try with_reducible rfl
            refine wpAny_ready (rs := [6]) (by kernel_rfl) (by simp) ?_
            refine AllReady.cons rfl (fun K hK => ?_) AllReady.nil
            go_simp
            refine hK _ _ ?_
            clear hK K
            refine wpAny_ready (rs := [13]) (by kernel_rfl) (by simp) (AllReady.cons rfl (fun K hK => step_app rfl _ _ 45 rfl rfl rfl rB1 (hK _ _ ?_)) AllReady.nil)
            clear hK K
            refine wpAny_frame (a' := ?_) ?_ ?_
            rotate_left
            · go_simp; try with_reducible rfl
            refine wpAny_ready (rs := [14]) (by kernel_rfl) (by simp) ?_
            refine AllReady.cons rfl (fun K hK => ?_) AllReady.nil
            go_simp
            refine hK _ _ ?_
            clear hK K
            refine wpAny_ready (rs := [15]) (by kernel_rfl) (by simp) ?_
            refine AllReady.cons rfl (fun K hK => ?_) AllReady.nil
            go_simp
            refine hK _ _ ?_
            clear hK K
            refine wpAny_ready (rs := [16]) (by kernel_rfl) (by simp) ?_
            refine AllReady.cons rfl (fun K hK => ?_) AllReady.nil
            go_simp
            refine hK _ _ ?_
            clear hK K
            refine wpAny_done (by kernel_rfl) ?_ _
            go_wp2
            go_ret3
            exact s2_yes HO.out F1.out.1 F1.out.2.1 F1.out.2.2
          · go_simp
            refine hK _ _ ?_
            clear hK K rA1 rB1 F1
            refine wpAny_ready (rs := [5]) (by kernel_rfl) (by simp) (AllReady.cons rfl (fun K hK => step_app rfl _ _ 45 rfl rfl rfl rA2 (hK _ _ ?_)) AllReady.nil)
            clear hK K
            refine wpAny_frame (a' := ?_) ?_ ?_
            rotate_left
            · go_simp; try with_reducible rfl
            refine wpAny_ready (rs := [13]) (by kernel_rfl) (by simp) (AllReady.cons rfl (fun K hK => step_app rfl _ _ 45 rfl rfl rfl rB2 (hK _ _ ?_)) AllReady.nil)
            clear hK K
            refine wpAny_frame (a' := ?_) ?_ ?_
            rotate_left
            · go_simp; try with_reducible rfl
            refine wpAny_ready (rs := [14]) (by kernel_rfl) (by simp) ?_
            refine AllReady.cons rfl (fun K hK => ?_) AllReady.nil
            go_simp
            refine hK _ _ ?_
            clear hK K
            refine wpAny_ready (rs := [15]) (by kernel_rfl) (by simp) ?_
            refine AllReady.cons rfl (fun K hK => ?_) AllReady.nil
            go_simp
            refine hK _ _ ?_
            clear hK K
            refine wpAny_ready (rs := [16]) (by kernel_rfl) (by simp) ?_
            refine AllReady.cons rfl (fun K hK => ?_) AllReady.nil
            go_simp
            refine hK _ _ ?_
            clear hK K
            refine wpAny_done (by kernel_rfl) ?_ _
            go_wp2
            go_ret3
            exact s2_yes HO.out F2.out.1 F2.out.2.1 F2.out.2.2
        · obtain ⟨⟨g1, cap1, y1, g1', cap1', z1, rA1, rB1, oA1, oB1, bz1⟩, ⟨g2, cap2, y2, g2', cap2', z2, rA2, rB2, oA2, oB2, bz2⟩, _⟩ := app_two (x := w5.drew) (ad1 := ⟨b, off + (q + 2), none⟩) (k1 := n - (q + 2)) (cc1 := c - (q + 2)) (ad2 := ⟨b, off + (d + 1), none⟩) (k2 := q - d) (cc2 := c - (d + 1)) B5.drew (World.ownsRow.drew O5) (HI.out.drop (show q + 2 ≤ n by omega)) (by rw [show q - d = q + 1 - (d + 1) by omega]; exact (HI.out.take (show q + 1 ≤ n by omega)).drop (by omega)) rfl rfl (by omega)
          rw [show w5.drew.alloc (.cells #[] 3) = (w5.alloc (.cells #[] 3)).drew from rfl] at rA2
          rw [show w5.drew.heap.size = w5.heap.size from rfl] at rB2
          have F1 := hideIt (And.intro oA1 (And.intro oB1 bz1))
          have F2 := hideIt (And.intro oA2 (And.intro oB2 bz2))
          clear oA1 oB1 bz1 oA2 oB2 bz2 O5 S5 HI B1 S0
          go_wp2
          refine wp_region_any (by kernel_rfl) ?_
          change wpAny _ _ _ _ _ _ _ (World.drew _)
          refine takeOp (i := 0) (v := ?_) rfl (by kernel_rfl) (by kernel_rfl) (by kernel_rfl) (fun _ _ _ h => h) (by kernel_rfl) ?_ ?_
          rotate_left
          · intro w; go_simp; try with_reducible rfl
          refine takeOp (i := 1) (v := ?_) rfl (by kernel_rfl) (by kernel_rfl) (by kernel_rfl) (fun _ _ _ h => h) (by kernel_rfl) ?_ ?_
          rotate_left
          · intro w; go_simp; try with_reducible rfl
          refine takeOp (i := 2) (v := ?_) rfl (by kernel_rfl) (by kernel_rfl) (by kernel_rfl) (fun _ _ _ h => h) (by kernel_rfl) ?_ ?_
          rotate_left
          · intro w; go_simp; try with_reducible rfl
          refine takeOp (i := 3) (v := ?_) rfl (by kernel_rfl) (by kernel_rfl) (by kernel_rfl) (fun _ _ _ h => h) (by kernel_rfl) ?_ ?_
          rotate_left
          · intro w; go_simp; try with_reducible rfl
          refine takeOp (i := 4) (v := ?_) rfl (by kernel_rfl) (by kernel_rfl) (by kernel_rfl) (fun _ _ _ h => h) (by kernel_rfl) ?_ ?_
          rotate_left
          · intro w; go_simp; try with_reducible rfl
          refine takeOp (i := 7) (v := ?_) rfl (by kernel_rfl) (by kernel_rfl) (by kernel_rfl) (fun _ _ _ h => h) (by kernel_rfl) ?_ ?_
          rotate_left
          · intro w; go_simp; try with_reducible rfl
          refine takeOp (i := 8) (v := ?_) rfl (by kernel_rfl) (by kernel_rfl) (by kernel_rfl) (fun _ _ _ h => h) (by kernel_rfl) ?_ ?_
          rotate_left
          · intro w; go_simp; try with_reducible rfl
          refine takeOp (i := 9) (v := ?_) rfl (by kernel_rfl) (by kernel_rfl) (by kernel_rfl) (fun _ _ _ h => h) (by kernel_rfl) ?_ ?_
          rotate_left
          · intro w; go_simp; try with_reducible rfl
          refine takeOp (i := 10) (v := ?_) rfl (by kernel_rfl) (by kernel_rfl) (by kernel_rfl) (fun _ _ _ h => h) (by kernel_rfl) ?_ ?_
          rotate_left
          · intro w; go_simp; try with_reducible rfl
          refine takeOp (i := 11) (v := ?_) rfl (by kernel_rfl) (by kernel_rfl) (by kernel_rfl) (fun _ _ _ h => h) (by kernel_rfl) ?_ ?_
          rotate_left
          · intro w; go_simp; try with_reducible rfl
          refine takeOp (i := 12) (v := ?_) rfl (by kernel_rfl) (by kernel_rfl) (by kernel_rfl) (fun _ _ _ h => h) (by kernel_rfl) ?_ ?_
          rotate_left
          · intro w; go_simp; try with_reducible rfl
          refine wpAny_frame (a' := ?_) ?_ ?_
          rotate_left
          · go_simp; try with_reducible rfl
          refine wpAny_ready (rs := [5, 6]) (by kernel_rfl) (by simp) (AllReady.cons rfl (fun K hK => step_app rfl _ _ 45 rfl rfl rfl rA1 (hK _ _ ?_)) (AllReady.cons rfl (fun K hK => ?_) AllReady.nil))
          · clear hK K rA2 rB2 F2
            refine wpAny_frame (a' := ?_) ?_ ?_
            rotate_left
            · go_simp; try with_reducible rfl
            refine wpAny_ready (rs := [6]) (by kernel_rfl) (by simp) ?_
            refine AllReady.cons rfl (fun K hK => ?_) AllReady.nil
            go_simp
            refine hK _ _ ?_
            clear hK K
            refine wpAny_ready (rs := [13]) (by kernel_rfl) (by simp) (AllReady.cons rfl (fun K hK => step_app rfl _ _ 45 rfl rfl rfl rB1 (hK _ _ ?_)) AllReady.nil)
            clear hK K
            refine wpAny_frame (a' := ?_) ?_ ?_
            rotate_left
            · go_simp; try with_reducible rfl
            refine wpAny_ready (rs := [14]) (by kernel_rfl) (by simp) ?_
            refine AllReady.cons rfl (fun K hK => ?_) AllReady.nil
            go_simp
            refine hK _ _ ?_
            clear hK K
            refine wpAny_ready (rs := [15]) (by kernel_rfl) (by simp) ?_
            refine AllReady.cons rfl (fun K hK => ?_) AllReady.nil
            go_simp
            refine hK _ _ ?_
            clear hK K
            refine wpAny_ready (rs := [16]) (by kernel_rfl) (by simp) ?_
            refine AllReady.cons rfl (fun K hK => ?_) AllReady.nil
            go_simp
            refine hK _ _ ?_
            clear hK K
            refine wpAny_done (by kernel_rfl) ?_ _
            go_wp2
            go_ret3
            exact s2_yes HO.out F1.out.1 F1.out.2.1 F1.out.2.2
          · go_simp
            refine hK _ _ ?_
            clear hK K rA1 rB1 F1
            refine wpAny_ready (rs := [5]) (by kernel_rfl) (by simp) (AllReady.cons rfl (fun K hK => step_app rfl _ _ 45 rfl rfl rfl rA2 (hK _ _ ?_)) AllReady.nil)
            clear hK K
            refine wpAny_frame (a' := ?_) ?_ ?_
            rotate_left
            · go_simp; try with_reducible rfl
            refine wpAny_ready (rs := [13]) (by kernel_rfl) (by simp) (AllReady.cons rfl (fun K hK => step_app rfl _ _ 45 rfl rfl rfl rB2 (hK _ _ ?_)) AllReady.nil)
            clear hK K
            refine wpAny_frame (a' := ?_) ?_ ?_
            rotate_left
            · go_simp; try with_reducible rfl
            refine wpAny_ready (rs := [14]) (by kernel_rfl) (by simp) ?_
            refine AllReady.cons rfl (fun K hK => ?_) AllReady.nil
            go_simp
            refine hK _ _ ?_
            clear hK K
            refine wpAny_ready (rs := [15]) (by kernel_rfl) (by simp) ?_
            refine AllReady.cons rfl (fun K hK => ?_) AllReady.nil
            go_simp
            refine hK _ _ ?_
            clear hK K
            refine wpAny_ready (rs := [16]) (by kernel_rfl) (by simp) ?_
            refine AllReady.cons rfl (fun K hK => ?_) AllReady.nil
            go_simp
            refine hK _ _ ?_
            clear hK K
            refine wpAny_done (by kernel_rfl) ?_ _
            go_wp2
            go_ret3
            exact s2_yes HO.out F2.out.1 F2.out.2.1 F2.out.2.2
    · have HO := hideIt (show spO t u v = ([], [], false) by unfold spO; rw [if_neg (fun hh => by have := hh.2; omega)])
      rw [hk] at HG1
      clear hT h
      go_enter Try.func24, Try.ntmps24
      go_wp2_with (go_at_call 46; refine HT.out.mono ?_; rintro e w1 ⟨rfl, hb1⟩; refine Hid.out ?_)
      refine (show ∀ {p : Prop}, p → Hid p from fun h => h) ?_
      have B1 := S0.bel.trans (hb1.mono (by simp))
      have O1 := own_up S0.own hb1
      have HG3 := hideIt (HG1.out w1 B1)
      have HG4 := hideIt (HG2.out w1 B1)
      clear HT hb1 HG1 HG2
      go_wp2_with (first | (go_at_call 47; refine HG3.out.mono ?_; clear HG3; rintro e w2 ⟨rfl, hw⟩; have hw' := hw.symm; subst hw'; clear hw) | (go_at_call 47; refine HG4.out.mono ?_; rintro e w2 ⟨rfl, hw⟩; have hw' := hw.symm; subst hw'; clear hw))
      go_ret3
      exact s2_no HO.out O1 B1
end Go.Proofs.Ytcpffonenhhfoab
namespace Go.Proofs.Ytcpffonenhhfoab
open Go.RowKit

theorem cut_sp {t A B : List Int} {u v : Int} (hS : spO t u v = (A, B, true)) : ∃ p c, SpIs t A B p c ∧ v ∈ t := by
  obtain ⟨hB, k, h1, h2⟩ := cut_in hS
  obtain ⟨A', B', p, c, e, _, hs, _⟩ := spl_is hB h1 h2
  rw [hS] at e
  simp only [Prod.mk.injEq, and_true] at e
  obtain ⟨rfl, rfl⟩ := e
  exact ⟨p, c, hs, List.mem_of_getElem? h2⟩
theorem cut_fq {N : Nat} {ts : List (List Int)} (hP : FP (N : Int) ts) {i : Nat} {t A B : List Int} {u v : Int} (hi : ts[i]? = some t) (hS : spO t u v = (A, B, true)) : FQ (N : Int) (woK ts [i] ts.length ++ [A, B]) := by
  obtain ⟨p, c, hs, _⟩ := cut_sp hS
  exact (hP.q.perm (wo_one_all hi).symm).split hs
end Go.Proofs.Ytcpffonenhhfoab
namespace Go.Proofs.Ytcpffonenhhfoab
open Go.RowKit

theorem rans_no {w u : World} {N : Int} {o : Option (List (List Int))} (ho : o = none) (h : Below w.heap.size w u) : RAns w N o (.returned (.tuple #[.agg #[.int .i64 0, .slice none 0 0], .bool false])) u := by
  subst ho
  exact ⟨none, 0, 0, [], rfl, ⟨World.ownsRow_nil _ _ _ _, HdT.nil _ _, by simp⟩, h⟩
/-- a number in a row -/
theorem is_one {w : World} {x : Int} : Is (w.alloc (.cells #[.int .i64 x] 3)) (w.alloc (.cells #[.int .i64 x] 3)).heap.size (some ⟨w.heap.size, 0, none⟩) 1 [x] := ⟨rfl, .inr ⟨w.heap.size, 0, rfl, by simp, fun j z hz => by
  rcases j with _ | j
  · simp at hz; subst hz; simp
  · simp at hz⟩⟩
theorem ts_two {w : World} {x y : Option Addr} {cx cy : Nat} {t s : List Int} (h : Is w w.heap.size x t.length t) (hc : t.length ≤ cx) (h' : Is w w.heap.size y s.length s) (hc' : s.length ≤ cy) : Ts (w.alloc (.cells #[.slice x t.length cx, .slice y s.length cy] 45)) (w.alloc (.cells #[.slice x t.length cx, .slice y s.length cy] 45)).heap.size (some ⟨w.heap.size, 0, none⟩) 2 [t, s] := ⟨rfl, .inr ⟨w.heap.size, 0, rfl, by simp, fun j q hq => by
  rcases j with _ | _ | j
  · simp at hq
    subst hq
    exact ⟨x, cx, by simp, h.up ((Good.refl w).alloc _), hc⟩
  · simp at hq
    subst hq
    exact ⟨y, cy, by simp, h'.up ((Good.refl w).alloc _), hc'⟩
  · simp at hq⟩⟩
set_option maxRecDepth 100000 in
set_option maxHeartbeats 8000000 in
theorem sCut_any (N : Int) (ts : List (List Int)) (f : EdgeV) (n : Nat) (a : Option Addr) (c : Nat) (hn : n + lnS ts ≤ 1048576) (w : World) (h : Ts w w.heap.size a n ts) :
    Calls Try.prog 7 #[.agg #[.int .i64 N, .slice a n c], .agg #[.int .i64 f.1, .int .i64 f.2]] w fun e w' => RAns w N (cutO N ts f) e w' := by
  obtain ⟨W, hW⟩ : ∃ W, W = w3of w N a n c f := ⟨_, rfl⟩
  have hsz : W.heap.size = w.heap.size + 3 := by rw [hW, w3_size]
  have gW : Good w W := by rw [hW]; exact w3_good _ _ _ _ _ _
  have HA := hideIt (h.up gW)
  have HAw := hideIt h
  have hlen := h.1
  have HT : Hid (∀ x u, Good W u → Calls Try.prog 22 #[.agg #[.int .i64 N, .slice a n c], .int .i64 x] u fun e v => e = .returned (.int .i64 (treeO N ts x)) ∧ Good W v) := fun x u hu =>
    (sTreeOf_any N ts x n a c hn u (HA.out.up hu)).mono fun _ _ ⟨he, hb⟩ => ⟨he, hu.up hb⟩
  have HE : Hid (∀ u, Good W u → Calls Try.prog 23 #[.int .i64 N, .agg #[.int .i64 f.1, .int .i64 f.2]] u fun e v => e = .returned (.bool (eB N f)) ∧ Good W v) := fun u hu =>
    (sEdgeOk_any N f u).mono fun _ _ ⟨he, hb⟩ => ⟨he, hu.up hb⟩
  have HC : Hid (∀ u, Good W u → ((u.cell? ⟨w.heap.size, 0, none⟩ = some (.int .i64 N) ∧ u.cell? ⟨w.heap.size, 1, none⟩ = some (.slice a n c)) ∧ u.cell? ⟨w.heap.size + 1, 0, none⟩ = some (.int .i64 f.1) ∧ u.cell? ⟨w.heap.size + 1, 1, none⟩ = some (.int .i64 f.2)) ∧ Good W u) := fun u hu => ⟨w3_cells (hW ▸ hu), hu⟩
  have HO : Hid (∀ u, Below (w.heap.size + 3) W u → (u.cell? ⟨w.heap.size + 2, 0, none⟩ = some (.int .i64 0) ∧ u.cell? ⟨w.heap.size + 2, 1, none⟩ = some (.slice none 0 0)) ∧ u.frozen? ⟨w.heap.size + 2, 0, none⟩ = false ∧ u.frozen? ⟨w.heap.size + 2, 1, none⟩ = false) := fun u hu => w3_out (hW ▸ hu)
  have HNo : Hid (∀ u, Good W u → cutO N ts f = none → RAns w N (cutO N ts f) (.returned (.tuple #[.agg #[.int .i64 0, .slice none 0 0], .bool false])) ((u.setCell ⟨w.heap.size + 2, 0, none⟩ (.int .i64 0)).setCell ⟨w.heap.size + 2, 1, none⟩ (.slice none 0 0))) := fun u hu ho =>
    rans_no ho (((gW.up hu).setCell (p := ⟨w.heap.size + 2, 0, none⟩) (by show w.heap.size ≤ w.heap.size + 2; omega) _).setCell (p := ⟨w.heap.size + 2, 1, none⟩) (by show w.heap.size ≤ w.heap.size + 2; omega) _)
  have HS0 := hideIt (HC.out _ (Good.refl W).drew)
  have HGW := hideIt gW
  go_enter Try.func7, Try.ntmps7
  go_upto_region 1 with fail
  clear h gW
  have hW' : (((w.alloc (.cells #[.int .i64 N, .slice a n c] 28)).alloc (.cells #[.int .i64 f.1, .int .i64 f.2] 32)).alloc (.cells #[.int .i64 0, .slice none 0 0] 28)) = W := hW.symm
  rw [hW']
  clear hW hW'
  obtain ⟨⟨⟨k0, k1⟩, k2, k3⟩, _⟩ := HC.out _ (Good.refl W)
  have HT0 := hideIt (HT.out f.1 W (Good.refl W))
  clear HS0
  go_wp2_with (go_at_call 22; refine HT0.out.mono ?_; rintro e w1 ⟨rfl, G1⟩; refine Hid.out ?_)
  refine (show ∀ {p : Prop}, p → Hid p from fun h => h) ?_
  clear k0 k1 k2 k3 HT0
  · skip
    obtain ⟨⟨⟨k0, k1⟩, k2, k3⟩, _⟩ := HC.out _ G1
    have HE1 := hideIt (HE.out _ G1)
    cases hE : eB N f with
    | false =>
      rw [hE] at HE1
      have HL := hideIt (cutO_no (N := N) (ts := ts) (e := f) (fun h => by rw [hE] at h; exact absurd h.2.1 (by simp)))
      clear hE
      go_wp2_with (go_at_call 23; refine HE1.out.mono ?_; rintro e w2 ⟨rfl, G2⟩; refine Hid.out ?_)
      refine (show ∀ {p : Prop}, p → Hid p from fun h => h) ?_
      obtain ⟨⟨r0, r1⟩, r2, r3⟩ := HO.out _ (by rw [← hsz]; exact G2)
      have HN2 := hideIt (HNo.out _ G2 HL.out)
      clear k0 k1 k2 k3
      go_wp2
      exact bodyPost_ret (v := .tuple #[.agg #[.int .i64 0, .slice none 0 0], .bool false]) (by simp [results, Try.results7, go_sem, r0, r1]) rfl HN2.out
    | true =>
      rw [hE] at HE1
      by_cases hP : FP N ts
      · obtain ⟨M, rfl, hM1, hM2⟩ := FP_nat hP
        obtain ⟨i, j, p, q, hi, hj, hu, hv⟩ := edge_at hP hE
        have e1 : treeO (M : Int) ts f.1 = (i : Int) := (treeO_yes hP f.1).trans (trI_of hP.q hi hu)
        rw [e1]
        have hil := (List.getElem?_eq_some_iff.1 hi).1
        rcases HA.out.2 with hz | ⟨b, off, rfl, hbl, hc⟩
        · omega
        · obtain ⟨x, cx, ci, ii, hcx⟩ := hc i p hi
          have hp := tB_len (hP.q.1 p (List.mem_of_getElem? hi)).1
          have HJ : Hid (∀ u, Good W u → Calls Try.prog 24 #[.slice x p.length cx, .int .i64 f.1, .int .i64 f.2] u fun e v => S2Ans u (spO p f.1 f.2) e v) := fun u hu =>
            sSplitTour_any p f.1 f.2 p.length x cx (by omega) hcx u (ii.up hu)
          have HC4 : Hid (∀ u, Good W u → (((u.cell? ⟨w.heap.size, 0, none⟩ = some (.int .i64 (M : Int)) ∧ u.cell? ⟨w.heap.size, 1, none⟩ = some (.slice (some ⟨b, off, none⟩) n c)) ∧ u.cell? ⟨w.heap.size + 1, 0, none⟩ = some (.int .i64 f.1) ∧ u.cell? ⟨w.heap.size + 1, 1, none⟩ = some (.int .i64 f.2)) ∧ u.cell? ⟨b, off + i, none⟩ = some (.slice x p.length cx)) ∧ Good W u) := fun u hu =>
            ⟨⟨(HC.out u hu).1, by rw [hu.cell hbl]; exact ci⟩, hu⟩
          have b1 : (0 : Int) ≤ (i : Int) := by omega
          have b2 : (i : Int) < (n : Int) := by omega
          have d1 : decide ((i : Int) < 0) = false := decide_eq_false (by omega)
          have HAw2 := HAw
          clear hc ii ci e1
          go_wp2_with (go_at_call 23; refine HE1.out.mono ?_; rintro e w2 ⟨rfl, G2⟩; refine Hid.out ?_)
          refine (show ∀ {p : Prop}, p → Hid p from fun h => h) ?_
          have g2d : Good W w2.drew := G2.drew
          have hS2 := HC4.out _ g2d
          clear k0 k1 k2 k3 HE1
          cases hsp : (spO p f.1 f.2).2.2 with
          | false =>
            have HL := hideIt (cutO_no (N := (M : Int)) (ts := ts) (e := f) (fun h => by
              have h3 := h.2.2
              rw [trI_of hP.q hi hu, tat_at hi, hsp] at h3
              cases h3))
            have HJ2 : Hid (∀ u, Good W u → Calls Try.prog 24 #[.slice x p.length cx, .int .i64 f.1, .int .i64 f.2] u fun e v => ∃ aJ mJ cJ aK mK cK, e = .returned (.tuple #[.slice aJ mJ cJ, .slice aK mK cK, .bool false]) ∧ Good W v) := fun u hu =>
              (HJ.out u hu).mono fun _ _ ⟨aJ, mJ, cJ, aK, mK, cK, he, _, _, hb⟩ => ⟨aJ, mJ, cJ, aK, mK, cK, by rw [he, hsp], hu.up hb⟩
            clear hi hj hu hv hE HJ hP hsp
            go_upto_region 4 with fail
            go_region_held3 (fun u => (((u.cell? ⟨w.heap.size, 0, none⟩ = some (.int .i64 (M : Int)) ∧ u.cell? ⟨w.heap.size, 1, none⟩ = some (.slice (some ⟨b, off, none⟩) n c)) ∧ u.cell? ⟨w.heap.size + 1, 0, none⟩ = some (.int .i64 f.1) ∧ u.cell? ⟨w.heap.size + 1, 1, none⟩ = some (.int .i64 f.2)) ∧ u.cell? ⟨b, off + i, none⟩ = some (.slice x p.length cx)) ∧ Good W u)
              (first | assumption)
              (first | (go_at_call 24; refine (HJ2.out _ (And.right (by assumption))).mono ?_; rintro e w3 ⟨aJ, mJ, cJ, aK, mK, cK, rfl, G3⟩; have hS3 := HC4.out _ G3))
            all_goals
              obtain ⟨⟨r0, r1⟩, r2, r3⟩ := HO.out _ (by rw [← hsz]; exact G3)
              have HN2 := hideIt (HNo.out _ G3 HL.out)
              go_wp2
              exact bodyPost_ret (v := .tuple #[.agg #[.int .i64 0, .slice none 0 0], .bool false]) (by simp [results, Try.results7, go_sem, r0, r1]) rfl HN2.out
          | true =>
            obtain ⟨A, B, hS⟩ : ∃ A B, spO p f.1 f.2 = (A, B, true) := ⟨_, _, by rw [← hsp]⟩
            rw [hS] at HJ
            have HL := hideIt (cutO_yes hP hE hi hu hS)
            obtain ⟨pp, cc, hSp, hvp⟩ := cut_sp hS
            have hAl := tB_len hSp.oka
            have hBl := tB_len hSp.okb
            have hFQ := cut_fq hP hi hS
            have HJ2 : Hid (∀ u, Good W u → Calls Try.prog 24 #[.slice x p.length cx, .int .i64 f.1, .int .i64 f.2] u fun e v => ∃ g cJ g' cK, e = .returned (.tuple #[.slice (some ⟨g, 0, none⟩) A.length cJ, .slice (some ⟨g', 0, none⟩) B.length cK, .bool true]) ∧ ((Is v v.heap.size (some ⟨g, 0, none⟩) A.length A ∧ A.length ≤ cJ) ∧ (Is v v.heap.size (some ⟨g', 0, none⟩) B.length B ∧ B.length ≤ cK)) ∧ (w.heap.size + 3 ≤ g ∧ w.heap.size + 3 ≤ g') ∧ Good W v) := fun u hu =>
              (HJ.out u hu).mono fun _ v ⟨aJ, mJ, cJ, aK, mK, cK, he, hA, hB, hb⟩ => by
                have hm : mJ = A.length := hA.len.symm
                have hm' : mK = B.length := hB.len.symm
                subst hm hm'
                obtain ⟨g, rfl, _, hg⟩ := own_some hA.own (by omega)
                obtain ⟨g', rfl, _, hg'⟩ := own_some hB.own (by omega)
                exact ⟨g, cJ, g', cK, he, ⟨⟨Is_of_own hA.own, (RwB.of_own hA.own).cap⟩, ⟨Is_of_own hB.own, (RwB.of_own hB.own).cap⟩⟩, ⟨by have := hu.size; omega, by have := hu.size; omega⟩, hu.up hb⟩
            have HWi : Hid (∀ u ao bi, Good W u → Is u u.heap.size ao 1 [(i : Int)] → Ts u u.heap.size (some ⟨bi, 0, none⟩) 2 [A, B] → Calls Try.prog 25 #[.agg #[.int .i64 (M : Int), .slice (some ⟨b, off, none⟩) n c], .slice ao 1 1, .slice (some ⟨bi, 0, none⟩) 2 2] u fun e v => ∃ a' m' c' hs, e = .returned (.agg #[.int .i64 (M : Int), .slice a' m' c']) ∧ (v.ownsRow u.heap.size 45 1 (.slice a' m' c') m' hs ∧ HdT v v.heap.size hs (srtK (woK ts [i] ts.length ++ [A, B]) M) ∧ ∀ y ∈ hs, NewOr u bi 0 y) ∧ Good W v) := fun u ao bi hu hI hT => by
              have hFQ' := hFQ
              rw [hlen] at hFQ'
              refine (l07With_any M ts [i] [A, B] n (some ⟨b, off, none⟩) c 1 ao 1 2 bi 0 2 hP hFQ' (by omega) (by omega) (by omega) u (HA.out.up hu) hI hT).mono ?_
              rintro e v ⟨a', m', c', hs, he, h1, h2⟩
              exact ⟨a', m', c', hs, he, by rw [hlen]; exact h1, hu.up h2⟩
            clear hi hj hu hv hE HJ hP hS hsp hSp hvp hFQ
            go_upto_region 4 with fail
            go_region_held3 (fun u => (((u.cell? ⟨w.heap.size, 0, none⟩ = some (.int .i64 (M : Int)) ∧ u.cell? ⟨w.heap.size, 1, none⟩ = some (.slice (some ⟨b, off, none⟩) n c)) ∧ u.cell? ⟨w.heap.size + 1, 0, none⟩ = some (.int .i64 f.1) ∧ u.cell? ⟨w.heap.size + 1, 1, none⟩ = some (.int .i64 f.2)) ∧ u.cell? ⟨b, off + i, none⟩ = some (.slice x p.length cx)) ∧ Good W u)
              (first | assumption)
              (first | (go_at_call 24; refine (HJ2.out _ (And.right (by assumption))).mono ?_; rintro e w3 ⟨g, cJ, g', cK, rfl, hrw, hgg, G3⟩; have hS3 := HC4.out _ G3))
            all_goals
              obtain ⟨⟨⟨k0, k1⟩, k2, k3⟩, _⟩ := HC.out _ G3
              have g4 : Good w3 (w3.alloc (.cells #[.int .i64 (i : Int)] 3)) := (Good.refl w3).alloc _
              have g5 : Good (w3.alloc (.cells #[.int .i64 (i : Int)] 3)) ((w3.alloc (.cells #[.int .i64 (i : Int)] 3)).alloc (.cells #[.slice (some ⟨g, 0, none⟩) A.length cJ, .slice (some ⟨g', 0, none⟩) B.length cK] 45)) := (Good.refl _).alloc _
              have HR3 := hideIt (HWi.out _ _ (w3.heap.size + 1) (G3.up (g4.up g5)) ((is_one (w := w3)).up g5) (by have := ts_two (cx := cJ) (cy := cK) (hrw.1.1.up g4) hrw.1.2 (hrw.2.1.up g4) hrw.2.2; simpa using this))
              have HNO : Hid (∀ y, NewOr ((w3.alloc (.cells #[.int .i64 (i : Int)] 3)).alloc (.cells #[.slice (some ⟨g, 0, none⟩) A.length cJ, .slice (some ⟨g', 0, none⟩) B.length cK] 45)) (w3.heap.size + 1) 0 y → HdL (w.heap.size + 3) y) := fun y hy b off s n c e => by
                have hs3 := G3.size
                rcases hy with hy | ⟨q, hq⟩
                · have := hy b off s n c e
                  simp at this
                  omega
                · have hh : (((w3.alloc (.cells #[.int .i64 (i : Int)] 3)).alloc (.cells #[.slice (some ⟨g, 0, none⟩) A.length cJ, .slice (some ⟨g', 0, none⟩) B.length cK] 45))).heap[w3.heap.size + 1]? = some (.cells #[.slice (some ⟨g, 0, none⟩) A.length cJ, .slice (some ⟨g', 0, none⟩) B.length cK] 45 (0, 0)) := by
                    have := heap_alloc_new (w3.alloc (.cells #[.int .i64 (i : Int)] 3)) (.cells #[.slice (some ⟨g, 0, none⟩) A.length cJ, .slice (some ⟨g', 0, none⟩) B.length cK] 45)
                    simpa using this
                  rw [cell_of_row _ _ _ _ _ _ hh] at hq
                  rcases q with _ | _ | q
                  · simp at hq
                    rw [← hq] at e
                    simp at e
                    have := hgg.1
                    omega
                  · simp at hq
                    rw [← hq] at e
                    simp at e
                    have := hgg.2
                    omega
                  · simp at hq
              clear HWi hrw HJ2 HT HE HC4 hS2 hS3 g4 g5
              go_wp2_with (go_at_call 25; refine HR3.out.mono ?_; rintro e w4 ⟨a4, m4, c4, hs4, rfl, F4, G4⟩; refine Hid.out ?_)
              refine (show ∀ {p : Prop}, p → Hid p from fun h => h) ?_
              obtain ⟨⟨r0, r1⟩, r2, r3⟩ := HO.out _ (by rw [← hsz]; exact G4)
              have hs3 := G3.size
              have HF5 := hideIt (with_set (X := w.heap.size + 2) ⟨F4.1, F4.2.1⟩ (by simp; omega) (fun y hy => (HNO.out y (F4.2.2 y hy)).ne (by omega)) (.int .i64 (M : Int)) (.slice a4 m4 c4))
              have HLo : Hid (∀ y ∈ hs4, HdL w.heap.size y) := fun y hy => (HNO.out y (F4.2.2 y hy)).mono (by omega)
              have hlo5 : w.heap.size ≤ ((w3.alloc (.cells #[.int .i64 (i : Int)] 3)).alloc (.cells #[.slice (some ⟨g, 0, none⟩) A.length cJ, .slice (some ⟨g', 0, none⟩) B.length cK] 45)).heap.size := by simp; omega
              have HB5 : Hid (Below w.heap.size w ((w4.setCell ⟨w.heap.size + 2, 0, none⟩ (.int .i64 (M : Int))).setCell ⟨w.heap.size + 2, 1, none⟩ (.slice a4 m4 c4))) := ((HGW.out.up G4).setCell (p := ⟨w.heap.size + 2, 0, none⟩) (by show w.heap.size ≤ w.heap.size + 2; omega) _).setCell (p := ⟨w.heap.size + 2, 1, none⟩) (by show w.heap.size ≤ w.heap.size + 2; omega) _
              clear F4 G4 k0 k1 k2 k3 HNO
              go_wp2
              exact bodyPost_ret (v := .tuple #[.agg #[.int .i64 (M : Int), .slice a4 m4 c4], .bool true]) (by simp [results, Try.results7, go_sem, r0, r1]) rfl ⟨a4, m4, c4, hs4, by rw [HL.out]; rfl, by rw [HL.out]; exact ⟨own_mono HF5.out.1 hlo5, HF5.out.2, HLo.out⟩, HB5.out⟩
      · have HL := hideIt (cutO_no (N := N) (ts := ts) (e := f) (fun h => hP h.1))
        have e1 := treeO_no hP f.1
        have d1 : decide ((-1 : Int) < 0) = true := by decide
        rw [e1]
        clear hE e1
        go_wp2_with (go_at_call 23; refine HE1.out.mono ?_; rintro e w2 ⟨rfl, G2⟩; refine Hid.out ?_)
        refine (show ∀ {p : Prop}, p → Hid p from fun h => h) ?_
        obtain ⟨⟨r0, r1⟩, r2, r3⟩ := HO.out _ (by rw [← hsz]; exact G2)
        have HN2 := hideIt (HNo.out _ G2 HL.out)
        clear k0 k1 k2 k3
        go_wp2
        exact bodyPost_ret (v := .tuple #[.agg #[.int .i64 0, .slice none 0 0], .bool false]) (by simp [results, Try.results7, go_sem, r0, r1]) rfl HN2.out
end Go.Proofs.Ytcpffonenhhfoab
namespace Go.Proofs.Ytcpffonenhhfoab
open Go.RowKit

theorem parts_of2 {x : World} {B : Nat} {p1 p2 : PartI} (hB : B < x.heap.size) (c1 : x.cell? ⟨B, 0, none⟩ = some (.slice p1.a p1.m p1.c)) (c2 : x.cell? ⟨B, 1, none⟩ = some (.slice p2.a p2.m p2.c)) (h1 : Is x x.heap.size p1.a p1.m p1.ls) (h2 : Is x x.heap.size p2.a p2.m p2.ls) : PartsI x B [p1, p2] := by
  refine ⟨hB, fun j q hq => ?_⟩
  rcases j with _ | _ | j
  · simp at hq; subst hq; exact ⟨c1, h1⟩
  · simp at hq; subst hq; exact ⟨c2, h2⟩
  · simp at hq
theorem parts_of1 {x : World} {B : Nat} {p1 : PartI} (hB : B < x.heap.size) (c1 : x.cell? ⟨B, 0, none⟩ = some (.slice p1.a p1.m p1.c)) (h1 : Is x x.heap.size p1.a p1.m p1.ls) : PartsI x B [p1] := by
  refine ⟨hB, fun j q hq => ?_⟩
  rcases j with _ | j
  · simp at hq; subst hq; exact ⟨c1, h1⟩
  · simp at hq

theorem RBox.lower {u : World} {lo lo' hi : Nat} {a : Option Addr} {m c : Nat} {ls : List Int} (h : RBox u lo hi a m c ls) (hl : lo' ≤ lo) : RBox u lo' hi a m c ls := ⟨own_mono h.own hl, h.row, h.there⟩
/-- the part with the root is laid -/
theorem laidTwo {t : List Int} {b off n d q : Nat} {w2 : World} {a2 : Option Addr} {cc : Nat} (hI : Is w2 w2.heap.size (some ⟨b, off, none⟩) n t) (hd : d + 1 ≤ n) (hq : q + 2 ≤ n) (hn : n ≤ 1048576) (ha : n = q + 2 ∨ a2 = some ⟨b, off + (q + 2), none⟩) (x : World) (B : Nat) (hx : Below w2.heap.size w2 x) (hB : B < x.heap.size)
    (c1 : x.cell? ⟨B, 0, none⟩ = some (.slice (some ⟨b, off, none⟩) (d + 1) (d + 1))) (c2 : x.cell? ⟨B, 1, none⟩ = some (.slice a2 (n - (q + 2)) cc)) :
    Calls Try.prog 54 #[.slice (some ⟨B, 0, none⟩) 2 2] x fun e y => ∃ g m, e = .returned (.slice (some ⟨g, 0, none⟩) m m) ∧ RBox y x.heap.size y.heap.size (some ⟨g, 0, none⟩) m m (t.take (d + 1) ++ t.drop (q + 2)) ∧ Below x.heap.size x y ∧ Below w2.heap.size w2 y := by
  have hi := hI.up hx
  have h2 : Is x x.heap.size a2 (n - (q + 2)) (t.drop (q + 2)) := by
    rcases ha with ha | ha
    · rw [show n - (q + 2) = 0 by omega]
      exact Is.none_of (by rw [List.length_drop, hi.1]; omega)
    · rw [ha]; exact hi.drop hq
  have hP := parts_of2 (p1 := ⟨some ⟨b, off, none⟩, d + 1, d + 1, t.take (d + 1)⟩) (p2 := ⟨a2, n - (q + 2), cc, t.drop (q + 2)⟩) hB c1 c2 (hi.take hd) h2
  refine (laid_any _ _ 2 rfl (by omega) _ hP (by simp [qLen]; omega)).mono fun e y ⟨g, m, he, ho, hb⟩ => ⟨g, m, he, ?_, hb, hx.trans (hb.mono hx.size)⟩
  have hq : qAll [⟨some ⟨b, off, none⟩, d + 1, d + 1, t.take (d + 1)⟩, ⟨a2, n - (q + 2), cc, t.drop (q + 2)⟩] = t.take (d + 1) ++ t.drop (q + 2) := by simp [qAll]
  rw [hq] at ho
  exact RBox.laid ho
/-- the other part is laid -/
theorem laidOne {t : List Int} {b off n d q : Nat} {w2 : World} {a3 : Option Addr} {cc : Nat} (hI : Is w2 w2.heap.size (some ⟨b, off, none⟩) n t) (hd : d ≤ q) (hq : q + 1 ≤ n) (hn : n ≤ 1048576) (ha : q = d ∨ a3 = some ⟨b, off + (d + 1), none⟩) (x : World) (B : Nat) (hx : Below w2.heap.size w2 x) (hB : B < x.heap.size)
    (c1 : x.cell? ⟨B, 0, none⟩ = some (.slice a3 (q - d) cc)) :
    Calls Try.prog 54 #[.slice (some ⟨B, 0, none⟩) 1 1] x fun e y => ∃ g m, e = .returned (.slice (some ⟨g, 0, none⟩) m m) ∧ RBox y x.heap.size y.heap.size (some ⟨g, 0, none⟩) m m ((t.take (q + 1)).drop (d + 1)) ∧ Below x.heap.size x y ∧ Below w2.heap.size w2 y := by
  have hi := hI.up hx
  have h2 : Is x x.heap.size a3 (q - d) ((t.take (q + 1)).drop (d + 1)) := by
    rcases ha with ha | ha
    · rw [show q - d = 0 by omega]
      exact Is.none_of (by rw [List.length_drop, List.length_take, hi.1]; omega)
    · rw [ha, show q - d = q + 1 - (d + 1) by omega]; exact (hi.take hq).drop (by omega)
  have hP := parts_of1 (p1 := ⟨a3, q - d, cc, (t.take (q + 1)).drop (d + 1)⟩) hB c1 h2
  refine (laid_any _ _ 1 rfl (by omega) _ hP (by simp [qLen]; omega)).mono fun e y ⟨g, m, he, ho, hb⟩ => ⟨g, m, he, ?_, hb, hx.trans (hb.mono hx.size)⟩
  have hq : qAll [⟨a3, q - d, cc, (t.take (q + 1)).drop (d + 1)⟩] = (t.take (q + 1)).drop (d + 1) := by simp [qAll]
  rw [hq] at ho
  exact RBox.laid ho
theorem t2_yes {w w3 w4 : World} {o : List Int × List Int × Bool} {t : List Int} {d q : Nat} (ho : o = spT t d q) {l1 h1 l2 : Nat} {a a' : Option Addr} {m c m' c' : Nat} (hw : w.heap.size ≤ l1) (h12 : h1 = w3.heap.size) (h23 : w3.heap.size ≤ l2) (hl : l1 ≤ h1)
    (R1 : RBox w3 l1 h1 a m c (t.take (d + 1) ++ t.drop (q + 2))) (hb : Below w3.heap.size w3 w4) (R2 : RBox w4 l2 w4.heap.size a' m' c' ((t.take (q + 1)).drop (d + 1))) (h : Below w.heap.size w w4) :
    T2Ans w o (.returned (.tuple #[.slice a m c, .slice a' m' c', .bool true])) w4 := by
  subst ho
  exact ⟨a, m, c, a', m', c', h1, rfl, by omega, (R1.up hb).lower hw, R2.lower (by omega), h⟩

set_option maxRecDepth 100000 in
set_option maxHeartbeats 40000000 in
theorem iSplitTour_any (t : List Int) (u v : Int) (n : Nat) (a : Option Addr) (c : Nat) (hn : n ≤ 1048576) (hc : n ≤ c) (w : World) (h : Is w w.heap.size a n t) :
    Calls Try.prog 29 #[.slice a n c, .int .i64 u, .int .i64 v] w fun e w' => T2Ans w (spO t u v) e w' := by
  have HG1 := hideIt (stepAt_any t u v n a c (by omega) w h)
  have HG2 := hideIt (stepAt_any t v u n a c (by omega) w h)
  have HT := hideIt (iTourOk_any t n a c (by omega) w h)
  have HI := hideIt h
  have hlen := h.1
  cases hT : tB t with
  | false =>
    have HO := hideIt (show spO t u v = ([], [], false) by unfold spO; rw [if_neg (fun hh => by have := hh.1; rw [hT] at this; simp at this)])
    rw [hT] at HT
    clear hT h
    go_enter Try.func29, Try.ntmps29
    go_wp2_with (first | (go_at_call 52; refine HG1.out.mono ?_; clear HG1; rintro e w1 ⟨rfl, hw⟩; have hw' := hw.symm; subst hw'; clear hw) | (go_at_call 52; refine HG2.out.mono ?_; rintro e w1 ⟨rfl, hw⟩; have hw' := hw.symm; subst hw'; clear hw) | (go_at_call 53; refine HT.out.mono ?_; rintro e w2 ⟨rfl, hb2⟩))
    go_ret3
    exact t2_no HO.out hb2
  | true =>
    rw [hT] at HT
    rcases go_at (t := t) (u := u) (v := v) with ⟨k, hk, _⟩ | ⟨hk, _⟩
    · obtain ⟨p, hp, hpn, hkn⟩ := go_both hT hk
      rw [hk] at HG1
      rw [hp] at HG2
      rw [hlen] at hpn hkn
      obtain ⟨d, hd⟩ : ∃ d, d = min k p := ⟨_, rfl⟩
      obtain ⟨q, hq⟩ : ∃ q, q = max k p := ⟨_, rfl⟩
      have hm1 : min (k : Int) (p : Int) = (d : Int) := by rw [hd]; omega
      have hm2 : max (k : Int) (p : Int) = (q : Int) := by rw [hq]; omega
      have HO := hideIt (show spO t u v = spT t d q by unfold spO; rw [if_pos ⟨hT, by rw [hk]; omega⟩, hk, hp, hm1, hm2]; rfl)
      have hdq : d ≤ q := by omega
      have hqn : q + 1 < n := by omega
      have d1 : decide ((k : Int) < 0) = false := decide_eq_false (by omega)
      obtain ⟨b, off, rfl⟩ : ∃ b off, a = some ⟨b, off, none⟩ := by
        rcases h.2 with hz | ⟨b, off, h1, _⟩
        · omega
        · exact ⟨b, off, h1⟩
      clear hT h hk hp hd hq
      go_enter Try.func29, Try.ntmps29
      go_wp2_with (first | (go_at_call 52; refine HG1.out.mono ?_; clear HG1; rintro e w1 ⟨rfl, hw⟩; have hw' := hw.symm; subst hw'; clear hw) | (go_at_call 52; refine HG2.out.mono ?_; rintro e w1 ⟨rfl, hw⟩; have hw' := hw.symm; subst hw'; clear hw) | (go_at_call 53; refine HT.out.mono ?_; rintro e w2 ⟨rfl, hb2⟩; refine Hid.out ?_))
      refine (show ∀ {p : Prop}, p → Hid p from fun h => h) ?_
      rcases Nat.lt_trichotomy k p with hkp | hkp | hkp
      · have hkp2 : ¬ (p < k) := by omega
        obtain rfl : d = k := by omega
        obtain rfl : q = p := by omega
        have hqd : ¬ (q = d) := by omega
        by_cases hz : n = q + 2
        · have e1 : ((d : Int) + 1).toNat = d + 1 := by omega
          have e2 : ((q : Int) + 1).toNat = q + 1 := by omega
          have pw2 : IntKind.i64.wrap ((q : Int) + 1) = (q : Int) + 1 := by rw [IntKind.wrap_i64]; omega
          have e3 : ((q : Int) + 1 + 1).toNat = q + 2 := by omega
          have pw1 : IntKind.i64.wrap ((d : Int) + 1) = (d : Int) + 1 := by rw [IntKind.wrap_i64]; omega
          have pw3 : IntKind.i64.wrap ((q : Int) + 1 + 1) = (q : Int) + 1 + 1 := by rw [IntKind.wrap_i64]; omega
          have p1 : (0 : Int) ≤ (d : Int) + 1 := by omega
          have p2 : (d : Int) + 1 ≤ (c : Int) := by omega
          have p3 : (0 : Int) ≤ (q : Int) + 1 + 1 := by omega
          have p4 : (q : Int) + 1 + 1 ≤ (n : Int) := by omega
          have p5 : (n : Int) ≤ (c : Int) := by omega
          have p6 : (d : Int) + 1 ≤ (q : Int) + 1 := by omega
          have p7 : (q : Int) + 1 ≤ (c : Int) := by omega
          have p8 : (0 : Int) ≤ (q : Int) + 1 := by omega
          have HL2 : Hid (∀ x B, Below w2.heap.size w2 x → B < x.heap.size → x.cell? ⟨B, 0, none⟩ = some (.slice (some ⟨b, off, none⟩) (d + 1) (d + 1)) → x.cell? ⟨B, 1, none⟩ = some (.slice (some ⟨b, off, none⟩) 0 0) →
              Calls Try.prog 54 #[.slice (some ⟨B, 0, none⟩) 2 2] x fun e y => ∃ g m, e = .returned (.slice (some ⟨g, 0, none⟩) m m) ∧ RBox y x.heap.size y.heap.size (some ⟨g, 0, none⟩) m m (t.take (d + 1) ++ t.drop (q + 2)) ∧ Below x.heap.size x y ∧ Below w2.heap.size w2 y) := fun x B hx hB c1 c2 =>
            laidTwo (a2 := some ⟨b, off, none⟩) (cc := 0) (HI.out.up hb2) (by omega) (by omega) hn (.inl hz) x B hx hB c1 (by rw [show n - (q + 2) = 0 by omega]; exact c2)
          have HL1 : Hid (∀ x B, Below w2.heap.size w2 x → B < x.heap.size → x.cell? ⟨B, 0, none⟩ = some (.slice (some ⟨b, off + (d + 1), none⟩) (q - d) (q - d)) →
              Calls Try.prog 54 #[.slice (some ⟨B, 0, none⟩) 1 1] x fun e y => ∃ g m, e = .returned (.slice (some ⟨g, 0, none⟩) m m) ∧ RBox y x.heap.size y.heap.size (some ⟨g, 0, none⟩) m m ((t.take (q + 1)).drop (d + 1)) ∧ Below x.heap.size x y ∧ Below w2.heap.size w2 y) := fun x B hx hB c1 =>
            laidOne (a3 := some ⟨b, off + (d + 1), none⟩) (cc := (q - d)) (HI.out.up hb2) (by omega) (by omega) hn (.inr rfl) x B hx hB (c1)
          clear hm1 hm2 HI HT HG2
          go_wp2
          go_region_with (first
            | (go_at_call 54; refine (HL2.out _ _ (by first | exact ((Below.refl _ _).alloc (Nat.le_refl _) _).drew | exact (((Below.refl _ _).alloc (Nat.le_refl _) _).alloc (by simp) _).drew) (by first | (simp; done) | (simp; omega)) (by simp [go_sem]) (by simp [go_sem])).mono ?_; clear HL2; rintro e w3 ⟨g3, m3, rfl, R3, hb3, B3⟩)
            | (go_at_call 54; refine (HL1.out _ _ (by first | exact B3 | exact B3.alloc B3.size _) (by first | (simp; done) | (have hz3 := hb3.size; simp at hz3 ⊢; omega)) (by first | (simp [go_sem]; done) | (simp [go_sem, hqd]; done) | (rw [hb3.cell (by first | (simp; done) | (simp; omega))]; simp [go_sem]; done) | (rw [hb3.cell (by first | (simp; done) | (simp; omega))]; simp [go_sem, hqd]; done))).mono ?_; rintro e w4 ⟨g4, m4, rfl, R4, hb4, B4⟩))
          all_goals
            go_wp2
            go_ret3
            exact t2_yes HO.out (by have := hb2.size; simp; omega) rfl (by simp) (by have := hb3.size; simpa using this) R3 (by first | exact hb4 | exact ((Below.refl _ _).alloc (Nat.le_refl _) _).trans (hb4.mono (by simp))) R4 (hb2.trans (B4.mono hb2.size))
        · have e1 : ((d : Int) + 1).toNat = d + 1 := by omega
          have e2 : ((q : Int) + 1).toNat = q + 1 := by omega
          have pw2 : IntKind.i64.wrap ((q : Int) + 1) = (q : Int) + 1 := by rw [IntKind.wrap_i64]; omega
          have e3 : ((q : Int) + 1 + 1).toNat = q + 2 := by omega
          have pw1 : IntKind.i64.wrap ((d : Int) + 1) = (d : Int) + 1 := by rw [IntKind.wrap_i64]; omega
          have pw3 : IntKind.i64.wrap ((q : Int) + 1 + 1) = (q : Int) + 1 + 1 := by rw [IntKind.wrap_i64]; omega
          have p1 : (0 : Int) ≤ (d : Int) + 1 := by omega
          have p2 : (d : Int) + 1 ≤ (c : Int) := by omega
          have p3 : (0 : Int) ≤ (q : Int) + 1 + 1 := by omega
          have p4 : (q : Int) + 1 + 1 ≤ (n : Int) := by omega
          have p5 : (n : Int) ≤ (c : Int) := by omega
          have p6 : (d : Int) + 1 ≤ (q : Int) + 1 := by omega
          have p7 : (q : Int) + 1 ≤ (c : Int) := by omega
          have p8 : (0 : Int) ≤ (q : Int) + 1 := by omega
          have HL2 : Hid (∀ x B, Below w2.heap.size w2 x → B < x.heap.size → x.cell? ⟨B, 0, none⟩ = some (.slice (some ⟨b, off, none⟩) (d + 1) (d + 1)) → x.cell? ⟨B, 1, none⟩ = some (.slice (some ⟨b, off + (q + 2), none⟩) (n - (q + 2)) (n - (q + 2))) →
              Calls Try.prog 54 #[.slice (some ⟨B, 0, none⟩) 2 2] x fun e y => ∃ g m, e = .returned (.slice (some ⟨g, 0, none⟩) m m) ∧ RBox y x.heap.size y.heap.size (some ⟨g, 0, none⟩) m m (t.take (d + 1) ++ t.drop (q + 2)) ∧ Below x.heap.size x y ∧ Below w2.heap.size w2 y) := fun x B hx hB c1 c2 =>
            laidTwo (a2 := some ⟨b, off + (q + 2), none⟩) (cc := (n - (q + 2))) (HI.out.up hb2) (by omega) (by omega) hn (.inr rfl) x B hx hB c1 (c2)
          have HL1 : Hid (∀ x B, Below w2.heap.size w2 x → B < x.heap.size → x.cell? ⟨B, 0, none⟩ = some (.slice (some ⟨b, off + (d + 1), none⟩) (q - d) (q - d)) →
              Calls Try.prog 54 #[.slice (some ⟨B, 0, none⟩) 1 1] x fun e y => ∃ g m, e = .returned (.slice (some ⟨g, 0, none⟩) m m) ∧ RBox y x.heap.size y.heap.size (some ⟨g, 0, none⟩) m m ((t.take (q + 1)).drop (d + 1)) ∧ Below x.heap.size x y ∧ Below w2.heap.size w2 y) := fun x B hx hB c1 =>
            laidOne (a3 := some ⟨b, off + (d + 1), none⟩) (cc := (q - d)) (HI.out.up hb2) (by omega) (by omega) hn (.inr rfl) x B hx hB (c1)
          clear hm1 hm2 HI HT HG2
          go_wp2
          go_region_with (first
            | (go_at_call 54; refine (HL2.out _ _ (by first | exact ((Below.refl _ _).alloc (Nat.le_refl _) _).drew | exact (((Below.refl _ _).alloc (Nat.le_refl _) _).alloc (by simp) _).drew) (by first | (simp; done) | (simp; omega)) (by simp [go_sem]) (by simp [go_sem])).mono ?_; clear HL2; rintro e w3 ⟨g3, m3, rfl, R3, hb3, B3⟩)
            | (go_at_call 54; refine (HL1.out _ _ (by first | exact B3 | exact B3.alloc B3.size _) (by first | (simp; done) | (have hz3 := hb3.size; simp at hz3 ⊢; omega)) (by first | (simp [go_sem]; done) | (simp [go_sem, hqd]; done) | (rw [hb3.cell (by first | (simp; done) | (simp; omega))]; simp [go_sem]; done) | (rw [hb3.cell (by first | (simp; done) | (simp; omega))]; simp [go_sem, hqd]; done))).mono ?_; rintro e w4 ⟨g4, m4, rfl, R4, hb4, B4⟩))
          all_goals
            go_wp2
            go_ret3
            exact t2_yes HO.out (by have := hb2.size; simp; omega) rfl (by simp) (by have := hb3.size; simpa using this) R3 (by first | exact hb4 | exact ((Below.refl _ _).alloc (Nat.le_refl _) _).trans (hb4.mono (by simp))) R4 (hb2.trans (B4.mono hb2.size))
      · subst hkp
        obtain rfl : d = k := by omega
        obtain rfl : q = d := by omega
        have hkp2 : ¬ (q < q) := by omega
        by_cases hz : n = q + 2
        · have e1 : ((q : Int) + 1).toNat = q + 1 := by omega
          have e3 : ((q : Int) + 1 + 1).toNat = q + 2 := by omega
          have pw1 : IntKind.i64.wrap ((q : Int) + 1) = (q : Int) + 1 := by rw [IntKind.wrap_i64]; omega
          have pw3 : IntKind.i64.wrap ((q : Int) + 1 + 1) = (q : Int) + 1 + 1 := by rw [IntKind.wrap_i64]; omega
          have p1 : (0 : Int) ≤ (q : Int) + 1 := by omega
          have p2 : (q : Int) + 1 ≤ (c : Int) := by omega
          have p3 : (0 : Int) ≤ (q : Int) + 1 + 1 := by omega
          have p4 : (q : Int) + 1 + 1 ≤ (n : Int) := by omega
          have p5 : (n : Int) ≤ (c : Int) := by omega
          have p6 : (q : Int) + 1 ≤ (q : Int) + 1 := by omega
          have p7 : (q : Int) + 1 ≤ (c : Int) := by omega
          have p8 : (0 : Int) ≤ (q : Int) + 1 := by omega
          have HL2 : Hid (∀ x B, Below w2.heap.size w2 x → B < x.heap.size → x.cell? ⟨B, 0, none⟩ = some (.slice (some ⟨b, off, none⟩) (q + 1) (q + 1)) → x.cell? ⟨B, 1, none⟩ = some (.slice (some ⟨b, off, none⟩) 0 0) →
              Calls Try.prog 54 #[.slice (some ⟨B, 0, none⟩) 2 2] x fun e y => ∃ g m, e = .returned (.slice (some ⟨g, 0, none⟩) m m) ∧ RBox y x.heap.size y.heap.size (some ⟨g, 0, none⟩) m m (t.take (q + 1) ++ t.drop (q + 2)) ∧ Below x.heap.size x y ∧ Below w2.heap.size w2 y) := fun x B hx hB c1 c2 =>
            laidTwo (a2 := some ⟨b, off, none⟩) (cc := 0) (HI.out.up hb2) (by omega) (by omega) hn (.inl hz) x B hx hB c1 (by rw [show n - (q + 2) = 0 by omega]; exact c2)
          have HL1 : Hid (∀ x B, Below w2.heap.size w2 x → B < x.heap.size → x.cell? ⟨B, 0, none⟩ = some (.slice (some ⟨b, off, none⟩) 0 0) →
              Calls Try.prog 54 #[.slice (some ⟨B, 0, none⟩) 1 1] x fun e y => ∃ g m, e = .returned (.slice (some ⟨g, 0, none⟩) m m) ∧ RBox y x.heap.size y.heap.size (some ⟨g, 0, none⟩) m m ((t.take (q + 1)).drop (q + 1)) ∧ Below x.heap.size x y ∧ Below w2.heap.size w2 y) := fun x B hx hB c1 =>
            laidOne (a3 := some ⟨b, off, none⟩) (cc := 0) (HI.out.up hb2) (by omega) (by omega) hn (.inl rfl) x B hx hB (by rw [Nat.sub_self]; exact c1)
          clear hm1 hm2 HI HT HG2
          go_wp2
          go_region_with (first
            | (go_at_call 54; refine (HL2.out _ _ (by first | exact ((Below.refl _ _).alloc (Nat.le_refl _) _).drew | exact (((Below.refl _ _).alloc (Nat.le_refl _) _).alloc (by simp) _).drew) (by first | (simp; done) | (simp; omega)) (by simp [go_sem]) (by simp [go_sem])).mono ?_; clear HL2; rintro e w3 ⟨g3, m3, rfl, R3, hb3, B3⟩)
            | (go_at_call 54; refine (HL1.out _ _ (by first | exact B3 | exact B3.alloc B3.size _) (by first | (simp; done) | (have hz3 := hb3.size; simp at hz3 ⊢; omega)) (by first | (simp [go_sem]; done) | (rw [hb3.cell (by first | (simp; done) | (simp; omega))]; simp [go_sem]; done))).mono ?_; rintro e w4 ⟨g4, m4, rfl, R4, hb4, B4⟩))
          all_goals
            go_wp2
            go_ret3
            exact t2_yes HO.out (by have := hb2.size; simp; omega) rfl (by simp) (by have := hb3.size; simpa using this) R3 (by first | exact hb4 | exact ((Below.refl _ _).alloc (Nat.le_refl _) _).trans (hb4.mono (by simp))) R4 (hb2.trans (B4.mono hb2.size))
        · have e1 : ((q : Int) + 1).toNat = q + 1 := by omega
          have e3 : ((q : Int) + 1 + 1).toNat = q + 2 := by omega
          have pw1 : IntKind.i64.wrap ((q : Int) + 1) = (q : Int) + 1 := by rw [IntKind.wrap_i64]; omega
          have pw3 : IntKind.i64.wrap ((q : Int) + 1 + 1) = (q : Int) + 1 + 1 := by rw [IntKind.wrap_i64]; omega
          have p1 : (0 : Int) ≤ (q : Int) + 1 := by omega
          have p2 : (q : Int) + 1 ≤ (c : Int) := by omega
          have p3 : (0 : Int) ≤ (q : Int) + 1 + 1 := by omega
          have p4 : (q : Int) + 1 + 1 ≤ (n : Int) := by omega
          have p5 : (n : Int) ≤ (c : Int) := by omega
          have p6 : (q : Int) + 1 ≤ (q : Int) + 1 := by omega
          have p7 : (q : Int) + 1 ≤ (c : Int) := by omega
          have p8 : (0 : Int) ≤ (q : Int) + 1 := by omega
          have HL2 : Hid (∀ x B, Below w2.heap.size w2 x → B < x.heap.size → x.cell? ⟨B, 0, none⟩ = some (.slice (some ⟨b, off, none⟩) (q + 1) (q + 1)) → x.cell? ⟨B, 1, none⟩ = some (.slice (some ⟨b, off + (q + 2), none⟩) (n - (q + 2)) (n - (q + 2))) →
              Calls Try.prog 54 #[.slice (some ⟨B, 0, none⟩) 2 2] x fun e y => ∃ g m, e = .returned (.slice (some ⟨g, 0, none⟩) m m) ∧ RBox y x.heap.size y.heap.size (some ⟨g, 0, none⟩) m m (t.take (q + 1) ++ t.drop (q + 2)) ∧ Below x.heap.size x y ∧ Below w2.heap.size w2 y) := fun x B hx hB c1 c2 =>
            laidTwo (a2 := some ⟨b, off + (q + 2), none⟩) (cc := (n - (q + 2))) (HI.out.up hb2) (by omega) (by omega) hn (.inr rfl) x B hx hB c1 (c2)
          have HL1 : Hid (∀ x B, Below w2.heap.size w2 x → B < x.heap.size → x.cell? ⟨B, 0, none⟩ = some (.slice (some ⟨b, off, none⟩) 0 0) →
              Calls Try.prog 54 #[.slice (some ⟨B, 0, none⟩) 1 1] x fun e y => ∃ g m, e = .returned (.slice (some ⟨g, 0, none⟩) m m) ∧ RBox y x.heap.size y.heap.size (some ⟨g, 0, none⟩) m m ((t.take (q + 1)).drop (q + 1)) ∧ Below x.heap.size x y ∧ Below w2.heap.size w2 y) := fun x B hx hB c1 =>
            laidOne (a3 := some ⟨b, off, none⟩) (cc := 0) (HI.out.up hb2) (by omega) (by omega) hn (.inl rfl) x B hx hB (by rw [Nat.sub_self]; exact c1)
          clear hm1 hm2 HI HT HG2
          go_wp2
          go_region_with (first
            | (go_at_call 54; refine (HL2.out _ _ (by first | exact ((Below.refl _ _).alloc (Nat.le_refl _) _).drew | exact (((Below.refl _ _).alloc (Nat.le_refl _) _).alloc (by simp) _).drew) (by first | (simp; done) | (simp; omega)) (by simp [go_sem]) (by simp [go_sem])).mono ?_; clear HL2; rintro e w3 ⟨g3, m3, rfl, R3, hb3, B3⟩)
            | (go_at_call 54; refine (HL1.out _ _ (by first | exact B3 | exact B3.alloc B3.size _) (by first | (simp; done) | (have hz3 := hb3.size; simp at hz3 ⊢; omega)) (by first | (simp [go_sem]; done) | (rw [hb3.cell (by first | (simp; done) | (simp; omega))]; simp [go_sem]; done))).mono ?_; rintro e w4 ⟨g4, m4, rfl, R4, hb4, B4⟩))
          all_goals
            go_wp2
            go_ret3
            exact t2_yes HO.out (by have := hb2.size; simp; omega) rfl (by simp) (by have := hb3.size; simpa using this) R3 (by first | exact hb4 | exact ((Below.refl _ _).alloc (Nat.le_refl _) _).trans (hb4.mono (by simp))) R4 (hb2.trans (B4.mono hb2.size))
      · have hkp2 : ¬ (k < p) := by omega
        obtain rfl : d = p := by omega
        obtain rfl : q = k := by omega
        have hqd : ¬ (q = d) := by omega
        by_cases hz : n = q + 2
        · have e1 : ((d : Int) + 1).toNat = d + 1 := by omega
          have e2 : ((q : Int) + 1).toNat = q + 1 := by omega
          have pw2 : IntKind.i64.wrap ((q : Int) + 1) = (q : Int) + 1 := by rw [IntKind.wrap_i64]; omega
          have e3 : ((q : Int) + 1 + 1).toNat = q + 2 := by omega
          have pw1 : IntKind.i64.wrap ((d : Int) + 1) = (d : Int) + 1 := by rw [IntKind.wrap_i64]; omega
          have pw3 : IntKind.i64.wrap ((q : Int) + 1 + 1) = (q : Int) + 1 + 1 := by rw [IntKind.wrap_i64]; omega
          have p1 : (0 : Int) ≤ (d : Int) + 1 := by omega
          have p2 : (d : Int) + 1 ≤ (c : Int) := by omega
          have p3 : (0 : Int) ≤ (q : Int) + 1 + 1 := by omega
          have p4 : (q : Int) + 1 + 1 ≤ (n : Int) := by omega
          have p5 : (n : Int) ≤ (c : Int) := by omega
          have p6 : (d : Int) + 1 ≤ (q : Int) + 1 := by omega
          have p7 : (q : Int) + 1 ≤ (c : Int) := by omega
          have p8 : (0 : Int) ≤ (q : Int) + 1 := by omega
          have HL2 : Hid (∀ x B, Below w2.heap.size w2 x → B < x.heap.size → x.cell? ⟨B, 0, none⟩ = some (.slice (some ⟨b, off, none⟩) (d + 1) (d + 1)) → x.cell? ⟨B, 1, none⟩ = some (.slice (some ⟨b, off, none⟩) 0 0) →
              Calls Try.prog 54 #[.slice (some ⟨B, 0, none⟩) 2 2] x fun e y => ∃ g m, e = .returned (.slice (some ⟨g, 0, none⟩) m m) ∧ RBox y x.heap.size y.heap.size (some ⟨g, 0, none⟩) m m (t.take (d + 1) ++ t.drop (q + 2)) ∧ Below x.heap.size x y ∧ Below w2.heap.size w2 y) := fun x B hx hB c1 c2 =>
            laidTwo (a2 := some ⟨b, off, none⟩) (cc := 0) (HI.out.up hb2) (by omega) (by omega) hn (.inl hz) x B hx hB c1 (by rw [show n - (q + 2) = 0 by omega]; exact c2)
          have HL1 : Hid (∀ x B, Below w2.heap.size w2 x → B < x.heap.size → x.cell? ⟨B, 0, none⟩ = some (.slice (some ⟨b, off + (d + 1), none⟩) (q - d) (q - d)) →
              Calls Try.prog 54 #[.slice (some ⟨B, 0, none⟩) 1 1] x fun e y => ∃ g m, e = .returned (.slice (some ⟨g, 0, none⟩) m m) ∧ RBox y x.heap.size y.heap.size (some ⟨g, 0, none⟩) m m ((t.take (q + 1)).drop (d + 1)) ∧ Below x.heap.size x y ∧ Below w2.heap.size w2 y) := fun x B hx hB c1 =>
            laidOne (a3 := some ⟨b, off + (d + 1), none⟩) (cc := (q - d)) (HI.out.up hb2) (by omega) (by omega) hn (.inr rfl) x B hx hB (c1)
          clear hm1 hm2 HI HT HG2
          go_wp2
          go_region_with (first
            | (go_at_call 54; refine (HL2.out _ _ (by first | exact ((Below.refl _ _).alloc (Nat.le_refl _) _).drew | exact (((Below.refl _ _).alloc (Nat.le_refl _) _).alloc (by simp) _).drew) (by first | (simp; done) | (simp; omega)) (by simp [go_sem]) (by simp [go_sem])).mono ?_; clear HL2; rintro e w3 ⟨g3, m3, rfl, R3, hb3, B3⟩)
            | (go_at_call 54; refine (HL1.out _ _ (by first | exact B3 | exact B3.alloc B3.size _) (by first | (simp; done) | (have hz3 := hb3.size; simp at hz3 ⊢; omega)) (by first | (simp [go_sem]; done) | (simp [go_sem, hqd]; done) | (rw [hb3.cell (by first | (simp; done) | (simp; omega))]; simp [go_sem]; done) | (rw [hb3.cell (by first | (simp; done) | (simp; omega))]; simp [go_sem, hqd]; done))).mono ?_; rintro e w4 ⟨g4, m4, rfl, R4, hb4, B4⟩))
          all_goals
            go_wp2
            go_ret3
            exact t2_yes HO.out (by have := hb2.size; simp; omega) rfl (by simp) (by have := hb3.size; simpa using this) R3 (by first | exact hb4 | exact ((Below.refl _ _).alloc (Nat.le_refl _) _).trans (hb4.mono (by simp))) R4 (hb2.trans (B4.mono hb2.size))
        · have e1 : ((d : Int) + 1).toNat = d + 1 := by omega
          have e2 : ((q : Int) + 1).toNat = q + 1 := by omega
          have pw2 : IntKind.i64.wrap ((q : Int) + 1) = (q : Int) + 1 := by rw [IntKind.wrap_i64]; omega
          have e3 : ((q : Int) + 1 + 1).toNat = q + 2 := by omega
          have pw1 : IntKind.i64.wrap ((d : Int) + 1) = (d : Int) + 1 := by rw [IntKind.wrap_i64]; omega
          have pw3 : IntKind.i64.wrap ((q : Int) + 1 + 1) = (q : Int) + 1 + 1 := by rw [IntKind.wrap_i64]; omega
          have p1 : (0 : Int) ≤ (d : Int) + 1 := by omega
          have p2 : (d : Int) + 1 ≤ (c : Int) := by omega
          have p3 : (0 : Int) ≤ (q : Int) + 1 + 1 := by omega
          have p4 : (q : Int) + 1 + 1 ≤ (n : Int) := by omega
          have p5 : (n : Int) ≤ (c : Int) := by omega
          have p6 : (d : Int) + 1 ≤ (q : Int) + 1 := by omega
          have p7 : (q : Int) + 1 ≤ (c : Int) := by omega
          have p8 : (0 : Int) ≤ (q : Int) + 1 := by omega
          have HL2 : Hid (∀ x B, Below w2.heap.size w2 x → B < x.heap.size → x.cell? ⟨B, 0, none⟩ = some (.slice (some ⟨b, off, none⟩) (d + 1) (d + 1)) → x.cell? ⟨B, 1, none⟩ = some (.slice (some ⟨b, off + (q + 2), none⟩) (n - (q + 2)) (n - (q + 2))) →
              Calls Try.prog 54 #[.slice (some ⟨B, 0, none⟩) 2 2] x fun e y => ∃ g m, e = .returned (.slice (some ⟨g, 0, none⟩) m m) ∧ RBox y x.heap.size y.heap.size (some ⟨g, 0, none⟩) m m (t.take (d + 1) ++ t.drop (q + 2)) ∧ Below x.heap.size x y ∧ Below w2.heap.size w2 y) := fun x B hx hB c1 c2 =>
            laidTwo (a2 := some ⟨b, off + (q + 2), none⟩) (cc := (n - (q + 2))) (HI.out.up hb2) (by omega) (by omega) hn (.inr rfl) x B hx hB c1 (c2)
          have HL1 : Hid (∀ x B, Below w2.heap.size w2 x → B < x.heap.size → x.cell? ⟨B, 0, none⟩ = some (.slice (some ⟨b, off + (d + 1), none⟩) (q - d) (q - d)) →
              Calls Try.prog 54 #[.slice (some ⟨B, 0, none⟩) 1 1] x fun e y => ∃ g m, e = .returned (.slice (some ⟨g, 0, none⟩) m m) ∧ RBox y x.heap.size y.heap.size (some ⟨g, 0, none⟩) m m ((t.take (q + 1)).drop (d + 1)) ∧ Below x.heap.size x y ∧ Below w2.heap.size w2 y) := fun x B hx hB c1 =>
            laidOne (a3 := some ⟨b, off + (d + 1), none⟩) (cc := (q - d)) (HI.out.up hb2) (by omega) (by omega) hn (.inr rfl) x B hx hB (c1)
          clear hm1 hm2 HI HT HG2
          go_wp2
          go_region_with (first
            | (go_at_call 54; refine (HL2.out _ _ (by first | exact ((Below.refl _ _).alloc (Nat.le_refl _) _).drew | exact (((Below.refl _ _).alloc (Nat.le_refl _) _).alloc (by simp) _).drew) (by first | (simp; done) | (simp; omega)) (by simp [go_sem]) (by simp [go_sem])).mono ?_; clear HL2; rintro e w3 ⟨g3, m3, rfl, R3, hb3, B3⟩)
            | (go_at_call 54; refine (HL1.out _ _ (by first | exact B3 | exact B3.alloc B3.size _) (by first | (simp; done) | (have hz3 := hb3.size; simp at hz3 ⊢; omega)) (by first | (simp [go_sem]; done) | (simp [go_sem, hqd]; done) | (rw [hb3.cell (by first | (simp; done) | (simp; omega))]; simp [go_sem]; done) | (rw [hb3.cell (by first | (simp; done) | (simp; omega))]; simp [go_sem, hqd]; done))).mono ?_; rintro e w4 ⟨g4, m4, rfl, R4, hb4, B4⟩))
          all_goals
            go_wp2
            go_ret3
            exact t2_yes HO.out (by have := hb2.size; simp; omega) rfl (by simp) (by have := hb3.size; simpa using this) R3 (by first | exact hb4 | exact ((Below.refl _ _).alloc (Nat.le_refl _) _).trans (hb4.mono (by simp))) R4 (hb2.trans (B4.mono hb2.size))
    · have HO := hideIt (show spO t u v = ([], [], false) by unfold spO; rw [if_neg (fun hh => by have := hh.2; omega)])
      rw [hk] at HG1
      clear hT h
      go_enter Try.func29, Try.ntmps29
      go_wp2_with (first | (go_at_call 52; refine HG1.out.mono ?_; clear HG1; rintro e w1 ⟨rfl, hw⟩; have hw' := hw.symm; subst hw'; clear hw) | (go_at_call 52; refine HG2.out.mono ?_; rintro e w1 ⟨rfl, hw⟩; have hw' := hw.symm; subst hw'; clear hw) | (go_at_call 53; refine HT.out.mono ?_; rintro e w2 ⟨rfl, hb2⟩))
      go_ret3
      exact t2_no HO.out hb2
end Go.Proofs.Ytcpffonenhhfoab
namespace Go.Proofs.Ytcpffonenhhfoab
open Go.RowKit

set_option maxRecDepth 100000 in
set_option maxHeartbeats 8000000 in
theorem iCut_any (N : Int) (ts : List (List Int)) (f : EdgeV) (n : Nat) (a : Option Addr) (c : Nat) (hn : n + lnS ts ≤ 1048576) (w : World) (h : Ts w w.heap.size a n ts) :
    Calls Try.prog 10 #[.agg #[.int .i64 N, .slice a n c], .agg #[.int .i64 f.1, .int .i64 f.2]] w fun e w' => FAns w N (cutO N ts f) e w' := by
  obtain ⟨W, hW⟩ : ∃ W, W = w3of w N a n c f := ⟨_, rfl⟩
  have hsz : W.heap.size = w.heap.size + 3 := by rw [hW, w3_size]
  have gW : Good w W := by rw [hW]; exact w3_good _ _ _ _ _ _
  have HA := hideIt (h.up gW)
  have HAw := hideIt h
  have hlen := h.1
  have HT : Hid (∀ x u, Good W u → Calls Try.prog 27 #[.agg #[.int .i64 N, .slice a n c], .int .i64 x] u fun e v => e = .returned (.int .i64 (treeO N ts x)) ∧ Good W v) := fun x u hu =>
    (iTreeOf_any N ts x n a c hn u (HA.out.up hu)).mono fun _ _ ⟨he, hb⟩ => ⟨he, hu.up hb⟩
  have HE : Hid (∀ u, Good W u → Calls Try.prog 28 #[.int .i64 N, .agg #[.int .i64 f.1, .int .i64 f.2]] u fun e v => e = .returned (.bool (eB N f)) ∧ Good W v) := fun u hu =>
    (iEdgeOk_any N f u).mono fun _ _ ⟨he, hb⟩ => ⟨he, hu.up hb⟩
  have HC : Hid (∀ u, Good W u → ((u.cell? ⟨w.heap.size, 0, none⟩ = some (.int .i64 N) ∧ u.cell? ⟨w.heap.size, 1, none⟩ = some (.slice a n c)) ∧ u.cell? ⟨w.heap.size + 1, 0, none⟩ = some (.int .i64 f.1) ∧ u.cell? ⟨w.heap.size + 1, 1, none⟩ = some (.int .i64 f.2)) ∧ Good W u) := fun u hu => ⟨w3_cells (hW ▸ hu), hu⟩
  have HO : Hid (∀ u, Below (w.heap.size + 3) W u → (u.cell? ⟨w.heap.size + 2, 0, none⟩ = some (.int .i64 0) ∧ u.cell? ⟨w.heap.size + 2, 1, none⟩ = some (.slice none 0 0)) ∧ u.frozen? ⟨w.heap.size + 2, 0, none⟩ = false ∧ u.frozen? ⟨w.heap.size + 2, 1, none⟩ = false) := fun u hu => w3_out (hW ▸ hu)
  have HNo : Hid (∀ u, Good W u → cutO N ts f = none → FAns w N (cutO N ts f) (.returned (.tuple #[.agg #[.int .i64 0, .slice none 0 0], .bool false])) ((u.setCell ⟨w.heap.size + 2, 0, none⟩ (.int .i64 0)).setCell ⟨w.heap.size + 2, 1, none⟩ (.slice none 0 0))) := fun u hu ho =>
    fans_no ho (((gW.up hu).setCell (p := ⟨w.heap.size + 2, 0, none⟩) (by show w.heap.size ≤ w.heap.size + 2; omega) _).setCell (p := ⟨w.heap.size + 2, 1, none⟩) (by show w.heap.size ≤ w.heap.size + 2; omega) _)
  have HS0 := hideIt (HC.out _ (Good.refl W).drew)
  have HGW := hideIt gW
  go_enter Try.func10, Try.ntmps10
  go_upto_region 1 with fail
  clear h gW
  have hW' : (((w.alloc (.cells #[.int .i64 N, .slice a n c] 28)).alloc (.cells #[.int .i64 f.1, .int .i64 f.2] 32)).alloc (.cells #[.int .i64 0, .slice none 0 0] 28)) = W := hW.symm
  rw [hW']
  clear hW hW'
  obtain ⟨⟨⟨k0, k1⟩, k2, k3⟩, _⟩ := HC.out _ (Good.refl W)
  have HT0 := hideIt (HT.out f.1 W (Good.refl W))
  clear HS0
  go_wp2_with (go_at_call 27; refine HT0.out.mono ?_; rintro e w1 ⟨rfl, G1⟩; refine Hid.out ?_)
  refine (show ∀ {p : Prop}, p → Hid p from fun h => h) ?_
  clear k0 k1 k2 k3 HT0
  · skip
    obtain ⟨⟨⟨k0, k1⟩, k2, k3⟩, _⟩ := HC.out _ G1
    have HE1 := hideIt (HE.out _ G1)
    cases hE : eB N f with
    | false =>
      rw [hE] at HE1
      have HL := hideIt (cutO_no (N := N) (ts := ts) (e := f) (fun h => by rw [hE] at h; exact absurd h.2.1 (by simp)))
      clear hE
      go_wp2_with (go_at_call 28; refine HE1.out.mono ?_; rintro e w2 ⟨rfl, G2⟩; refine Hid.out ?_)
      refine (show ∀ {p : Prop}, p → Hid p from fun h => h) ?_
      obtain ⟨⟨r0, r1⟩, r2, r3⟩ := HO.out _ (by rw [← hsz]; exact G2)
      have HN2 := hideIt (HNo.out _ G2 HL.out)
      clear k0 k1 k2 k3
      go_wp2
      exact bodyPost_ret (v := .tuple #[.agg #[.int .i64 0, .slice none 0 0], .bool false]) (by simp [results, Try.results10, go_sem, r0, r1]) rfl HN2.out
    | true =>
      rw [hE] at HE1
      by_cases hP : FP N ts
      · obtain ⟨M, rfl, hM1, hM2⟩ := FP_nat hP
        obtain ⟨i, j, p, q, hi, hj, hu, hv⟩ := edge_at hP hE
        have e1 : treeO (M : Int) ts f.1 = (i : Int) := (treeO_yes hP f.1).trans (trI_of hP.q hi hu)
        rw [e1]
        have hil := (List.getElem?_eq_some_iff.1 hi).1
        rcases HA.out.2 with hz | ⟨b, off, rfl, hbl, hc⟩
        · omega
        · obtain ⟨x, cx, ci, ii, hcx⟩ := hc i p hi
          have hp := tB_len (hP.q.1 p (List.mem_of_getElem? hi)).1
          have HJ : Hid (∀ u, Good W u → Calls Try.prog 29 #[.slice x p.length cx, .int .i64 f.1, .int .i64 f.2] u fun e v => T2Ans u (spO p f.1 f.2) e v) := fun u hu =>
            iSplitTour_any p f.1 f.2 p.length x cx (by omega) hcx u (ii.up hu)
          have HC4 : Hid (∀ u, Good W u → (((u.cell? ⟨w.heap.size, 0, none⟩ = some (.int .i64 (M : Int)) ∧ u.cell? ⟨w.heap.size, 1, none⟩ = some (.slice (some ⟨b, off, none⟩) n c)) ∧ u.cell? ⟨w.heap.size + 1, 0, none⟩ = some (.int .i64 f.1) ∧ u.cell? ⟨w.heap.size + 1, 1, none⟩ = some (.int .i64 f.2)) ∧ u.cell? ⟨b, off + i, none⟩ = some (.slice x p.length cx)) ∧ Good W u) := fun u hu =>
            ⟨⟨(HC.out u hu).1, by rw [hu.cell hbl]; exact ci⟩, hu⟩
          have b1 : (0 : Int) ≤ (i : Int) := by omega
          have b2 : (i : Int) < (n : Int) := by omega
          have d1 : decide ((i : Int) < 0) = false := decide_eq_false (by omega)
          have HAw2 := HAw
          clear hc ii ci e1
          go_wp2_with (go_at_call 28; refine HE1.out.mono ?_; rintro e w2 ⟨rfl, G2⟩; refine Hid.out ?_)
          refine (show ∀ {p : Prop}, p → Hid p from fun h => h) ?_
          have g2d : Good W w2.drew := G2.drew
          have hS2 := HC4.out _ g2d
          clear k0 k1 k2 k3 HE1
          cases hsp : (spO p f.1 f.2).2.2 with
          | false =>
            have HL := hideIt (cutO_no (N := (M : Int)) (ts := ts) (e := f) (fun h => by
              have h3 := h.2.2
              rw [trI_of hP.q hi hu, tat_at hi, hsp] at h3
              cases h3))
            have HJ2 : Hid (∀ u, Good W u → Calls Try.prog 29 #[.slice x p.length cx, .int .i64 f.1, .int .i64 f.2] u fun e v => ∃ aJ mJ cJ aK mK cK, e = .returned (.tuple #[.slice aJ mJ cJ, .slice aK mK cK, .bool false]) ∧ Good W v) := fun u hu =>
              (HJ.out u hu).mono fun _ _ ⟨aJ, mJ, cJ, aK, mK, cK, _, he, _, _, _, hb⟩ => ⟨aJ, mJ, cJ, aK, mK, cK, by rw [he, hsp], hu.up hb⟩
            clear hi hj hu hv hE HJ hP hsp
            go_upto_region 4 with fail
            go_region_held3 (fun u => (((u.cell? ⟨w.heap.size, 0, none⟩ = some (.int .i64 (M : Int)) ∧ u.cell? ⟨w.heap.size, 1, none⟩ = some (.slice (some ⟨b, off, none⟩) n c)) ∧ u.cell? ⟨w.heap.size + 1, 0, none⟩ = some (.int .i64 f.1) ∧ u.cell? ⟨w.heap.size + 1, 1, none⟩ = some (.int .i64 f.2)) ∧ u.cell? ⟨b, off + i, none⟩ = some (.slice x p.length cx)) ∧ Good W u)
              (first | assumption)
              (first | (go_at_call 29; refine (HJ2.out _ (And.right (by assumption))).mono ?_; rintro e w3 ⟨aJ, mJ, cJ, aK, mK, cK, rfl, G3⟩; have hS3 := HC4.out _ G3))
            all_goals
              obtain ⟨⟨r0, r1⟩, r2, r3⟩ := HO.out _ (by rw [← hsz]; exact G3)
              have HN2 := hideIt (HNo.out _ G3 HL.out)
              go_wp2
              exact bodyPost_ret (v := .tuple #[.agg #[.int .i64 0, .slice none 0 0], .bool false]) (by simp [results, Try.results10, go_sem, r0, r1]) rfl HN2.out
          | true =>
            obtain ⟨A, B, hS⟩ : ∃ A B, spO p f.1 f.2 = (A, B, true) := ⟨_, _, by rw [← hsp]⟩
            rw [hS] at HJ
            have HL := hideIt (cutO_yes hP hE hi hu hS)
            obtain ⟨pp, cc, hSp, hvp⟩ := cut_sp hS
            have hAl := tB_len hSp.oka
            have hBl := tB_len hSp.okb
            have hFQ := cut_fq hP hi hS
            have hWo := wo_stay1 hP.q hi hu hvp
            have HJ2 : Hid (∀ u, Good W u → Calls Try.prog 29 #[.slice x p.length cx, .int .i64 f.1, .int .i64 f.2] u fun e v => ∃ g cJ g' cK, e = .returned (.tuple #[.slice (some ⟨g, 0, none⟩) A.length cJ, .slice (some ⟨g', 0, none⟩) B.length cK, .bool true]) ∧ (RwB v ⟨g, cJ, A⟩ ∧ RwB v ⟨g', cK, B⟩) ∧ (w.heap.size + 3 ≤ g ∧ g < g') ∧ Good W v) := fun u hu =>
              (HJ.out u hu).mono fun _ v ⟨aJ, mJ, cJ, aK, mK, cK, mid, he, hmid, hA, hB, hb⟩ => by
                have hm : mJ = A.length := hA.len.symm
                have hm' : mK = B.length := hB.len.symm
                subst hm hm'
                obtain ⟨g, rfl, _, hg⟩ := own_some hA.own (by omega)
                obtain ⟨g', rfl, _, hg'⟩ := own_some hB.own (by omega)
                have hgm := hA.row g rfl
                exact ⟨g, cJ, g', cK, he, ⟨RwB.of_own hA.own, RwB.of_own hB.own⟩, ⟨by have := hu.size; omega, by omega⟩, hu.up hb⟩
            have HRep : Hid (∀ (u : World) (R0 : List Rw) (a1 : Option Addr) (c1 c2 : Nat × Nat), R0 = [(⟨c1.1, c1.2, A⟩ : Rw), (⟨c2.1, c2.2, B⟩ : Rw)] → Below (w.heap.size + 3) W u → FB u (w.heap.size + 3) u.heap.size a1 2 2 R0 → Calls Try.prog 30 #[.agg #[.int .i64 (M : Int), .slice (some ⟨b, off, none⟩) n c], .agg #[.int .i64 f.1, .int .i64 f.2], .slice a1 2 2] u fun e v => ∃ a' m' c' R, e = .returned (.agg #[.int .i64 (M : Int), .slice a' m' c']) ∧ FB v (w.heap.size + 3) v.heap.size a' m' c' R ∧ rts R = srtK (woK ts [i] ts.length ++ [A, B]) M ∧ Below (w.heap.size + 3) W v) := fun u R0 a1 c1 c2 hR0 hu hF => by
              subst hR0
              have hst : woK ts [i] ts.length = stay ts f.1 f.2 := hWo
              have hpm : (rts [(⟨c1.1, c1.2, A⟩ : Rw), (⟨c2.1, c2.2, B⟩ : Rw)] ++ stay ts f.1 f.2).Perm (woK ts [i] ts.length ++ [A, B]) := by
                rw [hst]
                exact List.perm_append_comm (l₁ := [A, B])
              refine (replanted_any (M : Int) ts f.1 f.2 n (some ⟨b, off, none⟩) c (w.heap.size + 3) _ 2 a1 2 hP (by omega) (by omega) (hFQ.perm hpm.symm) u (by have := hu.size; omega) (((HAw2.out.up HGW.out).mono (Nat.le_of_eq hsz)).below hu (Nat.le_refl _)) hF).mono ?_
              rintro e v ⟨a', m', c', R, he, h1, h2, h3, h4⟩
              exact ⟨a', m', c', R, he, h1, ord_is hM1 hM2 hFQ (h2.trans hpm) h3, hu.trans h4⟩
            clear hi hj hu hv hE HJ hP hS hsp hSp hvp hFQ hWo
            go_upto_region 4 with fail
            go_region_held3 (fun u => (((u.cell? ⟨w.heap.size, 0, none⟩ = some (.int .i64 (M : Int)) ∧ u.cell? ⟨w.heap.size, 1, none⟩ = some (.slice (some ⟨b, off, none⟩) n c)) ∧ u.cell? ⟨w.heap.size + 1, 0, none⟩ = some (.int .i64 f.1) ∧ u.cell? ⟨w.heap.size + 1, 1, none⟩ = some (.int .i64 f.2)) ∧ u.cell? ⟨b, off + i, none⟩ = some (.slice x p.length cx)) ∧ Good W u)
              (first | assumption)
              (first | (go_at_call 29; refine (HJ2.out _ (And.right (by assumption))).mono ?_; rintro e w3 ⟨g, cJ, g', cK, rfl, hrw, hgg, G3⟩; have hS3 := HC4.out _ G3))
            all_goals
              obtain ⟨⟨⟨k0, k1⟩, k2, k3⟩, _⟩ := HC.out _ G3
              have B3 : Below (w.heap.size + 3) W (w3.alloc (.cells #[.slice (some ⟨g, 0, none⟩) A.length cJ, .slice (some ⟨g', 0, none⟩) B.length cK] 45)) := by rw [← hsz]; exact G3.alloc _
              have hs3 := G3.size
              have HFb : FB (w3.alloc (.cells #[.slice (some ⟨g, 0, none⟩) A.length cJ, .slice (some ⟨g', 0, none⟩) B.length cK] 45)) (w.heap.size + 3) (w3.alloc (.cells #[.slice (some ⟨g, 0, none⟩) A.length cJ, .slice (some ⟨g', 0, none⟩) B.length cK] 45)).heap.size (some ⟨w3.heap.size, 0, none⟩) 2 2 [⟨g, cJ, A⟩, ⟨g', cK, B⟩] := by
                have h0 := World.ownsRow_lit (base := w.heap.size + 3) (e := 45) (size := 1) w3 #[.slice (some ⟨g, 0, none⟩) A.length cJ, .slice (some ⟨g', 0, none⟩) B.length cK] 2 (by omega) (by unfold maxLen; omega) (by simp)
                have hup : ∀ r, RwB w3 r → RwB (w3.alloc (.cells #[.slice (some ⟨g, 0, none⟩) A.length cJ, .slice (some ⟨g', 0, none⟩) B.length cK] 45)) r := fun r hr => hr.rng (l2 := r.g + 1) (h2 := r.g + 1) (Rng.of_below ((Below.refl _ _).alloc (Nat.le_refl _) _)) (.inl (Nat.le_refl _))
                have hr1 := hup _ hrw.1
                have hr2 := hup _ hrw.2
                refine ⟨rfl, h0, fun x hx => (h0.lt x hx).2, Nat.le_refl _, fun r hr => ?_, ?_⟩
                · simp at hr
                  rcases hr with rfl | rfl
                  · exact ⟨hr1, hgg.1, hr1.lt⟩
                  · exact ⟨hr2, by show w.heap.size + 3 ≤ g'; omega, hr2.lt⟩
                · simp
                  omega
              have HR3 := hideIt (HRep.out _ _ _ (g, cJ) (g', cK) rfl B3 HFb)
              clear HRep HFb hrw B3 HJ2 HT HE HC4 hS2 hS3
              go_wp2_with (go_at_call 30; refine HR3.out.mono ?_; rintro e w4 ⟨a4, m4, c4, R4, rfl, F4, r4, B4⟩; refine Hid.out ?_)
              refine (show ∀ {p : Prop}, p → Hid p from fun h => h) ?_
              obtain ⟨⟨r0, r1⟩, r2, r3⟩ := HO.out _ B4
              have HF5 := hideIt ((F4.setLow (x := w.heap.size + 2) (by omega) 0 (.int .i64 (M : Int))).setLow (x := w.heap.size + 2) (by omega) 1 (.slice a4 m4 c4))
              have HB5 : Hid (Below w.heap.size w ((w4.setCell ⟨w.heap.size + 2, 0, none⟩ (.int .i64 (M : Int))).setCell ⟨w.heap.size + 2, 1, none⟩ (.slice a4 m4 c4))) := ((HGW.out.trans (B4.mono (by omega))).setCell (p := ⟨w.heap.size + 2, 0, none⟩) (by show w.heap.size ≤ w.heap.size + 2; omega) _).setCell (p := ⟨w.heap.size + 2, 1, none⟩) (by show w.heap.size ≤ w.heap.size + 2; omega) _
              have HR4 := hideIt r4
              clear F4 B4 r4 k0 k1 k2 k3
              go_wp2
              exact bodyPost_ret (v := .tuple #[.agg #[.int .i64 (M : Int), .slice a4 m4 c4], .bool true]) (by simp [results, Try.results10, go_sem, r0, r1]) rfl ⟨a4, m4, c4, R4, by rw [HL.out]; rfl, (HF5.out.lo (by omega)).hi (by simp [World.setCell]) (by simp [World.setCell]), by rw [HL.out, HR4.out]; rfl, HB5.out⟩
      · have HL := hideIt (cutO_no (N := N) (ts := ts) (e := f) (fun h => hP h.1))
        have e1 := treeO_no hP f.1
        have d1 : decide ((-1 : Int) < 0) = true := by decide
        rw [e1]
        clear hE e1
        go_wp2_with (go_at_call 28; refine HE1.out.mono ?_; rintro e w2 ⟨rfl, G2⟩; refine Hid.out ?_)
        refine (show ∀ {p : Prop}, p → Hid p from fun h => h) ?_
        obtain ⟨⟨r0, r1⟩, r2, r3⟩ := HO.out _ (by rw [← hsz]; exact G2)
        have HN2 := hideIt (HNo.out _ G2 HL.out)
        clear k0 k1 k2 k3
        go_wp2
        exact bodyPost_ret (v := .tuple #[.agg #[.int .i64 0, .slice none 0 0], .bool false]) (by simp [results, Try.results10, go_sem, r0, r1]) rfl HN2.out
end Go.Proofs.Ytcpffonenhhfoab
namespace Go.Proofs.Ytcpffonenhhfoab
open Go.RowKit

/-- an edge as the machine bears it -/
def FitE7 (f : EdgeV) : Prop := (Lit.int .i64 f.1).wf = true ∧ (Lit.int .i64 f.2).wf = true
theorem FP_small {N : Int} {ts : List (List Int)} (h : FP N ts) : ts.length + lnS ts ≤ 1000 := by
  have h1 := h.2.2.1
  have h2 : ∀ l : List (List Int), (∀ t ∈ l, tB t = true) → lnS l ≤ 23 * l.length := fun l hl => by
    induction l with
    | nil => simp [lnS]
    | cons t r ih =>
      have h3 := tB_len (hl t (by simp))
      have h4 := ih fun s hs => hl s (by simp [hs])
      simp only [lnS, List.map_cons, List.sum_cons, List.length_cons] at h4 ⊢
      omega
  have h5 := h2 ts fun t ht => (h.q.1 t ht).1
  omega
theorem cutO_len {N : Int} {ts : List (List Int)} {x : EdgeV} : ((cutO N ts x).getD []).length + lnS ((cutO N ts x).getD []) ≤ 1000 := by
  by_cases h : FP N ts ∧ eB N x = true ∧ (spO (tat ts (trI ts x.1)) x.1 x.2).2.2 = true
  · obtain ⟨M, rfl, hM1, hM2⟩ := FP_nat h.1
    obtain ⟨i, j, p, q, hi, hj, hu, hv⟩ := edge_at h.1 h.2.1
    have h3 := h.2.2
    rw [trI_of h.1.q hi hu, tat_at hi] at h3
    obtain ⟨A, B, hS⟩ : ∃ A B, spO p x.1 x.2 = (A, B, true) := ⟨_, _, by rw [← h3]⟩
    rw [cutO_yes h.1 h.2.1 hi hu hS]
    exact FP_small (FP_srt hM1 hM2 (cut_fq h.1 hi hS))
  · rw [cutO_no h]
    simp [lnS]
set_option maxRecDepth 100000 in
set_option maxHeartbeats 8000000 in
theorem fnExactCut.walk (N : Int) (_hN : (Lit.int .i64 N).wf = true) (fs : List (List Int)) (hft : ∀ f ∈ fs, f.length ≤ maxLen) (n : Nat) (a : Option Addr) (c : Nat) (hn : n ≤ maxLen) (x : EdgeV) (_hx : FitE7 x) (w : World) (h : Ts w w.heap.size a n fs) :
    Calls Try.prog 3 #[.agg #[.int .i64 N, .slice a n c], .agg #[.int .i64 x.1, .int .i64 x.2]] w fun e w' => e = .returned (.bool true) ∧ Below w.heap.size w w' := by
  have HS := hideIt (szForest_any N fs n a c hn hft (lw7 w N a n c x) (h.up (LG7.start w N a n c x).below))
  have HF := hideIt h
  have HB := hideIt (LG7.start w N a n c x).below
  clear h
  by_cases hn1 : n + lnS fs ≤ 1048576
  · have d1 : decide (szv n fs < 0) = false := decide_eq_false (by unfold szv; rw [if_pos hn1]; omega)
    generalize szv n fs = zz0 at *
    have hgl := cutO_len (N := N) (ts := fs) (x := x)
    have HDs := hideIt (fun u0 u (hu : Good u0 u) B g R ho (hR : Hid (rts R = fs)) => ans_S (fun g w h => sCut_any N fs x n (some ⟨g, 0, none⟩) n hn1 w h) hu (B := B) (g := g) (R := R) ho hR.out)
    have HDi := hideIt (fun u0 u (hu : Good u0 u) B g R ho (hR : Hid (rts R = fs)) => ans_I (fun g w h => iCut_any N fs x n (some ⟨g, 0, none⟩) n hn1 w h) hu (B := B) (g := g) (R := R) ho hR.out)
    have HA := hideIt (fun u0 u (hu : Good u0 u) B m aa R ho => toEdge_G7 x hu (B := B) (n := m) (aa := aa) (R := R) ho)
    generalize (if (cutO N fs x).isSome then N else 0) = M at *
    generalize (cutO N fs x).isSome = fl at *
    generalize (cutO N fs x).getD [] = gs at *
    have hff : (fl != fl) = false := by simp
    go_enter Try.func3, Try.ntmps3
    go_wp2_with (go_at_call 6; refine (show Calls Try.prog 6 _ (lw7 w N a n c x) _ from HS.out).mono ?_; rintro e w2 ⟨rfl, hb1⟩; refine Hid.out ?_)
    refine (show ∀ {p : Prop}, p → Hid p from fun h => h) ?_
    have L2 : LG7 w N a n c x w2 := (LG7.start w N a n c x).up hb1
    clear hb1 HS
    obtain ⟨⟨c0, c1⟩, c2, c3⟩ := L2.cells
    have HC := hideIt (fun u (hu : Good w2 u) => And.intro (L2.good hu).cells hu)
    have hS2 := HC.out _ (Good.refl w2).drew
    have zz := L2.size
    go_upto_region 5 with fail
    go_cut [6, 7] (fun p ok wx => ∃ b aw mw cw, p = .pointer (some ⟨b, 0, none⟩) ∧ ok = .bool fl ∧ Good w2 wx ∧ TBox wx wx.heap.size b M aw mw cw gs)
    case first =>
      have HT := hideIt (fun u (hu : Good w2 u) => toForest_G N fs n a c hn1 (L2.ts HF.out) hu)
      go_region_held3 (fun u => ((u.cell? ⟨w.heap.size, 0, none⟩ = some (.int .i64 N) ∧ u.cell? ⟨w.heap.size, 1, none⟩ = some (.slice a n c)) ∧ u.cell? ⟨w.heap.size + 1, 0, none⟩ = some (.int .i64 x.1) ∧ u.cell? ⟨w.heap.size + 1, 1, none⟩ = some (.int .i64 x.2)) ∧ Good w2 u)
        (first | assumption | exact HC.out _ (Good.alloc (And.right (by assumption)) _) | exact HC.out _ (Good.set (Good.set (And.right (by assumption)) _ _ _ (by omega)) _ _ _ (by omega)))
        (first
          | (go_at_call 8; refine (HT.out _ (And.right (by assumption))).mono ?_; rintro e w3 ⟨g3, R3, rfl, ho3, hr3, hg3, hk3⟩; have hS3 := HC.out _ hg3; have z3 := hg3.size; try (have bx := hk3.nil (Box7.new w2 _ _ _ _ rfl)))
          | (go_at_call 9; refine (HA.out w2 _ (And.right (by assumption)) _ _ _ _ (by first | assumption | exact FB.keep (by assumption) ((Below.refl _ _).alloc (Nat.le_refl _) _))).mono ?_; rintro e w4 ⟨rfl, ho4, hg4, hk4⟩; have hS4 := HC.out _ hg4; have z4 := hg4.size; first | have bx := hk4.nil bx | have bx := hk4.nil (Box7.new w3 _ _ _ _ rfl) | skip)
          | (go_at_call 7; refine (HDs.out w2 _ (And.right (by assumption)) _ _ _ (by first | assumption | exact FB.keep (by assumption) ((Below.refl _ _).alloc (Nat.le_refl _) _)) hr3).mono ?_; rintro e w5 ⟨aw, mw, cw, hs5, rfl, ho5, hg5, hk5, hn5⟩; have hS5 := HC.out _ hg5; have z5 := hg5.size; (first | have nx := hn5 _ bx | have nx := hn5 _ (Box7.new w4 _ _ _ _ rfl) | skip); (first | have bx := hk5.nil bx | have bx := hk5.nil (Box7.new w4 _ _ _ _ rfl) | skip); try (have bc0 := bx.cell0; have bc1 := bx.cell1; have bz0 := bx.frozen 0; have bz1 := bx.frozen 1)))
      all_goals
        go_wp2_with fail
        go_meet
        first
          | exact ⟨_, aw, mw, cw, rfl, rfl, Good.set (Good.set hg5 _ _ _ (by omega)) _ _ _ (by omega), TBox.stored bx ho5.1 ho5.2 nx⟩
          | exact ⟨_, aw, mw, cw, rfl, rfl, Good.alloc hg5 _, TBox.laid ho5.1 ho5.2⟩
    case rest =>
      obtain ⟨b, aw, mw, cw, rfl, rfl, G3, DW⟩ := hcut
      have L3 := L2.good G3
      have z3 := L3.size
      clear c0 c1 c2 c3 HC hS2
      obtain ⟨⟨c0, c1⟩, c2, c3⟩ := L3.cells
      have HT3 := hideIt (toForest_G N fs n a c hn1 (L3.ts HF.out) (Good.refl wc))
      go_wp2_with (go_at_call 8; refine HT3.out.mono ?_; rintro e w4 ⟨g4, R4, rfl, ho4, hr4, hg4, _⟩; refine Hid.out ?_)
      refine (show ∀ {p : Prop}, p → Hid p from fun h => h) ?_
      clear HT3 c0 c1 c2 c3
      go_upto_region 7 with fail
      have hz4 := hg4.size
      have DX := OBox.laid (M := N) (lo := wc.heap.size) hz4 ho4
      have G4 := hg4.alloc (.cells #[.int .i64 N, .slice (some ⟨g4, 0, none⟩) n n] 28)
      have L4 := L3.good G4
      have DW4 := DW.up G4
      have hC0 : w.heap.size + 2 ≤ w2.heap.size := zz
      have hC1 : w2.heap.size ≤ wc.heap.size := G3.size
      clear ho4 hg4 DW G3 L3 z3 hz4
      obtain ⟨u1, bX, C1, e1, e2, e3⟩ : ∃ u1 bX C1, u1 = w4.alloc (.cells #[.int .i64 N, .slice (some ⟨g4, 0, none⟩) n n] 28) ∧ bX = w4.heap.size ∧ C1 = wc.heap.size := ⟨_, _, _, rfl, rfl, rfl⟩
      rw [← e1] at DX L4 DW4 G4 ⊢
      rw [← e2] at DX ⊢
      rw [← e3] at DX DW4 hC1
      clear e1 e2 e3 G4
      have z4 := L4.size
      have HC4 := hideIt (fun u (hu : Good u1 u) => And.intro (And.intro (DX.up hu).cells (L4.good hu).cells.2) hu)
      have hS4 := HC4.out _ (Good.refl u1).drew
      have hox := (show FB u1.drew C1 u1.drew.heap.size (some ⟨g4, 0, none⟩) n n R4 from (DX.fb.hi (Nat.le_refl _) DX.fb.there).up (Below.drew (Below.refl _ _)))
      have o1 := DX.cells.1
      have o2 := DX.cells.2
      go_cut [9, 10] (fun p ok wx => ∃ b2 ag mg cg Rg, p = .pointer (some ⟨b2, 0, none⟩) ∧ ok = .bool fl ∧ Good u1 wx ∧ Hid (rts Rg = gs) ∧ OBox wx u1.heap.size wx.heap.size b2 M ag mg cg Rg)
      case first =>
        go_region_held3 (fun u => ((u.cell? ⟨bX, 0, none⟩ = some (.int .i64 N) ∧ u.cell? ⟨bX, 1, none⟩ = some (.slice (some ⟨g4, 0, none⟩) n n)) ∧ u.cell? ⟨w.heap.size + 1, 0, none⟩ = some (.int .i64 x.1) ∧ u.cell? ⟨w.heap.size + 1, 1, none⟩ = some (.int .i64 x.2)) ∧ Good u1 u)
          (first | assumption | exact HC4.out _ (Good.alloc (And.right (by assumption)) _) | exact HC4.out _ (Good.set (Good.set (And.right (by assumption)) _ _ _ (by omega)) _ _ _ (by omega)))
          (first
            | (go_at_call 9; refine (HA.out u1 _ (And.right (by assumption)) C1 n (some ⟨g4, 0, none⟩) R4 (by first | assumption | exact FB.keep (by assumption) ((Below.refl _ _).alloc (Nat.le_refl _) _))).mono ?_; rintro e w5 ⟨rfl, ho5, hg5, hk5⟩; have hS5 := HC4.out _ hg5; have z5 := hg5.size; first | have bx := hk5.nil (Box7.new u1 _ _ _ _ rfl) | skip)
            | (go_at_call 10; refine (HDi.out u1 _ (And.right (by assumption)) C1 g4 R4 (by first | assumption | exact FB.keep (by assumption) ((Below.refl _ _).alloc (Nat.le_refl _) _)) hr4).mono ?_; rintro e w6 ⟨ag, mg, cg, Rg, rfl, ho6, hrg, hg6, hk6⟩; have hS6 := HC4.out _ hg6; have z6 := hg6.size; (first | have bx := hk6.nil bx | have bx := hk6.nil (Box7.new w5 _ _ _ _ rfl) | skip); try (have bc0 := bx.cell0; have bc1 := bx.cell1; have bz0 := bx.frozen 0; have bz1 := bx.frozen 1)))
        all_goals
          go_wp2_with fail
          go_meet
          first
            | exact ⟨_, ag, mg, cg, Rg, rfl, rfl, Good.set (Good.set hg6 _ _ _ (by omega)) _ _ _ (by omega), hrg, OBox.stored bx (by omega) ho6⟩
            | exact ⟨_, ag, mg, cg, Rg, rfl, rfl, Good.alloc hg6 _, hrg, OBox.laid (by omega) ho6⟩
      case rest =>
        obtain ⟨b2, ag, mg, cg, Rg, rfl, rfl, G5, hrg, DG⟩ := hcut
        have L5 := L4.good G5
        have DW5 := DW4.up G5
        have DX5 := DX.up G5
        have hC2 : C1 ≤ u1.heap.size := by have := DX.least; have := DX.most; omega
        have hmg : mg + lnS gs ≤ 1000 := by rw [← DG.fb.len, ← rts_len, hrg.out]; exact hgl
        have hrng : mg + rn Rg ≤ 1000 := by rw [rn_lnS, hrg.out]; exact hmg
        have hrn4 : n + rn R4 ≤ 1048576 := by rw [rn_lnS, hr4.out]; exact hn1
        clear HC4 hS4 hox o1 o2 DX DW4
        have q0 := DG.cells.1
        have q1 := DW5.cells.1
        have q2 := DG.cells.2
        have q3 := DW5.cells.2
        have HE5 := hideIt (eqOT DG DW5 hrg.out (by omega))
        go_wp2_with (go_at_call 11; refine HE5.out.mono ?_; rintro e w6 ⟨rfl, hb6⟩; refine Hid.out ?_)
        refine (show ∀ {p : Prop}, p → Hid p from fun h => h) ?_
        have L6 := L5.up hb6
        have DW6 := DW5.up hb6
        have DX6 := DX5.up hb6
        have DG6 := DG.up hb6
        have hz6 := hb6.size
        clear HE5 hb6 q0 q1 q2 q3 DG DW5 DX5 L5
        have HC6 := hideIt (fun u (hu : Good w6 u) => And.intro (And.intro (DX6.up hu).cells (L6.good hu).cells.1) hu)
        have hS6 := HC6.out _ (Good.refl w6).drew
        have HT6 := hideIt (fun u (hu : Good w6 u) => toForest_G N fs n a c hn1 (L6.ts HF.out) hu)
        have HX6 := hideIt (fun u (hu : Good w6 u) => (show Ts u u.heap.size (some ⟨g4, 0, none⟩) n fs from hr4.out ▸ (DX6.up hu).fb.ts))
        go_upto_region 10 with fail
        go_region_held3 (fun u => ((u.cell? ⟨bX, 0, none⟩ = some (.int .i64 N) ∧ u.cell? ⟨bX, 1, none⟩ = some (.slice (some ⟨g4, 0, none⟩) n n)) ∧ u.cell? ⟨w.heap.size, 0, none⟩ = some (.int .i64 N) ∧ u.cell? ⟨w.heap.size, 1, none⟩ = some (.slice a n c)) ∧ Good w6 u)
          (first | assumption)
          (first
            | (go_at_call 8; refine (HT6.out _ (And.right (by assumption))).mono ?_; rintro e w7 ⟨g7, R7, rfl, ho7, hr7, hg7, _⟩; have hS7 := HC6.out _ hg7)
            | (go_at_call 11; refine (eqForest_same N fs n _ _ _ _ hn1 _ (HX6.out _ hg7) (hr7.out ▸ ho7.ts)).mono ?_; rintro e w8 ⟨rfl, hb8⟩; have hg8 := hg7.up hb8; have hS8 := HC6.out _ hg8))
        have L8 := L6.good hg8
        have DW8 := DW6.up hg8
        have DX8 := DX6.up hg8
        have DG8 := DG6.up hg8
        have hz8 := hg8.size
        clear HC6 hS6 HT6 HX6 hS7 hS8 hg7 ho7 hb8 L6 DW6 DX6 DG6
        have q2 := DX8.cells.1
        have q3 := DX8.cells.2
        have HM8 := hideIt (markOB DX8 1 hrn4 (by omega))
        go_wp2_with (go_at_call 12; refine HM8.out.mono ?_; rintro e w9 ⟨rfl, hDX9, hr9⟩; refine Hid.out ?_)
        refine (show ∀ {p : Prop}, p → Hid p from fun h => h) ?_
        have L9 := L8.rng hr9 (by omega)
        have DW9 := DW8.rng hr9 (Nat.le_refl _)
        have DG9 := DG8.rng hr9 (.inr (Nat.le_refl _))
        clear HM8 q2 q3 L8 DW8 DX8 DG8 hr9 hDX9
        have d3 : decide ((1 : Int) + (rn R4 : Int) < 0) = false := decide_eq_false (by omega)
        have q0 := DG9.cells.1
        have q1 := DW9.cells.1
        have q2 := DG9.cells.2
        have q3 := DW9.cells.2
        have HE9 := hideIt (eqOT DG9 DW9 hrg.out (by omega))
        go_wp2_with (go_at_call 11; refine HE9.out.mono ?_; rintro e w10 ⟨rfl, hb10⟩; refine Hid.out ?_)
        refine (show ∀ {p : Prop}, p → Hid p from fun h => h) ?_
        have L10 := L9.up hb10
        have DW10 := DW9.up hb10
        have DG10 := DG9.up hb10
        clear HE9 hb10 q0 q1 q2 q3 L9 DW9 DG9
        have q0 := DG10.cells.1
        have q1 := DG10.cells.2
        have HM10 := hideIt (markOB DG10 1 (by omega) (by omega))
        go_wp2_with (go_at_call 12; refine HM10.out.mono ?_; rintro e w11 ⟨rfl, DG11, hr11⟩; refine Hid.out ?_)
        refine (show ∀ {p : Prop}, p → Hid p from fun h => h) ?_
        have L11 := L10.rng hr11 (by omega)
        have DW11 := DW10.rng hr11 (by omega)
        clear HM10 q0 q1 L10 DW10 DG10 hr11
        have q0 := DG11.cells.1
        have q1 := DG11.cells.2
        have HH11 := hideIt (heldOB 1 DG11 (by omega) (by omega))
        have d4 : decide ((1 : Int) + (rn Rg : Int) < 0) = false := decide_eq_false (by omega)
        have d5 : ((1 : Int) + (rn Rg : Int) != (1 : Int) + (rn Rg : Int)) = false := by simp
        go_wp2_with (go_at_call 13; refine HH11.out.mono ?_; rintro e w12 ⟨rfl, hb12⟩; refine Hid.out ?_)
        refine (show ∀ {p : Prop}, p → Hid p from fun h => h) ?_
        have L12 := L11.up hb12
        have DW12 := DW11.up hb12
        have DG12 := DG11.up hb12
        clear HH11 hb12 q0 q1 L11 DW11 DG11
        have HC12 := hideIt (fun u (hu : Good w12 u) => And.intro (L12.good hu).cells hu)
        have hS12 := HC12.out _ (Good.refl w12).drew
        have zz12 := L12.size
        obtain ⟨⟨c0, c1⟩, c2, c3⟩ := L12.cells
        go_upto_region 24 with fail
        go_cut [14, 15] (fun p ok wx => ∃ b3 ah mh ch Rh, p = .pointer (some ⟨b3, 0, none⟩) ∧ ok = .bool fl ∧ Good w12 wx ∧ Hid (rts Rh = gs) ∧ OBox wx w12.heap.size wx.heap.size b3 M ah mh ch Rh)
        case first =>
          have HT := hideIt (fun u (hu : Good w12 u) => toForest_G N fs n a c hn1 (L12.ts HF.out) hu)
          go_region_held3 (fun u => ((u.cell? ⟨w.heap.size, 0, none⟩ = some (.int .i64 N) ∧ u.cell? ⟨w.heap.size, 1, none⟩ = some (.slice a n c)) ∧ u.cell? ⟨w.heap.size + 1, 0, none⟩ = some (.int .i64 x.1) ∧ u.cell? ⟨w.heap.size + 1, 1, none⟩ = some (.int .i64 x.2)) ∧ Good w12 u)
            (first | assumption | exact HC12.out _ (Good.alloc (And.right (by assumption)) _) | exact HC12.out _ (Good.set (Good.set (And.right (by assumption)) _ _ _ (by omega)) _ _ _ (by omega)))
            (first
              | (go_at_call 8; refine (HT.out _ (And.right (by assumption))).mono ?_; rintro e w3 ⟨g3, R3, rfl, ho3, hr3, hg3, hk3⟩; have hS3 := HC12.out _ hg3; have z3 := hg3.size; try (have bx := hk3.nil (Box7.new w12 _ _ _ _ rfl)))
              | (go_at_call 9; refine (HA.out w12 _ (And.right (by assumption)) _ _ _ _ (by first | assumption | exact FB.keep (by assumption) ((Below.refl _ _).alloc (Nat.le_refl _) _))).mono ?_; rintro e w4 ⟨rfl, ho4, hg4, hk4⟩; have hS4 := HC12.out _ hg4; have z4 := hg4.size; first | have bx := hk4.nil bx | have bx := hk4.nil (Box7.new w3 _ _ _ _ rfl) | skip)
              | (go_at_call 10; refine (HDi.out w12 _ (And.right (by assumption)) _ _ _ (by first | assumption | exact FB.keep (by assumption) ((Below.refl _ _).alloc (Nat.le_refl _) _)) hr3).mono ?_; rintro e w5 ⟨ah, mh, ch, Rh, rfl, ho5, hrh, hg5, hk5⟩; have hS5 := HC12.out _ hg5; have z5 := hg5.size; (first | have bx := hk5.nil bx | have bx := hk5.nil (Box7.new w4 _ _ _ _ rfl) | skip); try (have bc0 := bx.cell0; have bc1 := bx.cell1; have bz0 := bx.frozen 0; have bz1 := bx.frozen 1)))
          all_goals
            go_wp2_with fail
            go_meet
            first
              | exact ⟨_, ah, mh, ch, Rh, rfl, rfl, Good.set (Good.set hg5 _ _ _ (by omega)) _ _ _ (by omega), hrh, OBox.stored bx (by omega) ho5⟩
              | exact ⟨_, ah, mh, ch, Rh, rfl, rfl, Good.alloc hg5 _, hrh, OBox.laid (by omega) ho5⟩
        case rest =>
          obtain ⟨b3, ah, mh, ch, Rh, rfl, rfl, G13, hrh, DH⟩ := hcut
          have L13 := L12.good G13
          have DW13 := DW12.up G13
          have DG13 := DG12.up G13
          have hmh : mh + lnS gs ≤ 1000 := by rw [← DH.fb.len, ← rts_len, hrh.out]; exact hgl
          clear c0 c1 c2 c3 HC12 hS12 L12 DW12 DG12
          have q0 := DH.cells.1
          have q1 := DW13.cells.1
          have q2 := DH.cells.2
          have q3 := DW13.cells.2
          have HE13 := hideIt (eqOT DH DW13 hrh.out (by omega))
          go_wp2_with (go_at_call 11; refine HE13.out.mono ?_; rintro e w14 ⟨rfl, hb14⟩; refine Hid.out ?_)
          refine (show ∀ {p : Prop}, p → Hid p from fun h => h) ?_
          have L14 := L13.up hb14
          have DG14 := DG13.up hb14
          clear HE13 hb14 q0 q1 q2 q3 L13 DW13 DG13
          have q0 := DG14.cells.1
          have q1 := DG14.cells.2
          have HH14 := hideIt (heldOB 1 DG14 (by omega) (by omega))
          go_wp2_with (go_at_call 13; refine HH14.out.mono ?_; rintro e w15 ⟨rfl, hb15⟩)
          go_ret
          exact ⟨rfl, (L14.up hb15).below⟩
  · have HV : Hid (szv n fs = -1) := by show _ = _; unfold szv; rw [if_neg hn1]
    have d1 : decide (szv n fs < 0) = true := decide_eq_true (by have := HV.out; omega)
    generalize szv n fs = zz0 at *
    go_enter Try.func3, Try.ntmps3
    go_wp2_with (go_at_call 6; refine (show Calls Try.prog 6 _ (lw7 w N a n c x) _ from HS.out).mono ?_; rintro e w1 ⟨rfl, hb1⟩)
    go_ret
    exact ⟨rfl, HB.out.trans (Below.mono hb1 (by rw [lw7_size]; omega))⟩
end Go.Proofs.Ytcpffonenhhfoab
