/- The specification's JoinTours. -/
import Derived.Test.YtcppbgkocipnlaaSRer
import Derived.Test.YtcppbgkocipnlaaFind6b
import Derived.Test.YtcppbgkocipnlaaIJoin
namespace Go.Proofs.Ytcppbgkocipnlaa
open Go.RowKit

theorem com_swap (us vs : List Int) : comB us vs = comB vs us := by
  unfold comB
  rw [Bool.eq_iff_iff, List.any_eq_true, List.any_eq_true]
  simp
  constructor
  · rintro ⟨x, h1, h2⟩; exact ⟨x, h2, h1⟩
  · rintro ⟨x, h1, h2⟩; exact ⟨x, h2, h1⟩

set_option maxRecDepth 100000 in
set_option maxHeartbeats 8000000 in
theorem sJoinTours_any (ta : List Int) (u : Int) (tb : List Int) (v : Int) (n : Nat) (a : Option Addr) (c : Nat) (hn : n ≤ 1048576) (hc : n ≤ c) (nb : Nat) (b : Option Addr) (cb : Nat) (hnb : nb ≤ 1048576) (hcb : nb ≤ cb) (w : World) (h : Is w w.heap.size a n ta) (hb : Is w w.heap.size b nb tb) :
    Calls Try.prog 28 #[.slice a n c, .int .i64 u, .slice b nb cb, .int .i64 v] w fun e w' => TAns w (joO ta u tb v) e w' := by
  obtain ⟨i0, hi, hz0, hz1, hz2⟩ := info_parts info3i
  have HT := hideIt (sTourOk_any ta n a c (by omega) w h)
  have HTb := hideIt (fun x (hx : Below w.heap.size w x) => sTourOk_any tb nb b cb (by omega) x (hb.up hx))
  have HF := hideIt (fun x (hx : Below w.heap.size w x) => l06First_any ta u n a c (by omega) x (h.up hx))
  have HFb := hideIt (fun x (hx : Below w.heap.size w x) => l06First_any tb v nb b cb (by omega) x (hb.up hx))
  have HIn := hideIt (fun y x (hx : Below w.heap.size w x) => l05In_any ta y n a c (by omega) x (h.up hx))
  have HR := hideIt (fun x (hx : Below w.heap.size w x) => sReroot_any tb v nb b cb (by omega) hcb x (hb.up hx))
  have HL := hideIt (fun x (hx : Below w.heap.size w x) => l06Last_any ta u n a c (by omega) x (h.up hx))
  have HI := hideIt h
  have HIb := hideIt hb
  have hlen := h.1
  have hlenb := hb.1
  cases hT : tB ta with
  | false =>
    have HO := hideIt (show joO ta u tb v = none by unfold joO; rw [if_neg (fun hh => by have := hh.1.1; rw [hT] at this; simp at this)])
    rw [hT] at HT
    clear hT h hb HTb HF HFb HIn HR HL HI HIb
    go_enter Try.func28, Try.ntmps28
    go_wp2_with (go_at_call 22; refine HT.out.mono ?_; rintro e w1 ⟨rfl, hb1⟩)
    go_ret2
    exact tans_none HO.out (own_mono (ISt.start w1).own hb1.size) (hb1.alloc hb1.size _)
  | true =>
    rw [hT] at HT
    cases hTb : tB tb with
    | false =>
      have HO := hideIt (show joO ta u tb v = none by unfold joO; rw [if_neg (fun hh => by have := hh.1.2; rw [hTb] at this; simp at this)])
      rw [hTb] at HTb
      clear hT hTb h hb HF HFb HIn HR HL HI HIb
      go_enter Try.func28, Try.ntmps28
      go_wp2_with (go_at_call 22; refine HT.out.mono ?_; rintro e w1 ⟨rfl, hb1⟩; refine Hid.out ?_)
      refine (show ∀ {p : Prop}, p → Hid p from fun h => h) ?_
      have HT1 := hideIt (HTb.out w1 hb1)
      clear HT HTb
      go_wp2_with (go_at_call 22; refine HT1.out.mono ?_; rintro e w2 ⟨rfl, hb2⟩)
      go_ret2
      have B2 := hb1.trans (hb2.mono hb1.size)
      exact tans_none HO.out (own_mono (ISt.start w2).own B2.size) (B2.alloc B2.size _)
    | true =>
      rw [hTb] at HTb
      by_cases hu : u ∈ ta
      · obtain ⟨k1, hk1, _, _, _⟩ := fst_at hu
        rw [hk1] at HF
        have d1 : decide ((k1 : Int) < 0) = false := decide_eq_false (by omega)
        by_cases hv : v ∈ tb
        · obtain ⟨k2, hk2, hk2n, _, _⟩ := fst_at hv
          rw [hk2] at HFb
          have d2 : decide ((k2 : Int) < 0) = false := decide_eq_false (by omega)
          obtain ⟨k, hk, hkn, _⟩ := lst_mem hu
          rw [hk] at HL
          rw [hlen] at hkn
          have HOc : Hid (∀ x, x = comB tb ta → joO ta u tb v = if x = true then none else some (joT ta k (reT tb k2 v))) := fun x hx => by
            rw [hx, ← com_swap]
            unfold joO
            cases hC : comB ta tb with
            | true => rw [if_neg (by simp), if_pos rfl]
            | false => rw [if_pos ⟨⟨hT, hTb⟩, ⟨hu, hv⟩, rfl⟩, hk, hk2, if_neg (by simp)]; rfl
          have hRe : reO tb v = some (reT tb k2 v) := by unfold reO; rw [if_pos ⟨hTb, hv⟩, hk2]; rfl
          rw [hRe] at HR
          have hrl := reT_len (v := v) hTb k2
          have hrl0 : 0 < (reT tb k2 v).length := by simp [reT]; omega
          generalize reT tb k2 v = r at *
          obtain ⟨b1, off, rfl⟩ : ∃ b1 off, a = some ⟨b1, off, none⟩ := by
            rcases h.2 with hz | ⟨b1, off, h1, _⟩
            · omega
            · exact ⟨b1, off, h1⟩
          clear hT hTb h hb hk hk1 hk2 hu hv hRe hk2n
          go_enter Try.func28, Try.ntmps28
          go_wp2_with (go_at_call 22; refine HT.out.mono ?_; rintro e w1 ⟨rfl, hb1⟩; refine Hid.out ?_)
          refine (show ∀ {p : Prop}, p → Hid p from fun h => h) ?_
          have HT1 := hideIt (HTb.out w1 hb1)
          clear HT HTb
          go_wp2_with (go_at_call 22; refine HT1.out.mono ?_; rintro e w2 ⟨rfl, hb2⟩; refine Hid.out ?_)
          refine (show ∀ {p : Prop}, p → Hid p from fun h => h) ?_
          have B2 := hb1.trans (hb2.mono hb1.size)
          clear HT1 hb1 hb2
          have HF2 := hideIt (HF.out w2 B2)
          go_wp2_with (go_at_call 52; refine HF2.out.mono ?_; rintro e w3 ⟨rfl, hw⟩; have hw' := hw.symm; subst hw'; clear hw; refine Hid.out ?_)
          refine (show ∀ {p : Prop}, p → Hid p from fun h => h) ?_
          clear HF2 HF
          have HF2 := hideIt (HFb.out w2 B2)
          go_wp2_with (go_at_call 52; refine HF2.out.mono ?_; rintro e w3 ⟨rfl, hw⟩; have hw' := hw.symm; subst hw'; clear hw)
          clear HF2 HFb
          go_loopw [10] (fun i wr => ∃ (j : Nat), j ≤ nb ∧ i = .int .i64 (j : Int) ∧ Hid (∀ q, q < j → comP tb ta q = false) ∧ wr = w2) (fun i _ => nb - (intOf i).toNat)
          case atStart => exact ⟨0, by omega, rfl, fun j hj => by omega, rfl⟩
          case round =>
            obtain ⟨j, hj, rfl, HQ, hw⟩ := hrel
            have hw' := hw.symm
            subst hw'
            clear hw
            by_cases hlt : j < nb
            · rcases HIb.out.2 with hz | ⟨b2, off2, rfl, hbl, hcl⟩
              · omega
              · obtain ⟨f, hf⟩ : ∃ f, tb[j]? = some f := ⟨tb[j]'(by omega), List.getElem?_eq_getElem (by omega)⟩
                have e0 : w2.cell? ⟨b2, off2 + j, none⟩ = some (.int .i64 f) := by rw [B2.cell hbl]; exact hcl j f hf
                have q1 : (0 : Int) ≤ (j : Int) := by omega
                have q2 : (j : Int) < (nb : Int) := by omega
                have HN := hideIt (HIn.out f w2 B2)
                have hcf := comP_at (vs := ta) hf
                cases hx : decide (f ∈ ta) with
                | true =>
                  rw [hx] at HN hcf
                  have HO := hideIt ((HOc.out true (comB_yes hcf).symm).trans (if_pos rfl))
                  clear hcl hf hx hcf HQ HL HR HIn HI HIb HOc
                  go_wp2_with (go_at_call 53; refine HN.out.mono ?_; rintro e w3 ⟨rfl, hw⟩; have hw' := hw.symm; subst hw'; clear hw)
                  go_ret2
                  exact tans_none HO.out (own_mono (ISt.start w2).own B2.size) (B2.alloc B2.size _)
                | false =>
                  rw [hx] at HN hcf
                  have HQ2 := hideIt (all_step HQ.out hcf)
                  clear hcl hf hx hcf HQ HL HR HIn HI HIb HOc
                  go_wp2_with (go_at_call 53; refine HN.out.mono ?_; rintro e w3 ⟨rfl, hw⟩; have hw' := hw.symm; subst hw'; clear hw)
                  exact ⟨⟨j + 1, by omega, by go_num, HQ2, by first | trivial | rfl⟩, by simp [intOf]; omega⟩
            · obtain rfl : j = nb := by omega
              have HO := hideIt ((HOc.out false (comB_no (by rw [hlenb]; exact HQ.out)).symm).trans (if_neg (by simp)))
              have HR2 := hideIt (HR.out w2 B2)
              clear HQ HOc HR HIn HIb
              go_wp2_with (go_at_call 25; refine HR2.out.mono ?_; rintro e w3 ⟨ai, mi, ci, rfl, hoi, hb3⟩; refine Hid.out ?_)
              refine (show ∀ {p : Prop}, p → Hid p from fun h => h) ?_
              have B3 := B2.trans (hb3.mono B2.size)
              have RI := RBox.laid hoi
              rw [Option.getD_some] at RI
              have hmi : mi ≤ 50 := by rw [← RI.len]; exact hrl
              have hmi0 : 0 < mi := by rw [← RI.len]; exact hrl0
              obtain ⟨gi, ci', hform, _⟩ := RI.own.form hmi0
              simp at hform
              obtain ⟨rfl, rfl⟩ := hform
              have HL3 := hideIt (HL.out w3 B3)
              have S1 := ISt.start w3
              have HI1 := hideIt ((HI.out.up B3).up S1.bel)
              have HN1 := hideIt ((HI1.out.take (show k + 1 ≤ n by omega)).news)
              have HN1l : Hid ((ic (ta.take (k + 1))).length = (k + 1) * 1) := by show _ = _; rw [ic_len, List.length_take]; omega
              have e1 : ((k : Int) + 1).toNat = k + 1 := by omega
              have p1 : (0 : Int) ≤ (k : Int) := by omega
              have p2 : (k : Int) ≤ (n : Int) := by omega
              have p4 : (0 : Int) ≤ (k : Int) + 1 := by omega
              have p5 : (k : Int) + 1 ≤ (c : Int) := by omega
              have hne : ¬ (c = k) := by omega
              obtain ⟨x1, hx1⟩ : ∃ x, x = ta.take (k + 1) := ⟨_, rfl⟩
              obtain ⟨x2, hx2⟩ : ∃ x, x = ta.drop k := ⟨_, rfl⟩
              rw [← hx1] at HN1 HN1l
              have HJ : Hid (joT ta k r = x1 ++ (r ++ x2)) := by show _ = _; rw [hx1, hx2]; rfl
              have HX2 := hideIt hx2
              clear HR2 hoi HL hx1 hx2
              go_wp2_with (first | (go_at_call 54; refine HL3.out.mono ?_; rintro e w4 ⟨rfl, hw⟩; have hw' := hw.symm; subst hw'; clear hw) | (at_builtin; refine wpList_append_own _ rfl _ _ 24 rfl w3.heap.size 3 i0 _ 1 8 Try.underlying24 hi hz0 hz1 hz2 rfl (by decide) _ _ _ rfl S1.own ⟨b1, off, none⟩ (k + 1) c (ic x1) rfl HN1l.out HN1.out ic_one (by unfold maxLen; omega) (by omega) (by simp) ?_))
              intro v5 w5 hown5 hg5 _
              obtain ⟨a5, c5, rfl, S5⟩ := S1.appL hown5 hg5
              clear hown5 hg5 S1 HI1 HN1 HN1l HL3
              refine Hid.out ?_
              refine (show ∀ {p : Prop}, p → Hid p from fun h => h) ?_
              have RI5 := RI.up S5.bel
              have HN5 := hideIt RI5.is.news
              have HN5l : Hid ((ic r).length = mi * 1) := by show _ = _; rw [ic_len, RI.len]; omega
              have z5 := S5.size
              go_wp2_with (at_builtin; refine wpList_append_own _ rfl _ _ 24 rfl w3.heap.size 3 i0 _ 1 8 Try.underlying24 hi hz0 hz1 hz2 rfl (by decide) _ _ _ rfl S5.own ⟨gi, 0, none⟩ mi ci (ic r) rfl HN5l.out HN5.out ic_one (by unfold maxLen; omega) (by omega) z5 ?_)
              intro v6 w6 hown6 hg6 _
              obtain ⟨a6, c6, rfl, S6⟩ := S5.appL hown6 hg6
              clear hown6 hg6 S5 RI5 HN5 HN5l
              refine Hid.out ?_
              refine (show ∀ {p : Prop}, p → Hid p from fun h => h) ?_
              have HI6 := hideIt ((HI.out.up B3).up S6.bel)
              have HN6 := hideIt ((HI6.out.drop (show k ≤ n by omega)).news)
              rw [← HX2.out] at HN6
              have HN6l : Hid ((ic x2).length = (n - k) * 1) := by show _ = _; rw [ic_len, HX2.out, List.length_drop]; omega
              have z6 := S6.size
              go_wp2_with (at_builtin; refine wpList_append_own _ rfl _ _ 24 rfl w3.heap.size 3 i0 _ 1 8 Try.underlying24 hi hz0 hz1 hz2 rfl (by decide) _ _ _ rfl S6.own ⟨b1, off + k, none⟩ (n - k) (c - k) (ic x2) rfl HN6l.out HN6.out ic_one (by unfold maxLen; omega) (by omega) z6 ?_)
              intro v7 w7 hown7 hg7 _
              obtain ⟨a7, c7, rfl, S7⟩ := S6.appL hown7 hg7
              clear hown7 hg7 S6
              go_wp2
              go_ret2
              exact tans_yes HO.out B3.size (by rw [HJ.out]; have := S7.own; rw [List.nil_append, List.append_assoc] at this; exact this) (B3.trans (S7.bel.mono B3.size))
        · have HO := hideIt (show joO ta u tb v = none by unfold joO; rw [if_neg (fun hh => hv hh.2.1.2)])
          rw [fst_no hv] at HFb
          clear hT hTb h hb hk1 hu hv HR HL HIn HI HIb
          go_enter Try.func28, Try.ntmps28
          go_wp2_with (go_at_call 22; refine HT.out.mono ?_; rintro e w1 ⟨rfl, hb1⟩; refine Hid.out ?_)
          refine (show ∀ {p : Prop}, p → Hid p from fun h => h) ?_
          have HT1 := hideIt (HTb.out w1 hb1)
          clear HT HTb
          go_wp2_with (go_at_call 22; refine HT1.out.mono ?_; rintro e w2 ⟨rfl, hb2⟩; refine Hid.out ?_)
          refine (show ∀ {p : Prop}, p → Hid p from fun h => h) ?_
          have B2 := hb1.trans (hb2.mono hb1.size)
          clear HT1 hb1 hb2
          have HF2 := hideIt (HF.out w2 B2)
          go_wp2_with (go_at_call 52; refine HF2.out.mono ?_; rintro e w3 ⟨rfl, hw⟩; have hw' := hw.symm; subst hw'; clear hw; refine Hid.out ?_)
          refine (show ∀ {p : Prop}, p → Hid p from fun h => h) ?_
          clear HF2 HF
          have HF2 := hideIt (HFb.out w2 B2)
          go_wp2_with (go_at_call 52; refine HF2.out.mono ?_; rintro e w3 ⟨rfl, hw⟩; have hw' := hw.symm; subst hw'; clear hw)
          go_ret2
          exact tans_none HO.out (own_mono (ISt.start w2).own B2.size) (B2.alloc B2.size _)
      · have HO := hideIt (show joO ta u tb v = none by unfold joO; rw [if_neg (fun hh => hu hh.2.1.1)])
        rw [fst_no hu] at HF
        clear hT hTb h hb hu HR HL HIn HI HIb HFb
        go_enter Try.func28, Try.ntmps28
        go_wp2_with (go_at_call 22; refine HT.out.mono ?_; rintro e w1 ⟨rfl, hb1⟩; refine Hid.out ?_)
        refine (show ∀ {p : Prop}, p → Hid p from fun h => h) ?_
        have HT1 := hideIt (HTb.out w1 hb1)
        clear HT HTb
        go_wp2_with (go_at_call 22; refine HT1.out.mono ?_; rintro e w2 ⟨rfl, hb2⟩; refine Hid.out ?_)
        refine (show ∀ {p : Prop}, p → Hid p from fun h => h) ?_
        have B2 := hb1.trans (hb2.mono hb1.size)
        clear HT1 hb1 hb2
        have HF2 := hideIt (HF.out w2 B2)
        go_wp2_with (go_at_call 52; refine HF2.out.mono ?_; rintro e w3 ⟨rfl, hw⟩; have hw' := hw.symm; subst hw'; clear hw)
        go_ret2
        exact tans_none HO.out (own_mono (ISt.start w2).own B2.size) (B2.alloc B2.size _)
end Go.Proofs.Ytcppbgkocipnlaa
