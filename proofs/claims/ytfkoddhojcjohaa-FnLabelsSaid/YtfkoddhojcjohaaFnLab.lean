/- The walk of FnLabels. -/
import Derived.Test.YtfkoddhojcjohaaLabTell
import Derived.Deep.DeepCutAuto
namespace Go.Proofs.Ytfkoddhojcjohaa
open Go.RowKit

set_option maxRecDepth 100000 in
set_option maxHeartbeats 16000000 in
theorem fnLabels.walk (a : Option Addr) (len cap : Nat) (w : World) (hcode : Code w w.heap.size a len) :
    Calls Try.prog 4 #[.slice a len cap] w fun e w' => e = .returned (.bool true) ∧ Below w.heap.size w w' := by
  by_cases hbig : 1048576 < len
  · have H := hideIt (big_any w a len cap)
    have d0 : decide ((1048576 : Int) < (len : Int)) = true := decide_eq_true (by omega)
    rw [d0] at H
    go_enter Try.func4, Try.ntmps4
    go_wp2_with (go_at_call 9; refine H.out.mono ?_; rintro e w1 ⟨rfl, rfl⟩)
    go_ret
    exact ⟨rfl, Below.refl _ _⟩
  have hl : len ≤ 1048576 := by omega
  have H := hideIt (big_any w a len cap)
  have d0 : decide ((1048576 : Int) < (len : Int)) = false := decide_eq_false (by omega)
  rw [d0] at H
  have HD := hideIt (drawRightGraph_any w a len cap hl hcode)
  clear hcode
  go_enter Try.func4, Try.ntmps4
  go_wp2_with (go_at_call 9; refine H.out.mono ?_; rintro e w1 ⟨rfl, hw1⟩; have hw1' := hw1.symm; subst hw1'; refine Hid.out ?_)
  refine (show ∀ {p : Prop}, p → Hid p from fun h => h) ?_
  go_wp2_with (go_at_call 10; refine HD.out.mono ?_; rintro x w2 ⟨nn, es, e, a', m, c', hR, he, rfl, ho2, hb2⟩; refine Hid.out ?_)
  refine (show ∀ {p : Prop}, p → Hid p from fun h => h) ?_
  have hn2 := hR.out.n2
  have hn12 := hR.out.n12
  have hm : es.length = m := by have := ho2.1; rw [ecells_length] at this; omega
  have hm16 : m ≤ 16 := by have := hR.out.len; omega
  have hmN : m ≤ 1048576 := by omega
  have HGB := hideIt (hR.out.gB (by omega))
  have HEI : Hid (EsIn es nn) := by have := esIn_of HGB.out; rw [Int.toNat_natCast] at this; exact this
  have HLE : Hid (labE (nn : Int) es = labs es nn nn) := by show _ = _; unfold labE; rw [if_pos HGB.out, Int.toNat_natCast]
  obtain ⟨W3, hW3⟩ : ∃ W3, W3 = (w2.alloc (.cells #[.int .i64 (nn : Int), .slice a' m c'] 26)).alloc (.cells #[.int .i64 e.1, .int .i64 e.2] 28) := ⟨_, rfl⟩
  have hb3 : Below w2.heap.size w2 W3 := by rw [hW3]; exact ((Below.refl _ _).alloc (Nat.le_refl _) _).alloc (by simp) _
  have x0 : W3.cell? ⟨w2.heap.size, 0, none⟩ = some (.int .i64 (nn : Int)) := by rw [hW3]; simp [go_sem]
  have x1 : W3.cell? ⟨w2.heap.size, 1, none⟩ = some (.slice a' m c') := by rw [hW3]; simp [go_sem]
  have zX : w2.heap.size < W3.heap.size := by rw [hW3]; simp; omega
  have hes3 := (Es_of_own ho2).up hb3
  have HB3 : Hid (Below w.heap.size w W3) := hb2.trans (hb3.mono hb2.size)
  have HLab := hideIt (iLabels_any (nn : Int) es m a' c' hmN W3 hes3)
  rw [HLE.out] at HLab
  clear HD H ho2 hb2 hb3 he
  go_upto_region 4 with fail
  rw [← hW3]
  clear hW3
  go_wp2_with (go_at_call 18; refine HLab.out.mono ?_; rintro x w4 ⟨al, ml, cl, rfl, ho4, hb4⟩; refine Hid.out ?_)
  refine (show ∀ {p : Prop}, p → Hid p from fun h => h) ?_
  have hI4 := Is_of_own ho4
  have hml : ml = nn := by have := hI4.1; rw [labs_len] at this; omega
  subst hml
  obtain ⟨bl, ol, rfl, hbl, hcl⟩ : ∃ bl ol, al = some ⟨bl, ol, none⟩ ∧ bl < w4.heap.size ∧ ∀ (j : Nat) (x : Int), (labs es ml ml)[j]? = some x → w4.cell? ⟨bl, ol + j, none⟩ = some (.int .i64 x) := by
    rcases hI4.2 with h0 | h1
    · omega
    · exact h1
  have L4 : LabSt w2.heap.size ml es a' m c' bl ol w4 := ⟨by rw [hb4.cell zX]; exact x0, by rw [hb4.cell zX]; exact x1, hes3.up hb4, fun x h0 h1 => by
    have := hcl x.toNat _ (atI_some (by rw [labs_len]; omega))
    rw [show ((x.toNat : Nat) : Int) = x by omega] at this
    exact this, by have := hb4.size; omega⟩
  have HB4 := hideIt (HB3.out.trans (hb4.mono HB3.out.size))
  have HSl := hideIt (sLabels_any (ml : Int) es m a' c' hmN w4 L4.row)
  rw [HLE.out] at HSl
  have q0 := L4.box0
  have q1 := L4.box1
  have HI4 := hideIt hI4
  clear HLab ho4 hb4 hes3 x0 x1 zX hcl hI4 HB3
  go_wp2_with (go_at_call 20; refine HSl.out.mono ?_; rintro x w5 ⟨aS, ms, cs, rfl, ho5, hb5⟩; refine Hid.out ?_)
  refine (show ∀ {p : Prop}, p → Hid p from fun h => h) ?_
  have hI5 := Is_of_own ho5
  have hms : ms = ml := by have := hI5.1; rw [labs_len] at this; omega
  subst hms
  have HSm := hideIt (sameInts_same _ ms _ _ cl cs (by omega) w5 (HI4.out.up hb5) hI5)
  have L5 := L4.up hb5
  have HB5 := hideIt (HB4.out.trans (hb5.mono HB4.out.size))
  clear HSl ho5 hb5 q0 q1 L4 HB4 HI4 hI5
  go_wp2_with (go_at_call 19; refine HSm.out.mono ?_; rintro x w6 ⟨rfl, hb6⟩; refine Hid.out ?_)
  refine (show ∀ {p : Prop}, p → Hid p from fun h => h) ?_
  have L6 := hideIt (L5.up hb6)
  have HB6 := hideIt (HB5.out.trans (hb6.mono HB5.out.size))
  clear HSm hb6 L5 HB5
  go_wp2
  go_loopw [6] (fun i wr => ∃ (k : Nat), k ≤ m ∧ i = .int .i64 (k : Int) ∧ Good w6 wr) (fun i _ => m - (intOf i).toNat)
  case atStart => exact ⟨0, by omega, rfl, Good.refl _⟩
  case round =>
    obtain ⟨k, hk, rfl, hg⟩ := hrel
    have LS : LabSt w2.heap.size ms es a' m c' bl ol wr := L6.out.up hg
    have q0 := LS.box0
    have q1 := LS.box1
    by_cases hlt : k < m
    · obtain ⟨f, hf⟩ : ∃ f, es[k]? = some f := ⟨es[k]'(by omega), List.getElem?_eq_getElem (by omega)⟩
      have hfm := List.mem_of_getElem? hf
      have hfi := HEI.out f hfm
      have hle := lab_edge HEI.out hfm
      have HK : Hid (∀ u, Good w6 u → ∃ b off, a' = some ⟨b, off, none⟩ ∧ (u.cell? ⟨b, off + k * 2, none⟩ = some (.int .i64 f.1) ∧ u.cell? ⟨b, off + k * 2 + 1, none⟩ = some (.int .i64 f.2)) ∧ (u.cell? ⟨w2.heap.size, 0, none⟩ = some (.int .i64 (ms : Int)) ∧ u.cell? ⟨w2.heap.size, 1, none⟩ = some (.slice a' m c')) ∧
          u.cell? ⟨bl, ol + f.1.toNat, none⟩ = some (.int .i64 (atI (labs es ms ms) f.2)) ∧ u.cell? ⟨bl, ol + f.2.toNat, none⟩ = some (.int .i64 (atI (labs es ms ms) f.2))) := fun u hu => by
        have L := L6.out.up hu
        rcases L.row.2 with h0 | ⟨b, off, ha, _, hc⟩
        · omega
        · have h3 := L.lab f.1 (by omega) (by omega)
          rw [hle] at h3
          exact ⟨b, off, ha, hc k f hf, ⟨L.box0, L.box1⟩, h3, L.lab f.2 (by omega) (by omega)⟩
      have HT : Hid (∀ u, Good w6 u → Calls Try.prog 21 #[.agg #[.int .i64 (ms : Int), .slice a' m c'], .int .i64 f.2, .int .i64 f.1] u fun e v => e = .returned (.bool true) ∧ Good w6 v) := fun u hu => by
        have ht := iTogether_any (ms : Int) es f.2 f.1 m a' c' hmN u (L6.out.up hu).row
        have e1 : togB (labE (ms : Int) es) f.2 f.1 = true := by
          rw [HLE.out]
          unfold togB
          rw [labs_len]
          exact decide_eq_true ⟨by omega, hle.symm⟩
        rw [e1] at ht
        exact ht.mono fun _ _ ⟨he, hb⟩ => ⟨he, hu.up hb⟩
      have S0 : Good w6 wr.drew := hg.drew
      obtain ⟨b, off, rfl, _, _, _, _⟩ := HK.out wr hg
      have HK2 : Hid (∀ u, Good w6 u → (u.cell? ⟨b, off + k * 2, none⟩ = some (.int .i64 f.1) ∧ u.cell? ⟨b, off + k * 2 + 1, none⟩ = some (.int .i64 f.2)) ∧ (u.cell? ⟨w2.heap.size, 0, none⟩ = some (.int .i64 (ms : Int)) ∧ u.cell? ⟨w2.heap.size, 1, none⟩ = some (.slice (some ⟨b, off, none⟩) m c')) ∧
          u.cell? ⟨bl, ol + f.1.toNat, none⟩ = some (.int .i64 (atI (labs es ms ms) f.2)) ∧ u.cell? ⟨bl, ol + f.2.toNat, none⟩ = some (.int .i64 (atI (labs es ms ms) f.2))) := fun u hu => by
        obtain ⟨b', off', hbo, h1, h2, h3, h4⟩ := HK.out u hu
        simp at hbo
        obtain ⟨rfl, rfl⟩ := hbo
        exact ⟨h1, h2, h3, h4⟩
      have b1 : (0 : Int) ≤ (k : Int) := by omega
      have b2 : (k : Int) < (m : Int) := by omega
      have b3 : (0 : Int) ≤ f.1 := hfi.1
      have b4 : f.1 < (ms : Int) := by omega
      have b5 : (0 : Int) ≤ f.2 := by omega
      have b6 : f.2 < (ms : Int) := hfi.2.2
      clear hf hfm hle hfi LS HK
      generalize atI (labs es ms ms) f.2 = lv at HK2
      have dv : (lv != lv) = false := by simp
      go_wp2
      go_region_held3 (fun u => Good w6 u ∧ (u.cell? ⟨b, off + k * 2, none⟩ = some (.int .i64 f.1) ∧ u.cell? ⟨b, off + k * 2 + 1, none⟩ = some (.int .i64 f.2)) ∧ (u.cell? ⟨w2.heap.size, 0, none⟩ = some (.int .i64 (ms : Int)) ∧ u.cell? ⟨w2.heap.size, 1, none⟩ = some (.slice (some ⟨b, off, none⟩) m c')) ∧
          u.cell? ⟨bl, ol + f.1.toNat, none⟩ = some (.int .i64 lv) ∧ u.cell? ⟨bl, ol + f.2.toNat, none⟩ = some (.int .i64 lv))
        (first | exact ⟨S1, HK2.out _ S1⟩ | exact ⟨S0, HK2.out _ S0⟩)
        ((go_at_call 21; refine (HT.out _ S0).mono ?_; rintro x w7 ⟨rfl, S1⟩))
      all_goals
        go_wp2
        exact ⟨⟨k + 1, by omega, by go_num, S1⟩, by simp [intOf]; omega⟩
    · have hwr : Good w6 wr := hg
      clear hg LS
      go_wp2
      clear q0 q1
      go_loopw [7] (fun i wr => ∃ (v : Nat), v ≤ ms ∧ i = .int .i64 (v : Int) ∧ Good w6 wr) (fun i _ => ms - (intOf i).toNat)
      case atStart => exact ⟨0, by omega, rfl, hwr⟩
      case round =>
        obtain ⟨v, hv, rfl, hg⟩ := hrel
        clear hwr
        have LS : LabSt w2.heap.size ms es a' m c' bl ol wr := L6.out.up hg
        have q0 := LS.box0
        have q1 := LS.box1
        by_cases hltv : v < ms
        · have hvr : 0 ≤ (v : Int) ∧ (v : Int) < (ms : Int) := ⟨by omega, by omega⟩
          have HA := hideIt (iAround_any (ms : Int) es (v : Int) m a' c' hmN wr LS.row)
          have b1 : (0 : Int) ≤ (v : Int) := by omega
          have b2 : (v : Int) < (ms : Int) := by omega
          clear LS
          go_wp2_with (go_at_call 22; refine HA.out.mono ?_; rintro x w7 ⟨an, mn, cn, rfl, ho7, hb7⟩; refine Hid.out ?_)
          refine (show ∀ {p : Prop}, p → Hid p from fun h => h) ?_
          have hI7 := Is_of_own ho7
          have G7 : Good w6 w7 := hg.up hb7
          have hmn : (arE (ms : Int) es (v : Int)).length = mn := hI7.1
          have hmn2 : mn ≤ 200 := by rw [← hmn]; exact arE_len
          have HNe := hideIt (fun x (hx : x ∈ arE (ms : Int) es (v : Int)) => lab_near HGB.out hx)
          have HNl := hideIt (fun x (hx : x ∈ arE (ms : Int) es (v : Int)) => lab_nearE HGB.out hx)
          have HAl := hideIt (fun (h0 : arE (ms : Int) es (v : Int) = []) => lab_alone HGB.out (v := (v : Int)) (by rw [Int.toNat_natCast]; exact hvr) h0)
          rw [Int.toNat_natCast] at HNe HNl HAl
          obtain ⟨⟨hlv0, hlv1⟩, hlv2⟩ := lab_le HEI.out hvr
          have hid := lab_idem HEI.out hvr
          obtain ⟨lv, hlv⟩ : ∃ lv, lv = atI (labs es ms ms) (v : Int) := ⟨_, rfl⟩
          have HLc : Hid (∀ u, Good w7 u → u.cell? ⟨bl, ol + v, none⟩ = some (.int .i64 lv) ∧ u.cell? ⟨bl, ol + lv.toNat, none⟩ = some (.int .i64 lv) ∧ (u.cell? ⟨w2.heap.size, 0, none⟩ = some (.int .i64 (ms : Int)) ∧ u.cell? ⟨w2.heap.size, 1, none⟩ = some (.slice a' m c'))) := fun u hu => by
            have L := L6.out.up (G7.up hu)
            have h1 := L.lab (v : Int) hvr.1 hvr.2
            have h2 := L.lab _ hlv0 hlv1
            rw [hid] at h2
            rw [← hlv] at h1 h2
            rw [Int.toNat_natCast] at h1
            exact ⟨h1, h2, L.box0, L.box1⟩
          have HXc : Hid (∀ u, Good w7 u → ∀ x ∈ arE (ms : Int) es (v : Int), u.cell? ⟨bl, ol + x.toNat, none⟩ = some (.int .i64 lv)) := fun u hu x hx => by
            have L := L6.out.up (G7.up hu)
            have h1 := L.lab x (HNe.out x hx).1.1 (HNe.out x hx).1.2
            rw [HNl.out x hx, ← hlv] at h1
            exact h1
          have HHs : Hid (∀ u, Good w7 u → ∀ f : EdgeV, Calls Try.prog 23 #[.agg #[.int .i64 (ms : Int), .slice a' m c'], .agg #[.int .i64 f.1, .int .i64 f.2]] u fun e v => e = .returned (.bool (hasB es f)) ∧ Good w7 v) := fun u hu f =>
            (sHasEdge_any (ms : Int) es f m a' c' hmN u (L6.out.up (G7.up hu)).row).mono fun _ _ ⟨he, hb⟩ => ⟨he, hu.up hb⟩
          rw [← hlv] at hlv0 hlv1 hlv2 HAl
          have HI7 := hideIt hI7
          obtain ⟨c0, c1, c2, c3⟩ := HLc.out w7 (Good.refl _)
          clear HA ho7 hb7 hI7 hid hlv q0 q1
          go_wp2
          go_loopw [9, 10] (fun f9 i wr => ∃ (j : Nat) (fb : Bool), j ≤ mn ∧ i = .int .i64 (j : Int) ∧ f9 = .bool fb ∧ Hid (0 < j → fb = true) ∧ Hid (lv = (v : Int) → fb = true) ∧ Good w7 wr) (fun _ i _ => mn - (intOf i).toNat)
          case atStart => exact ⟨0, _, by omega, rfl, rfl, fun h => by omega, fun h => by simp [h], Good.refl _⟩
          case round =>
            obtain ⟨j, fb, hj, rfl, rfl, hf1, hf2, hg8⟩ := hrel
            by_cases hltj : j < mn
            · obtain ⟨x, hx⟩ : ∃ x, (arE (ms : Int) es (v : Int))[j]? = some x := ⟨(arE (ms : Int) es (v : Int))[j]'(by omega), List.getElem?_eq_getElem (by omega)⟩
              have hxm := List.mem_of_getElem? hx
              rcases HI7.out.2 with hz | ⟨bn, on, rfl, hbn, hcn⟩
              · omega
              · have hxr := HNe.out x hxm
                have HN : Hid (∀ u, Good w7 u → u.cell? ⟨bn, on + j, none⟩ = some (.int .i64 x) ∧ u.cell? ⟨bl, ol + x.toNat, none⟩ = some (.int .i64 lv) ∧ (u.cell? ⟨w2.heap.size, 0, none⟩ = some (.int .i64 (ms : Int)) ∧ u.cell? ⟨w2.heap.size, 1, none⟩ = some (.slice a' m c'))) := fun u hu =>
                  ⟨by rw [hu.cell hbn]; exact hcn j x hx, HXc.out u hu x hxm, (HLc.out u hu).2.2⟩
                have b3 : (0 : Int) ≤ (j : Int) := by omega
                have b4 : (j : Int) < (mn : Int) := by omega
                have b5 : (0 : Int) ≤ x := hxr.1.1
                have b6 : x < (ms : Int) := hxr.1.2
                have HO := hideIt hxr.2
                obtain ⟨e0, e1, e2, e3⟩ := HN.out wr hg8
                obtain ⟨e4, _, _, _⟩ := HLc.out wr hg8
                have dl : (lv == lv) = true := by simp
                have HD : Hid (∀ q, Good w7 (wr.drewN q)) := fun q => below_drewN hg8 q
                clear hx hxm hcn hxr hf1 hf2
                cases hh : hasB es ((v : Int), x) with
                | true =>
                  have HH1 := hideIt (fun u hu => HHs.out u hu ((v : Int), x))
                  rw [hh] at HH1
                  dsimp only at HH1
                  clear hh HHs HO
                  cases fb with
                  | true =>
                    go_wp2
                    go_quiet (fail)
                    go_wp2
                    refine wp_region_any (by kernel_rfl) ?_
                    change wpAny _ _ _ _ _ _ _ (World.drew _)
                    refine takeOp (i := 1) (v := ?_) rfl (by kernel_rfl) (by kernel_rfl) (by kernel_rfl) (fun _ _ _ h => h) (by kernel_rfl) ?_ ?_
                    rotate_left
                    · intro w; go_simp; try with_reducible rfl
                    refine takeOp (i := 2) (v := ?_) rfl (by kernel_rfl) (by kernel_rfl) (by kernel_rfl) (fun _ _ _ h => h) (by kernel_rfl) ?_ ?_
                    rotate_left
                    · intro w; go_simp; try with_reducible rfl
                    refine takeOp (i := 3) (v := ?_) rfl (by kernel_rfl) (by kernel_rfl) (by kernel_rfl) (fun _ _ _ h => h) (by kernel_rfl) ?_ ?_
                    rotate_left
                    · intro w; go_simp; try with_reducible rfl
                    refine takeOp (i := 4) (v := ?_) rfl (by kernel_rfl) (by kernel_rfl) (by kernel_rfl) (fun _ _ _ h => h) (by kernel_rfl) ?_ ?_
                    rotate_left
                    · intro w; go_simp; try with_reducible rfl
                    refine wpAny_ready (rs := [0, 5]) (by kernel_rfl) (by simp) ?_
                    refine AllReady.cons rfl (fun K hK => ?_) (AllReady.cons rfl (fun K hK => ?_) AllReady.nil)
                    · go_simp
                      refine hK _ _ ?_
                      clear hK K
                      refine wpAny_ready (rs := [5]) (by kernel_rfl) (by simp) ?_
                      refine AllReady.cons rfl (fun K hK => ?_) AllReady.nil
                      go_simp
                      refine hK _ _ ?_
                      clear hK K
                      refine wpAny_ready (rs := [6]) (by kernel_rfl) (by simp) ?_
                      refine AllReady.cons rfl (fun K hK => ?_) AllReady.nil
                      go_simp
                      refine hK _ _ ?_
                      clear hK K
                      refine wpAny_ready (rs := [7]) (by kernel_rfl) (by simp) ?_
                      refine AllReady.cons rfl (fun K hK => ?_) AllReady.nil
                      go_wp2_with (go_at_call 23; refine (HH1.out _ (Good.drew (HD.out _))).mono ?_; rintro y w9 ⟨rfl, S21⟩; refine Hid.out ?_)
                      refine (show ∀ {p : Prop}, p → Hid p from fun h => h) ?_
                      try refine hK _ _ ?_
                      clear hK K
                      refine wpAny_ready (rs := [8]) (by kernel_rfl) (by simp) ?_
                      refine AllReady.cons rfl (fun K hK => ?_) AllReady.nil
                      go_simp
                      refine hK _ _ ?_
                      clear hK K
                      refine wpAny_ready (rs := [9]) (by kernel_rfl) (by simp) ?_
                      refine AllReady.cons rfl (fun K hK => ?_) AllReady.nil
                      go_simp
                      refine hK _ _ ?_
                      clear hK K
                      refine skipOp (i := 10) rfl (by kernel_rfl) (by kernel_rfl) (by kernel_rfl) (fun _ _ _ h => h) (by kernel_rfl) ?_
                      refine skipOp (i := 11) rfl (by kernel_rfl) (by kernel_rfl) (by kernel_rfl) (fun _ _ _ h => h) (by kernel_rfl) ?_
                      refine skipOp (i := 12) rfl (by kernel_rfl) (by kernel_rfl) (by kernel_rfl) (fun _ _ _ h => h) (by kernel_rfl) ?_
                      refine skipOp (i := 13) rfl (by kernel_rfl) (by kernel_rfl) (by kernel_rfl) (fun _ _ _ h => h) (by kernel_rfl) ?_
                      refine skipOp (i := 14) rfl (by kernel_rfl) (by kernel_rfl) (by kernel_rfl) (fun _ _ _ h => h) (by kernel_rfl) ?_
                      refine skipOp (i := 15) rfl (by kernel_rfl) (by kernel_rfl) (by kernel_rfl) (fun _ _ _ h => h) (by kernel_rfl) ?_
                      refine skipOp (i := 16) rfl (by kernel_rfl) (by kernel_rfl) (by kernel_rfl) (fun _ _ _ h => h) (by kernel_rfl) ?_
                      refine skipOp (i := 17) rfl (by kernel_rfl) (by kernel_rfl) (by kernel_rfl) (fun _ _ _ h => h) (by kernel_rfl) ?_
                      refine skipOp (i := 18) rfl (by kernel_rfl) (by kernel_rfl) (by kernel_rfl) (fun _ _ _ h => h) (by kernel_rfl) ?_
                      refine wpAny_ready (rs := [19]) (by kernel_rfl) (by simp) ?_
                      refine AllReady.cons rfl (fun K hK => ?_) AllReady.nil
                      go_simp
                      refine hK _ _ ?_
                      clear hK K
                      refine wpAny_done (by kernel_rfl) ?_ _
                      go_wp2
                      exact ⟨⟨j + 1, true, by omega, by go_num, rfl, fun _ => rfl, fun _ => rfl, S21⟩, by simp [intOf]; omega⟩
                    · go_simp
                      refine hK _ _ ?_
                      clear hK K
                      refine takeOp (i := 6) (v := ?_) rfl (by kernel_rfl) (by kernel_rfl) (by kernel_rfl) (fun _ _ _ h => h) (by kernel_rfl) ?_ ?_
                      rotate_left
                      · intro w; go_simp; try with_reducible rfl
                      refine wpAny_ready (rs := [0]) (by kernel_rfl) (by simp) ?_
                      refine AllReady.cons rfl (fun K hK => ?_) AllReady.nil
                      go_simp
                      refine hK _ _ ?_
                      clear hK K
                      refine wpAny_ready (rs := [7]) (by kernel_rfl) (by simp) ?_
                      refine AllReady.cons rfl (fun K hK => ?_) AllReady.nil
                      go_wp2_with (go_at_call 23; refine (HH1.out _ (Good.drew (HD.out _))).mono ?_; rintro y w9 ⟨rfl, S21⟩; refine Hid.out ?_)
                      refine (show ∀ {p : Prop}, p → Hid p from fun h => h) ?_
                      try refine hK _ _ ?_
                      clear hK K
                      refine wpAny_ready (rs := [8]) (by kernel_rfl) (by simp) ?_
                      refine AllReady.cons rfl (fun K hK => ?_) AllReady.nil
                      go_simp
                      refine hK _ _ ?_
                      clear hK K
                      refine wpAny_ready (rs := [9]) (by kernel_rfl) (by simp) ?_
                      refine AllReady.cons rfl (fun K hK => ?_) AllReady.nil
                      go_simp
                      refine hK _ _ ?_
                      clear hK K
                      refine skipOp (i := 10) rfl (by kernel_rfl) (by kernel_rfl) (by kernel_rfl) (fun _ _ _ h => h) (by kernel_rfl) ?_
                      refine skipOp (i := 11) rfl (by kernel_rfl) (by kernel_rfl) (by kernel_rfl) (fun _ _ _ h => h) (by kernel_rfl) ?_
                      refine skipOp (i := 12) rfl (by kernel_rfl) (by kernel_rfl) (by kernel_rfl) (fun _ _ _ h => h) (by kernel_rfl) ?_
                      refine skipOp (i := 13) rfl (by kernel_rfl) (by kernel_rfl) (by kernel_rfl) (fun _ _ _ h => h) (by kernel_rfl) ?_
                      refine skipOp (i := 14) rfl (by kernel_rfl) (by kernel_rfl) (by kernel_rfl) (fun _ _ _ h => h) (by kernel_rfl) ?_
                      refine skipOp (i := 15) rfl (by kernel_rfl) (by kernel_rfl) (by kernel_rfl) (fun _ _ _ h => h) (by kernel_rfl) ?_
                      refine skipOp (i := 16) rfl (by kernel_rfl) (by kernel_rfl) (by kernel_rfl) (fun _ _ _ h => h) (by kernel_rfl) ?_
                      refine skipOp (i := 17) rfl (by kernel_rfl) (by kernel_rfl) (by kernel_rfl) (fun _ _ _ h => h) (by kernel_rfl) ?_
                      refine skipOp (i := 18) rfl (by kernel_rfl) (by kernel_rfl) (by kernel_rfl) (fun _ _ _ h => h) (by kernel_rfl) ?_
                      refine wpAny_ready (rs := [19]) (by kernel_rfl) (by simp) ?_
                      refine AllReady.cons rfl (fun K hK => ?_) AllReady.nil
                      go_simp
                      refine hK _ _ ?_
                      clear hK K
                      refine wpAny_done (by kernel_rfl) ?_ _
                      go_wp2
                      exact ⟨⟨j + 1, true, by omega, by go_num, rfl, fun _ => rfl, fun _ => rfl, S21⟩, by simp [intOf]; omega⟩
                  | false =>
                    go_wp2
                    go_quiet (fail)
                    go_wp2
                    refine wp_region_any (by kernel_rfl) ?_
                    change wpAny _ _ _ _ _ _ _ (World.drew _)
                    refine takeOp (i := 1) (v := ?_) rfl (by kernel_rfl) (by kernel_rfl) (by kernel_rfl) (fun _ _ _ h => h) (by kernel_rfl) ?_ ?_
                    rotate_left
                    · intro w; go_simp; try with_reducible rfl
                    refine takeOp (i := 2) (v := ?_) rfl (by kernel_rfl) (by kernel_rfl) (by kernel_rfl) (fun _ _ _ h => h) (by kernel_rfl) ?_ ?_
                    rotate_left
                    · intro w; go_simp; try with_reducible rfl
                    refine takeOp (i := 3) (v := ?_) rfl (by kernel_rfl) (by kernel_rfl) (by kernel_rfl) (fun _ _ _ h => h) (by kernel_rfl) ?_ ?_
                    rotate_left
                    · intro w; go_simp; try with_reducible rfl
                    refine takeOp (i := 4) (v := ?_) rfl (by kernel_rfl) (by kernel_rfl) (by kernel_rfl) (fun _ _ _ h => h) (by kernel_rfl) ?_ ?_
                    rotate_left
                    · intro w; go_simp; try with_reducible rfl
                    refine wpAny_ready (rs := [0, 5]) (by kernel_rfl) (by simp) ?_
                    refine AllReady.cons rfl (fun K hK => ?_) (AllReady.cons rfl (fun K hK => ?_) AllReady.nil)
                    · go_simp
                      refine hK _ _ ?_
                      clear hK K
                      refine wpAny_ready (rs := [5]) (by kernel_rfl) (by simp) ?_
                      refine AllReady.cons rfl (fun K hK => ?_) AllReady.nil
                      go_simp
                      refine hK _ _ ?_
                      clear hK K
                      refine wpAny_ready (rs := [6]) (by kernel_rfl) (by simp) ?_
                      refine AllReady.cons rfl (fun K hK => ?_) AllReady.nil
                      go_simp
                      refine hK _ _ ?_
                      clear hK K
                      refine wpAny_ready (rs := [7]) (by kernel_rfl) (by simp) ?_
                      refine AllReady.cons rfl (fun K hK => ?_) AllReady.nil
                      go_wp2_with (go_at_call 23; refine (HH1.out _ (Good.drew (HD.out _))).mono ?_; rintro y w9 ⟨rfl, S21⟩; refine Hid.out ?_)
                      refine (show ∀ {p : Prop}, p → Hid p from fun h => h) ?_
                      try refine hK _ _ ?_
                      clear hK K
                      refine wpAny_ready (rs := [8]) (by kernel_rfl) (by simp) ?_
                      refine AllReady.cons rfl (fun K hK => ?_) AllReady.nil
                      go_simp
                      refine hK _ _ ?_
                      clear hK K
                      refine wpAny_ready (rs := [9]) (by kernel_rfl) (by simp) ?_
                      refine AllReady.cons rfl (fun K hK => ?_) AllReady.nil
                      go_simp
                      refine hK _ _ ?_
                      clear hK K
                      refine skipOp (i := 10) rfl (by kernel_rfl) (by kernel_rfl) (by kernel_rfl) (fun _ _ _ h => h) (by kernel_rfl) ?_
                      refine skipOp (i := 11) rfl (by kernel_rfl) (by kernel_rfl) (by kernel_rfl) (fun _ _ _ h => h) (by kernel_rfl) ?_
                      refine skipOp (i := 12) rfl (by kernel_rfl) (by kernel_rfl) (by kernel_rfl) (fun _ _ _ h => h) (by kernel_rfl) ?_
                      refine skipOp (i := 13) rfl (by kernel_rfl) (by kernel_rfl) (by kernel_rfl) (fun _ _ _ h => h) (by kernel_rfl) ?_
                      refine skipOp (i := 14) rfl (by kernel_rfl) (by kernel_rfl) (by kernel_rfl) (fun _ _ _ h => h) (by kernel_rfl) ?_
                      refine skipOp (i := 15) rfl (by kernel_rfl) (by kernel_rfl) (by kernel_rfl) (fun _ _ _ h => h) (by kernel_rfl) ?_
                      refine skipOp (i := 16) rfl (by kernel_rfl) (by kernel_rfl) (by kernel_rfl) (fun _ _ _ h => h) (by kernel_rfl) ?_
                      refine skipOp (i := 17) rfl (by kernel_rfl) (by kernel_rfl) (by kernel_rfl) (fun _ _ _ h => h) (by kernel_rfl) ?_
                      refine skipOp (i := 18) rfl (by kernel_rfl) (by kernel_rfl) (by kernel_rfl) (fun _ _ _ h => h) (by kernel_rfl) ?_
                      refine wpAny_ready (rs := [19]) (by kernel_rfl) (by simp) ?_
                      refine AllReady.cons rfl (fun K hK => ?_) AllReady.nil
                      go_simp
                      refine hK _ _ ?_
                      clear hK K
                      refine wpAny_done (by kernel_rfl) ?_ _
                      go_wp2
                      exact ⟨⟨j + 1, true, by omega, by go_num, rfl, fun _ => rfl, fun _ => rfl, S21⟩, by simp [intOf]; omega⟩
                    · go_simp
                      refine hK _ _ ?_
                      clear hK K
                      refine takeOp (i := 6) (v := ?_) rfl (by kernel_rfl) (by kernel_rfl) (by kernel_rfl) (fun _ _ _ h => h) (by kernel_rfl) ?_ ?_
                      rotate_left
                      · intro w; go_simp; try with_reducible rfl
                      refine wpAny_ready (rs := [0]) (by kernel_rfl) (by simp) ?_
                      refine AllReady.cons rfl (fun K hK => ?_) AllReady.nil
                      go_simp
                      refine hK _ _ ?_
                      clear hK K
                      refine wpAny_ready (rs := [7]) (by kernel_rfl) (by simp) ?_
                      refine AllReady.cons rfl (fun K hK => ?_) AllReady.nil
                      go_wp2_with (go_at_call 23; refine (HH1.out _ (Good.drew (HD.out _))).mono ?_; rintro y w9 ⟨rfl, S21⟩; refine Hid.out ?_)
                      refine (show ∀ {p : Prop}, p → Hid p from fun h => h) ?_
                      try refine hK _ _ ?_
                      clear hK K
                      refine wpAny_ready (rs := [8]) (by kernel_rfl) (by simp) ?_
                      refine AllReady.cons rfl (fun K hK => ?_) AllReady.nil
                      go_simp
                      refine hK _ _ ?_
                      clear hK K
                      refine wpAny_ready (rs := [9]) (by kernel_rfl) (by simp) ?_
                      refine AllReady.cons rfl (fun K hK => ?_) AllReady.nil
                      go_simp
                      refine hK _ _ ?_
                      clear hK K
                      refine skipOp (i := 10) rfl (by kernel_rfl) (by kernel_rfl) (by kernel_rfl) (fun _ _ _ h => h) (by kernel_rfl) ?_
                      refine skipOp (i := 11) rfl (by kernel_rfl) (by kernel_rfl) (by kernel_rfl) (fun _ _ _ h => h) (by kernel_rfl) ?_
                      refine skipOp (i := 12) rfl (by kernel_rfl) (by kernel_rfl) (by kernel_rfl) (fun _ _ _ h => h) (by kernel_rfl) ?_
                      refine skipOp (i := 13) rfl (by kernel_rfl) (by kernel_rfl) (by kernel_rfl) (fun _ _ _ h => h) (by kernel_rfl) ?_
                      refine skipOp (i := 14) rfl (by kernel_rfl) (by kernel_rfl) (by kernel_rfl) (fun _ _ _ h => h) (by kernel_rfl) ?_
                      refine skipOp (i := 15) rfl (by kernel_rfl) (by kernel_rfl) (by kernel_rfl) (fun _ _ _ h => h) (by kernel_rfl) ?_
                      refine skipOp (i := 16) rfl (by kernel_rfl) (by kernel_rfl) (by kernel_rfl) (fun _ _ _ h => h) (by kernel_rfl) ?_
                      refine skipOp (i := 17) rfl (by kernel_rfl) (by kernel_rfl) (by kernel_rfl) (fun _ _ _ h => h) (by kernel_rfl) ?_
                      refine skipOp (i := 18) rfl (by kernel_rfl) (by kernel_rfl) (by kernel_rfl) (fun _ _ _ h => h) (by kernel_rfl) ?_
                      refine wpAny_ready (rs := [19]) (by kernel_rfl) (by simp) ?_
                      refine AllReady.cons rfl (fun K hK => ?_) AllReady.nil
                      go_simp
                      refine hK _ _ ?_
                      clear hK K
                      refine wpAny_done (by kernel_rfl) ?_ _
                      go_wp2
                      exact ⟨⟨j + 1, true, by omega, by go_num, rfl, fun _ => rfl, fun _ => rfl, S21⟩, by simp [intOf]; omega⟩
                | false =>
                  have HH1 := hideIt (fun u hu => HHs.out u hu ((v : Int), x))
                  rw [hh] at HH1
                  dsimp only at HH1
                  have HH2 := hideIt (fun u hu => HHs.out u hu (x, (v : Int)))
                  have hh2 : hasB es (x, (v : Int)) = true := by
                    rcases HO.out with h | h
                    · rw [hh] at h; cases h
                    · exact h
                  rw [hh2] at HH2
                  dsimp only at HH2
                  clear hh2
                  clear hh HHs HO
                  cases fb with
                  | true =>
                    go_wp2
                    go_quiet (fail)
                    go_wp2
                    go_region_held3 (fun u => Good w7 u ∧ u.cell? ⟨bn, on + j, none⟩ = some (.int .i64 x) ∧ (u.cell? ⟨w2.heap.size, 0, none⟩ = some (.int .i64 (ms : Int)) ∧ u.cell? ⟨w2.heap.size, 1, none⟩ = some (.slice a' m c')))
                      (first | exact ⟨S22, (HN.out _ S22).1, (HN.out _ S22).2.2⟩ | exact ⟨S21, (HN.out _ S21).1, (HN.out _ S21).2.2⟩ | exact ⟨Good.drew (HD.out _), (HN.out _ (Good.drew (HD.out _))).1, (HN.out _ (Good.drew (HD.out _))).2.2⟩)
                      (first | (go_at_call_of 23 (Value.agg #[Value.int IntKind.i64 x, Value.int IntKind.i64 (v : Int)]); refine (HH2.out _ S21).mono ?_; rintro y w10 ⟨rfl, S22⟩) | (go_at_call 23; refine (HH1.out _ (Good.drew (HD.out _))).mono ?_; rintro y w9 ⟨rfl, S21⟩))
                    all_goals
                      go_wp2
                      exact ⟨⟨j + 1, true, by omega, by go_num, rfl, fun _ => rfl, fun _ => rfl, S22⟩, by simp [intOf]; omega⟩
                  | false =>
                    go_wp2
                    go_quiet (fail)
                    go_wp2
                    go_region_held3 (fun u => Good w7 u ∧ u.cell? ⟨bn, on + j, none⟩ = some (.int .i64 x) ∧ (u.cell? ⟨w2.heap.size, 0, none⟩ = some (.int .i64 (ms : Int)) ∧ u.cell? ⟨w2.heap.size, 1, none⟩ = some (.slice a' m c')))
                      (first | exact ⟨S22, (HN.out _ S22).1, (HN.out _ S22).2.2⟩ | exact ⟨S21, (HN.out _ S21).1, (HN.out _ S21).2.2⟩ | exact ⟨Good.drew (HD.out _), (HN.out _ (Good.drew (HD.out _))).1, (HN.out _ (Good.drew (HD.out _))).2.2⟩)
                      (first | (go_at_call_of 23 (Value.agg #[Value.int IntKind.i64 x, Value.int IntKind.i64 (v : Int)]); refine (HH2.out _ S21).mono ?_; rintro y w10 ⟨rfl, S22⟩) | (go_at_call 23; refine (HH1.out _ (Good.drew (HD.out _))).mono ?_; rintro y w9 ⟨rfl, S21⟩))
                    all_goals
                      go_wp2
                      exact ⟨⟨j + 1, true, by omega, by go_num, rfl, fun _ => rfl, fun _ => rfl, S22⟩, by simp [intOf]; omega⟩
            · obtain rfl : j = mn := by omega
              have hfb : fb = true := by
                by_cases h0 : j = 0
                · subst h0
                  exact hf2.out (HAl.out (List.length_eq_zero_iff.1 hmn))
                · exact hf1.out (by omega)
              subst hfb
              obtain ⟨e0, e1, e2, e3⟩ := HLc.out wr hg8
              have dv : decide ((v : Int) < lv) = false := decide_eq_false (by omega)
              have dl : (lv != lv) = false := by simp
              have HD : Hid (∀ q, Good w6 (wr.drewN q)) := fun q => G7.up (below_drewN hg8 q)
              clear hf1 hf2
              go_wp2
              go_quiet (fail)
              go_wp2
              exact ⟨⟨v + 1, by omega, by go_num, HD.out _⟩, by simp [intOf]; omega⟩
        · clear LS
          go_wp2
          go_ret
          exact ⟨rfl, HB6.out.trans (Below.mono hg HB6.out.size)⟩
end Go.Proofs.Ytfkoddhojcjohaa
