/- What the laws of chapter 6 that answer lists share. The specification's VertsOf. The specification's ForestOk. The specification's TreeOf and SizeOf. The specification's WebOk. The specification's WebLabels and WebTogether. -/
import Derived.Test.YtpfkfbmghddepaaGreatKSplit
import Derived.Test.YtpfkfbmghddepaaGreatKIFa9
import Derived.Test.YtpfkfbmghddepaaGreatKFB7
import Derived.Test.YtpfkfbmghddepaaGreatKLd9
import Derived.Test.YtpfkfbmghddepaaGreatKLk7
import Derived.Test.YtpfkfbmghddepaaGreatKWb9
import Derived.Test.YtpfkfbmghddepaaGreatKSGr9
import Derived.Test.YtpfkfbmghddepaaGreatKILb9
namespace Go.Proofs.YtpfkfbmghddepaaGreat
open Go.RowKit

theorem tans_G {F : Nat} {args : Array Value} {o : Option (List Int)} {u : World} (H : Calls Tryz.prog F args u (TAns u o)) :
    Calls Tryz.prog F args u fun e v => ∃ aw mw cw, e = .returned (.tuple #[.slice aw mw cw, .bool o.isSome]) ∧ RBox v u.heap.size v.heap.size aw mw cw (o.getD []) ∧ Below u.heap.size u v :=
  H.mono fun _ _ ⟨aw, mw, cw, he, ho, hb⟩ => ⟨aw, mw, cw, he, RBox.laid ho, hb⟩
theorem Good.rng {w u v : World} {lo hi : Nat} (h : Good w u) (hr : Rng lo hi u v) (hl : w.heap.size ≤ lo) : Good w v := Below.trans h (hr.below hl h.size)
end Go.Proofs.YtpfkfbmghddepaaGreat
namespace Go.Proofs.YtpfkfbmghddepaaGreat
open Go.RowKit

set_option maxRecDepth 100000 in
set_option maxHeartbeats 2000000 in
theorem sVertsOf_any (t : List Int) (n : Nat) (a : Option Addr) (c : Nat) (hn : n ≤ 3000000) (w : World) (h : Is w w.heap.size a n t) :
    Calls Tryz.prog 82 #[.slice a n c] w fun e w' => ∃ a' m c', e = .returned (.slice a' m c') ∧ w'.ownsRow w.heap.size 3 1 (.slice a' m c') m (ic (vsL t)) ∧ Below w.heap.size w w' := by
  obtain ⟨i0, hi, hz0, hz1, hz2⟩ := info_parts info3i
  have HIn := hideIt (fun y x (hx : Below w.heap.size w x) => l05In_any t y n a c hn x (h.up hx))
  have S0 := ISt.start w
  clear h
  go_enter Tryz.func82, Tryz.ntmps82
  go_wp2
  go_loopw [3, 4] (fun r i wr => ∃ (k m c1 : Nat) (a1 : Option Addr), k ≤ 12 ∧ m ≤ k ∧ i = .int .i64 (k : Int) ∧ r = .slice a1 m c1 ∧ ISt w a1 m c1 (vsK t k) wr) (fun _ i _ => 12 - (intOf i).toNat)
  case atStart => exact ⟨0, 0, 0, _, by omega, by omega, rfl, rfl, by rw [vsK_zero]; exact S0⟩
  case round =>
    obtain ⟨k, m, c1, a1, hk, hmk, rfl, rfl, hst⟩ := hrel
    clear S0
    by_cases hlt : k < 12
    · have b1 : (0 : Int) ≤ (k : Int) := by omega
      have b2 : (k : Int) < 12 := by omega
      have HN := hideIt (HIn.out (k : Int) wr hst.bel)
      have z1 := hst.size
      have HST := hideIt hst
      by_cases hx : (k : Int) ∈ t
      · rw [decide_eq_true hx] at HN
        have HV := hideIt (vsK_yes hx)
        clear hx hst
        go_wp2_with (first | (go_at_call 93; refine HN.out.mono ?_; rintro e w3 ⟨rfl, hw⟩; have hw' := hw.symm; subst hw'; clear hw) | (at_builtin; refine wpList_append_own _ rfl _ _ 44 rfl w.heap.size 3 i0 _ 1 8 Tryz.underlying44 hi hz0 hz1 hz2 rfl (by decide) _ _ _ rfl (HST.out.own.alloc _) ⟨wr.heap.size, 0, none⟩ 1 1 [.int .i64 (k : Int)] rfl rfl (newsI wr (k : Int)) (by intro u hu; simp at hu; subst hu; rfl) (by unfold maxLen; omega) (by omega) (by simp; omega) ?_))
        intro v5 w5 hown5 hg5 _
        obtain ⟨a5, c5, rfl, S5⟩ := HST.out.app hown5 hg5
        clear hown5 hg5 HST
        go_wp2
        exact ⟨⟨k + 1, m + 1, c5, a5, by omega, by omega, by go_num, rfl, by rw [HV.out]; exact S5⟩, by simp [intOf]; omega⟩
      · rw [decide_eq_false hx] at HN
        have HV := hideIt (vsK_no hx)
        clear hx hst
        go_wp2_with (go_at_call 93; refine HN.out.mono ?_; rintro e w3 ⟨rfl, hw⟩; have hw' := hw.symm; subst hw'; clear hw)
        exact ⟨⟨k + 1, m, c1, a1, by omega, by omega, by go_num, rfl, by rw [HV.out]; exact HST.out⟩, by simp [intOf]; omega⟩
    · obtain rfl : k = 12 := by omega
      have HST := hideIt hst
      clear hst
      go_wp2
      go_ret
      exact ⟨a1, m, c1, rfl, HST.out.own, HST.out.bel⟩
theorem vans_G {F : Nat} {args : Array Value} {ls : List Int} {u : World} (H : Calls Tryz.prog F args u fun e w' => ∃ a' m c', e = .returned (.slice a' m c') ∧ w'.ownsRow u.heap.size 3 1 (.slice a' m c') m (ic ls) ∧ Below u.heap.size u w') :
    Calls Tryz.prog F args u fun e v => ∃ aw mw cw, e = .returned (.slice aw mw cw) ∧ RBox v u.heap.size v.heap.size aw mw cw ls ∧ Below u.heap.size u v :=
  H.mono fun _ _ ⟨aw, mw, cw, he, ho, hb⟩ => ⟨aw, mw, cw, he, RBox.laid ho, hb⟩
end Go.Proofs.YtpfkfbmghddepaaGreat
namespace Go.Proofs.YtpfkfbmghddepaaGreat
open Go.RowKit

theorem vs_first {t : List Int} (hB : tB t = true) : (vsL t)[0]? = some (mnV t) := by
  have h := vs_pos hB
  have hx : (vsL t)[0]? = some ((vsL t)[0]'h) := List.getElem?_eq_getElem h
  rw [hx, mn_first hx]
theorem Is.at {w : World} {B b off n : Nat} {ls : List Int} (h : Is w B (some ⟨b, off, none⟩) n ls) {j : Nat} {x : Int} (hx : ls[j]? = some x) : w.cell? ⟨b, off + j, none⟩ = some (.int .i64 x) := by
  have hj := (List.getElem?_eq_some_iff.1 hx).1
  have hn := h.1
  rcases h.2 with h0 | ⟨b', off', hb, _, hc⟩
  · omega
  · simp at hb
    obtain ⟨rfl, rfl⟩ := hb
    exact hc j x hx
/-- a list that is not empty stands somewhere -/
theorem own_some {u : World} {B m c : Nat} {a : Option Addr} {xs : List Value} (h : u.ownsRow B 3 1 (.slice a m c) m xs) (hm : 0 < m) : ∃ g, a = some ⟨g, 0, none⟩ ∧ g < u.heap.size ∧ B ≤ g := by
  rcases h.2 with ⟨_, h0⟩ | ⟨g, cap, cur, hv, hrest⟩
  · omega
  · simp at hv
    obtain ⟨rfl, rfl⟩ := hv
    exact ⟨g, rfl, (h.lt g rfl).2, (h.lt g rfl).1⟩

/-- the first of a right tour's vertices -/
theorem vertsFirst {w2 : World} {q : List Int} (hB : tB q = true) (y : Option Addr) (cy : Nat) (hfq : q.length ≤ 3000000) (u : World) (hu : Good w2 u) (h : Is u u.heap.size y q.length q) :
    Calls Tryz.prog 82 #[.slice y q.length cy] u fun e v => ∃ g3 m3 c3, e = .returned (.slice (some ⟨g3, 0, none⟩) m3 c3) ∧ 0 < m3 ∧ v.cell? ⟨g3, 0, none⟩ = some (.int .i64 (mnV q)) ∧ Good w2 v :=
  (sVertsOf_any q q.length y cy hfq u h).mono fun e v ⟨a3, m3, c3, he, ho, hb⟩ => by
    have hm : (vsL q).length = m3 := by have := ho.1; rw [ic_len] at this; omega
    have hp : 0 < m3 := by have := vs_pos hB; omega
    obtain ⟨g, rfl, _, _⟩ := own_some ho hp
    exact ⟨g, m3, c3, he, hp, by rw [ho.cellAt 0 (by omega)]; exact ic_at (vs_first hB), hu.up hb⟩

set_option maxRecDepth 100000 in
set_option maxHeartbeats 8000000 in
theorem sForestOk_any (N : Int) (ts : List (List Int)) (n : Nat) (a : Option Addr) (c : Nat) (hn : n + lnS ts ≤ 1048576) (w : World) (h : Ts w w.heap.size a n ts) :
    Calls Tryz.prog 33 #[.agg #[.int .i64 N, .slice a n c]] w fun e w' => ∃ b, e = .returned (.bool b) ∧ (b = true ↔ FP N ts) ∧ Below w.heap.size w w' := by
  have b0 : Good w (w.alloc (.cells #[.int .i64 N, .slice a n c] 57)) := (Good.refl w).alloc _
  have HI := hideIt l01In_any
  have hlen := h.1
  have HA := hideIt (h.up b0)
  have HB0 := hideIt b0
  clear h b0
  by_cases h1 : 1 ≤ N ∧ N ≤ 12
  · have r1 : decide (1 ≤ N ∧ N ≤ 12) = true := decide_eq_true h1
    obtain ⟨h11, h12⟩ := h1
    by_cases hn12 : n ≤ 12
    · have r2 : decide (12 < (n : Int)) = false := decide_eq_false (by omega)
      have HC0 : Hid (∀ u, Good (w.alloc (.cells #[.int .i64 N, .slice a n c] 57)) u → u.cell? ⟨w.heap.size, 0, none⟩ = some (.int .i64 N) ∧ u.cell? ⟨w.heap.size, 1, none⟩ = some (.slice a n c)) := fun u hu => ⟨by rw [hu.cell (by simp)]; simp, by rw [hu.cell (by simp)]; simp⟩
      go_enter Tryz.func33, Tryz.ntmps33
      go_wp2_with (go_at_call 80; refine (HI.out _ _ _ _).mono ?_; rintro e w1 ⟨rfl, hw⟩; have hw' := hw.symm; subst hw'; clear hw)
      go_loopw [3, 4, 5] (fun al i _v wr => ∃ k s : Nat, k ≤ n ∧ s ≤ 12 * k ∧ i = .int .i64 (k : Int) ∧ al = .int .i64 (s : Int) ∧ Hid (s = cntV ts k) ∧ Hid (∀ j, j < k → FAt N ts j) ∧ Good (w.alloc (.cells #[.int .i64 N, .slice a n c] 57)) wr) (fun _ i _ _ => n - (intOf i).toNat)
      case atStart => exact ⟨0, 0, by omega, by omega, rfl, rfl, by show _ = _; rw [cntV_zero], fun j hj => by omega, Good.refl _⟩
      case round =>
        obtain ⟨k, s, hk, hsk, rfl, rfl, HS, HK, hg⟩ := hrel
        obtain ⟨k0, k1⟩ := HC0.out wr hg
        have HG := hideIt hg
        by_cases hlt : k < n
        · rcases (HA.out.up hg).2 with hz | ⟨b, off, rfl, hbl, hc⟩
          · omega
          · obtain ⟨t, ht⟩ : ∃ t, ts[k]? = some t := ⟨ts[k]'(by omega), List.getElem?_eq_getElem (by omega)⟩
            obtain ⟨x, cx, e0, iI, _⟩ := hc k t ht
            have hfit : t.length ≤ 3000000 := by have := lnS_mem (List.mem_of_getElem? ht); omega
            have b1 : (0 : Int) ≤ (k : Int) := by omega
            have b2 : (k : Int) < (n : Int) := by omega
            have HTO := hideIt (sTourOk_any t t.length x cx hfit wr iI)
            have HIx := hideIt iI
            have HCt := hideIt hc
            cases hB : tB t with
            | false =>
              rw [hB] at HTO
              have HN : Hid (¬ FP N ts) := fun hp => by have := (hp.2.2.2.1 k t ht).1; rw [hB] at this; cases this
              clear hc ht iI hB HK HS
              go_wp2_with (go_at_call 92; refine HTO.out.mono ?_; rintro e w1 ⟨rfl, hb1⟩)
              go_ret
              exact ⟨false, rfl, ⟨fun h => (by cases h), fun h => absurd h HN.out⟩, HB0.out.up (HG.out.up hb1)⟩
            | true =>
              rw [hB] at HTO
              have HBt := hideIt hB
              have HT := hideIt ht
              clear hc ht iI hB
              go_wp2_with (go_at_call 92; refine HTO.out.mono ?_; rintro e w1 ⟨rfl, hb1⟩; refine Hid.out ?_)
              refine (show ∀ {p : Prop}, p → Hid p from fun h => h) ?_
              have hb1 : Good wr w1 := hb1
              have HG1 := hideIt (HG.out.up hb1)
              have e1 : w1.cell? ⟨b, off + k, none⟩ = some (.slice x t.length cx) := by rw [hb1.cell hbl]; exact e0
              obtain ⟨k2, k3⟩ := HC0.out w1 HG1.out
              have HV := hideIt (sVertsOf_any t t.length x cx hfit w1 (HIx.out.up hb1))
              have HCt1 : Hid (∀ u, Good w1 u → ∀ (j : Nat) (q : List Int), ts[j]? = some q → ∃ (a' : Option Addr) (c' : Nat), u.cell? ⟨b, off + j, none⟩ = some (.slice a' q.length c') ∧ Is u u.heap.size a' q.length q ∧ q.length ≤ c') := fun u hu j q hq => by
                obtain ⟨a', c', p1, p2, p3⟩ := HCt.out j q hq
                have hu2 := hb1.up hu
                exact ⟨a', c', by rw [hu2.cell hbl]; exact p1, p2.up hu2, p3⟩
              have hbl1 : b < w1.heap.size := Nat.lt_of_lt_of_le hbl hb1.size
              clear HTO k0 k1 e0 HCt HIx hb1
              go_wp2_with (go_at_call 82; refine HV.out.mono ?_; rintro e w2 ⟨a2, m2, c2, rfl, ho, hb2⟩; refine Hid.out ?_)
              refine (show ∀ {p : Prop}, p → Hid p from fun h => h) ?_
              have hb2 : Good w1 w2 := hb2
              have hm2 : (vsL t).length = m2 := by have := ho.1; rw [ic_len] at this; omega
              have hp2 : 0 < m2 := by have := vs_pos HBt.out; omega
              have hl2 : m2 ≤ 12 := by have := vsL_len t; omega
              obtain ⟨g, rfl, hgl, hgw⟩ := own_some ho hp2
              have HO := hideIt ho
              have HG2 := hideIt (HG1.out.up hb2)
              have HM2 := hideIt hm2
              have HCr : Hid (∀ u, Good w2 u → ∀ (j : Nat) (y : Int), (vsL t)[j]? = some y → u.cell? ⟨g, j, none⟩ = some (.int .i64 y)) := fun u hu j y hy => by
                rw [hu.cell hgl, HO.out.cellAt j (by have := (List.getElem?_eq_some_iff.1 hy).1; omega)]
                exact ic_at hy
              have HCt2 : Hid (∀ u, Good w2 u → ∀ (j : Nat) (q : List Int), ts[j]? = some q → ∃ (a' : Option Addr) (c' : Nat), u.cell? ⟨b, off + j, none⟩ = some (.slice a' q.length c') ∧ Is u u.heap.size a' q.length q ∧ q.length ≤ c') := fun u hu j q hq => HCt1.out u (hb2.up hu) j q hq
              obtain ⟨lst, hlst⟩ : ∃ y, (vsL t)[(vsL t).length - 1]? = some y := ⟨(vsL t)[(vsL t).length - 1]'(by omega), List.getElem?_eq_getElem _⟩
              have HLst := hideIt (vs_last HBt.out (N := N) hlst)
              have l0 := HCr.out w2 (Good.refl w2) _ _ hlst
              rw [hm2] at l0
              have f0 := HCr.out w2 (Good.refl w2) _ _ (vs_first HBt.out)
              obtain ⟨k4, k5⟩ := HC0.out w2 HG2.out
              have x1 : (0 : Int) ≤ (m2 : Int) - 1 := by omega
              have x1b : (1 : Int) ≤ (m2 : Int) := by omega
              have x2 : (m2 : Int) - 1 < (m2 : Int) := by omega
              have x3 : ((m2 : Int) - 1).toNat = m2 - 1 := by omega
              have hbl2 : b < w2.heap.size := Nat.lt_of_lt_of_le hbl1 hb2.size
              clear HV k2 k3 e1 HCt1 ho hb2 hm2 hlst HG HG1
              by_cases hL : lst < N
              · have d1 : decide (N ≤ lst) = false := decide_eq_false (by omega)
                have HLt := hideIt (HLst.out.2 hL)
                clear HLst hL
                have x0 : (0 : Int) < (m2 : Int) := by omega
                rcases k with _ | i
                · have HLess : Hid (∀ j q, j + 1 = 0 → ts[j]? = some q → mnV q < mnV t) := fun j q hj => by omega
                  go_upto_region 11 with fail
                  go_quiet (fail)
                  go_wp2
                  refine wp_loop_rounds 1 ?_
                  rw [rounds_succ]
                  go_wp2
                  refine ⟨⟨1, m2, by omega, by omega, by go_num, by have := HS.out; rw [cntV_zero] at this; subst this; go_num, ?_, fun j hj => ?_, below_drewN HG2.out _⟩, by simp [intOf]; omega⟩
                  · show _ = _
                    rw [cntV_succ HT.out, cntV_zero, HM2.out]
                    omega
                  · obtain rfl : j = 0 := by omega
                    intro t' ht'
                    rw [HT.out] at ht'
                    cases ht'
                    exact ⟨HBt.out, HLt.out, HLess.out, fun q s' hq => by omega⟩
                · obtain ⟨q, hq⟩ : ∃ q, ts[i]? = some q := ⟨ts[i]'(by omega), List.getElem?_eq_getElem (by omega)⟩
                  obtain ⟨y, cy, e1, iQ, _⟩ := HCt2.out w2 (Good.refl w2) i q hq
                  have hBq := (HK.out i (by omega) q hq).1
                  have hfq : q.length ≤ 3000000 := by have := lnS_mem (List.mem_of_getElem? hq); omega
                  have HVq := hideIt (fun u (hu : Good w2 u) => vertsFirst (w2 := w2) hBq y cy hfq u hu (iQ.up hu))
                  have HCS : Hid (∀ u, Good w2 u → (u.cell? ⟨w.heap.size, 0, none⟩ = some (.int .i64 N) ∧ u.cell? ⟨w.heap.size, 1, none⟩ = some (.slice (some ⟨b, off, none⟩) n c)) ∧ (u.cell? ⟨g, m2 - 1, none⟩ = some (.int .i64 lst) ∧ u.cell? ⟨g, 0, none⟩ = some (.int .i64 (mnV t))) ∧ u.cell? ⟨b, off + i, none⟩ = some (.slice y q.length cy)) := fun u hu =>
                    ⟨HC0.out u (HG2.out.up hu), ⟨by rw [hu.cell hgl]; exact l0, by rw [hu.cell hgl]; exact f0⟩, by rw [hu.cell hbl2]; exact e1⟩
                  have hbd := (Good.refl w2).drew
                  have hS0 := HCS.out _ hbd
                  have ek : ((i + 1 : Nat) : Int) = (i : Int) + 1 := by omega
                  rw [ek] at b1 b2
                  have b3 : (0 : Int) ≤ (i : Int) := by omega
                  have b4 : (i : Int) < (n : Int) := by omega
                  have tn : ((i : Int) + 1).toNat = i + 1 := by omega
                  have d0 : decide ((0 : Int) < (i : Int) + 1) = true := decide_eq_true (by omega)
                  have hw1 : IntKind.i64.wrap (i : Int) = (i : Int) := by rw [IntKind.wrap_i64]; omega
                  have hw2 : IntKind.i64.wrap ((m2 : Int) - 1) = (m2 : Int) - 1 := by rw [IntKind.wrap_i64]; omega
                  rw [ek]
                  have HQ := hideIt hq
                  by_cases hLess : mnV q < mnV t
                  · have d2 : decide (mnV t ≤ mnV q) = false := decide_eq_false (by omega)
                    have HLess := hideIt hLess
                    clear ek hq hBq iQ k4 k5 l0 f0 e1 hLess
                    go_upto_region 11 with fail
                    refine wp_region_held_drew (S := (fun u => (u.cell? ⟨w.heap.size, 0, none⟩ = some (.int .i64 N) ∧ u.cell? ⟨w.heap.size, 1, none⟩ = some (.slice (some ⟨b, off, none⟩) n c)) ∧ (u.cell? ⟨g, m2 - 1, none⟩ = some (.int .i64 lst) ∧ u.cell? ⟨g, 0, none⟩ = some (.int .i64 (mnV t))) ∧ u.cell? ⟨b, off + i, none⟩ = some (.slice y q.length cy))) (by kernel_rfl) hS0 (fun hHeld => ?_)
                    refine wpAnyH_take (i := 0) (v := ?_) rfl (by kernel_rfl) (by kernel_rfl) (by kernel_rfl) (fun _ _ _ h => h) (Or.inl ⟨by rfl, ?_⟩) (by assumption) ?_
                    rotate_left
                    · intro w hSw; (try dsimp only at hSw); go_simp; try with_reducible rfl
                    try simp only [Act.put, List.getElem_toArray, List.getElem_cons_zero, List.setIfInBounds_toArray, List.set_cons_zero, List.set_cons_succ]
                    refine wpAnyH_take (i := 1) (v := ?_) rfl (by kernel_rfl) (by kernel_rfl) (by kernel_rfl) (fun _ _ _ h => h) (Or.inl ⟨by rfl, ?_⟩) (by assumption) ?_
                    rotate_left
                    · intro w hSw; (try dsimp only at hSw); go_simp; try with_reducible rfl
                    try simp only [Act.put, List.getElem_toArray, List.getElem_cons_succ, List.getElem_cons_zero, List.setIfInBounds_toArray, List.set_cons_zero, List.set_cons_succ]
                    refine wpAnyH_take (i := 2) (v := ?_) rfl (by kernel_rfl) (by kernel_rfl) (by kernel_rfl) (fun _ _ _ h => h) (Or.inl ⟨by rfl, ?_⟩) (by assumption) ?_
                    rotate_left
                    · intro w hSw; (try dsimp only at hSw); go_simp; try with_reducible rfl
                    try simp only [Act.put, List.getElem_toArray, List.getElem_cons_succ, List.getElem_cons_zero, List.setIfInBounds_toArray, List.set_cons_zero, List.set_cons_succ]
                    refine wpAnyH_take (i := 3) (v := ?_) rfl (by kernel_rfl) (by kernel_rfl) (by kernel_rfl) (fun _ _ _ h => h) (Or.inl ⟨by rfl, ?_⟩) (by assumption) ?_
                    rotate_left
                    · intro w hSw; (try dsimp only at hSw); go_simp; try with_reducible rfl
                    try simp only [Act.put, List.getElem_toArray, List.getElem_cons_succ, List.getElem_cons_zero, List.setIfInBounds_toArray, List.set_cons_zero, List.set_cons_succ]
                    refine wpAnyH_take (i := 4) (v := ?_) rfl (by kernel_rfl) (by kernel_rfl) (by kernel_rfl) (fun _ _ _ h => h) (Or.inl ⟨by rfl, ?_⟩) (by assumption) ?_
                    rotate_left
                    · intro w hSw; (try dsimp only at hSw); go_simp; try with_reducible rfl
                    try simp only [Act.put, List.getElem_toArray, List.getElem_cons_succ, List.getElem_cons_zero, List.setIfInBounds_toArray, List.set_cons_zero, List.set_cons_succ]
                    refine wpAnyH_take (i := 5) (v := ?_) rfl (by kernel_rfl) (by kernel_rfl) (by kernel_rfl) (fun _ _ _ h => h) (Or.inl ⟨by rfl, ?_⟩) (by assumption) ?_
                    rotate_left
                    · intro w hSw; (try dsimp only at hSw); go_simp; try with_reducible rfl
                    try simp only [Act.put, List.getElem_toArray, List.getElem_cons_succ, List.getElem_cons_zero, List.setIfInBounds_toArray, List.set_cons_zero, List.set_cons_succ]
                    refine wpAnyH_take (i := 6) (v := ?_) rfl (by kernel_rfl) (by kernel_rfl) (by kernel_rfl) (fun _ _ _ h => h) (Or.inl ⟨by rfl, ?_⟩) (by assumption) ?_
                    rotate_left
                    · intro w hSw; (try dsimp only at hSw); go_simp; try with_reducible rfl
                    try simp only [Act.put, List.getElem_toArray, List.getElem_cons_succ, List.getElem_cons_zero, List.setIfInBounds_toArray, List.set_cons_zero, List.set_cons_succ]
                    refine wpAnyH_take (i := 7) (v := ?_) rfl (by kernel_rfl) (by kernel_rfl) (by kernel_rfl) (fun _ _ _ h => h) (Or.inl ⟨by rfl, ?_⟩) (by assumption) ?_
                    rotate_left
                    · intro w hSw; (try dsimp only at hSw); go_simp; try with_reducible rfl
                    try simp only [Act.put, List.getElem_toArray, List.getElem_cons_succ, List.getElem_cons_zero, List.setIfInBounds_toArray, List.set_cons_zero, List.set_cons_succ]
                    refine wpAnyH_take (i := 8) (v := ?_) rfl (by kernel_rfl) (by kernel_rfl) (by kernel_rfl) (fun _ _ _ h => h) (Or.inl ⟨by rfl, ?_⟩) (by assumption) ?_
                    rotate_left
                    · intro w hSw; (try dsimp only at hSw); go_simp; try with_reducible rfl
                    try simp only [Act.put, List.getElem_toArray, List.getElem_cons_succ, List.getElem_cons_zero, List.setIfInBounds_toArray, List.set_cons_zero, List.set_cons_succ]
                    refine wpAnyH_take (i := 9) (v := ?_) rfl (by kernel_rfl) (by kernel_rfl) (by kernel_rfl) (fun _ _ _ h => h) (Or.inl ⟨by rfl, ?_⟩) (by assumption) ?_
                    rotate_left
                    · intro w hSw; (try dsimp only at hSw); go_simp; try with_reducible rfl
                    try simp only [Act.put, List.getElem_toArray, List.getElem_cons_succ, List.getElem_cons_zero, List.setIfInBounds_toArray, List.set_cons_zero, List.set_cons_succ]
                    refine wpAnyH_take (i := 10) (v := ?_) rfl (by kernel_rfl) (by kernel_rfl) (by kernel_rfl) (fun _ _ _ h => h) (Or.inl ⟨by rfl, ?_⟩) (by assumption) ?_
                    rotate_left
                    · intro w hSw; (try dsimp only at hSw); go_simp; try with_reducible rfl
                    try simp only [Act.put, List.getElem_toArray, List.getElem_cons_succ, List.getElem_cons_zero, List.setIfInBounds_toArray, List.set_cons_zero, List.set_cons_succ]
                    refine wpAnyH_take (i := 11) (v := ?_) rfl (by kernel_rfl) (by kernel_rfl) (by kernel_rfl) (fun _ _ _ h => h) (Or.inl ⟨by rfl, ?_⟩) (by assumption) ?_
                    rotate_left
                    · intro w hSw; (try dsimp only at hSw); go_simp; try with_reducible rfl
                    try simp only [Act.put, List.getElem_toArray, List.getElem_cons_succ, List.getElem_cons_zero, List.setIfInBounds_toArray, List.set_cons_zero, List.set_cons_succ]
                    refine wpAnyH_take (i := 12) (v := ?_) rfl (by kernel_rfl) (by kernel_rfl) (by kernel_rfl) (fun _ _ _ h => h) (Or.inl ⟨by rfl, ?_⟩) (by assumption) ?_
                    rotate_left
                    · intro w hSw; (try dsimp only at hSw); go_simp; try with_reducible rfl
                    try simp only [Act.put, List.getElem_toArray, List.getElem_cons_succ, List.getElem_cons_zero, List.setIfInBounds_toArray, List.set_cons_zero, List.set_cons_succ]
                    refine wpAnyH_take (i := 13) (v := ?_) rfl (by kernel_rfl) (by kernel_rfl) (by kernel_rfl) (fun _ _ _ h => h) (Or.inl ⟨by rfl, ?_⟩) (by assumption) ?_
                    rotate_left
                    · intro w hSw; (try dsimp only at hSw); go_simp; try with_reducible rfl
                    try simp only [Act.put, List.getElem_toArray, List.getElem_cons_succ, List.getElem_cons_zero, List.setIfInBounds_toArray, List.set_cons_zero, List.set_cons_succ]
                    refine wpAnyH_take (i := 14) (v := ?_) rfl (by kernel_rfl) (by kernel_rfl) (by kernel_rfl) (fun _ _ _ h => h) (Or.inl ⟨by rfl, ?_⟩) (by assumption) ?_
                    rotate_left
                    · intro w hSw; (try dsimp only at hSw); go_simp; try with_reducible rfl
                    try simp only [Act.put, List.getElem_toArray, List.getElem_cons_succ, List.getElem_cons_zero, List.setIfInBounds_toArray, List.set_cons_zero, List.set_cons_succ]
                    refine wpAnyH_take (i := 15) (v := ?_) rfl (by kernel_rfl) (by kernel_rfl) (by kernel_rfl) (fun _ _ _ h => h) (Or.inl ⟨by rfl, ?_⟩) (by assumption) ?_
                    rotate_left
                    · intro w hSw; (try dsimp only at hSw); go_simp; try with_reducible rfl
                    try simp only [Act.put, List.getElem_toArray, List.getElem_cons_succ, List.getElem_cons_zero, List.setIfInBounds_toArray, List.set_cons_zero, List.set_cons_succ]
                    refine wpAnyH_take (i := 16) (v := ?_) rfl (by kernel_rfl) (by kernel_rfl) (by kernel_rfl) (fun _ _ _ h => h) (Or.inl ⟨by rfl, ?_⟩) (by assumption) ?_
                    rotate_left
                    · intro w hSw; (try dsimp only at hSw); go_simp; try with_reducible rfl
                    try simp only [Act.put, List.getElem_toArray, List.getElem_cons_succ, List.getElem_cons_zero, List.setIfInBounds_toArray, List.set_cons_zero, List.set_cons_succ]
                    refine wpAnyH_take (i := 17) (v := ?_) rfl (by kernel_rfl) (by kernel_rfl) (by kernel_rfl) (fun _ _ _ h => h) (Or.inl ⟨by rfl, ?_⟩) (by assumption) ?_
                    rotate_left
                    · intro w hSw; (try dsimp only at hSw); go_simp; try with_reducible rfl
                    try simp only [Act.put, List.getElem_toArray, List.getElem_cons_succ, List.getElem_cons_zero, List.setIfInBounds_toArray, List.set_cons_zero, List.set_cons_succ]
                    refine wpAnyH_take (i := 18) (v := ?_) rfl (by kernel_rfl) (by kernel_rfl) (by kernel_rfl) (fun _ _ _ h => h) (Or.inl ⟨by rfl, ?_⟩) (by assumption) ?_
                    rotate_left
                    · intro w hSw; (try dsimp only at hSw); go_simp; try with_reducible rfl
                    try simp only [Act.put, List.getElem_toArray, List.getElem_cons_succ, List.getElem_cons_zero, List.setIfInBounds_toArray, List.set_cons_zero, List.set_cons_succ]
                    refine wpAnyH_take (i := 22) (v := ?_) rfl (by kernel_rfl) (by kernel_rfl) (by kernel_rfl) (fun _ _ _ h => h) (Or.inl ⟨by rfl, ?_⟩) (by assumption) ?_
                    rotate_left
                    · intro w hSw; (try dsimp only at hSw); go_simp; try with_reducible rfl
                    try simp only [Act.put, List.getElem_toArray, List.getElem_cons_succ, List.getElem_cons_zero, List.setIfInBounds_toArray, List.set_cons_zero, List.set_cons_succ]
                    refine wpAnyH_take (i := 23) (v := ?_) rfl (by kernel_rfl) (by kernel_rfl) (by kernel_rfl) (fun _ _ _ h => h) (Or.inl ⟨by rfl, ?_⟩) (by assumption) ?_
                    rotate_left
                    · intro w hSw; (try dsimp only at hSw); go_simp; try with_reducible rfl
                    try simp only [Act.put, List.getElem_toArray, List.getElem_cons_succ, List.getElem_cons_zero, List.setIfInBounds_toArray, List.set_cons_zero, List.set_cons_succ]
                    refine wpAnyH_take (i := 24) (v := ?_) rfl (by kernel_rfl) (by kernel_rfl) (by kernel_rfl) (fun _ _ _ h => h) (Or.inl ⟨by rfl, ?_⟩) (by assumption) ?_
                    rotate_left
                    · intro w hSw; (try dsimp only at hSw); go_simp; try with_reducible rfl
                    try simp only [Act.put, List.getElem_toArray, List.getElem_cons_succ, List.getElem_cons_zero, List.setIfInBounds_toArray, List.set_cons_zero, List.set_cons_succ]
                    refine wpAnyH_ready (rs := [19]) (by kernel_rfl) (by simp) ?_
                    refine AllReadyH.cons rfl (fun K hK => ?_) AllReadyH.nil
                    go_wp2_with (go_at_call 82; refine (HVq.out _ hbd).mono ?_; rintro e w3 ⟨g3, m3, c3, rfl, hp3, hc3, hg3⟩; have hS3 := HCS.out _ hg3; refine Hid.out ?_)
                    refine (show ∀ {p : Prop}, p → Hid p from fun h => h) ?_
                    refine hK.out _ _ hS3 (fun hHeld => ?_)
                    clear hK K
                    try simp only [Act.put, List.getElem_toArray, List.getElem_cons_succ, List.getElem_cons_zero, List.setIfInBounds_toArray, List.set_cons_zero, List.set_cons_succ]
                    refine wpAnyH_ready (rs := [20]) (by kernel_rfl) (by simp) ?_
                    refine AllReadyH.cons rfl (fun K hK => ?_) AllReadyH.nil
                    go_simp
                    refine hK.out _ _ (by assumption) (fun hHeld => ?_)
                    clear hK K
                    try simp only [Act.put, List.getElem_toArray, List.getElem_cons_succ, List.getElem_cons_zero, List.setIfInBounds_toArray, List.set_cons_zero, List.set_cons_succ]
                    refine wpAnyH_ready (rs := [21]) (by kernel_rfl) (by simp) ?_
                    refine AllReadyH.cons rfl (fun K hK => ?_) AllReadyH.nil
                    go_simp
                    refine hK.out _ _ (by assumption) (fun hHeld => ?_)
                    clear hK K
                    try simp only [Act.put, List.getElem_toArray, List.getElem_cons_succ, List.getElem_cons_zero, List.setIfInBounds_toArray, List.set_cons_zero, List.set_cons_succ]
                    refine wpAnyH_ready (rs := [25]) (by kernel_rfl) (by simp) ?_
                    refine AllReadyH.cons rfl (fun K hK => ?_) AllReadyH.nil
                    go_simp
                    refine hK.out _ _ (by assumption) (fun hHeld => ?_)
                    clear hK K
                    try simp only [Act.put, List.getElem_toArray, List.getElem_cons_succ, List.getElem_cons_zero, List.setIfInBounds_toArray, List.set_cons_zero, List.set_cons_succ]
                    refine wpAnyH_ready (rs := [26]) (by kernel_rfl) (by simp) ?_
                    refine AllReadyH.cons rfl (fun K hK => ?_) AllReadyH.nil
                    go_simp
                    refine hK.out _ _ (by assumption) (fun hHeld => ?_)
                    clear hK K
                    try simp only [Act.put, List.getElem_toArray, List.getElem_cons_succ, List.getElem_cons_zero, List.setIfInBounds_toArray, List.set_cons_zero, List.set_cons_succ]
                    refine wpAnyH_ready (rs := [27]) (by kernel_rfl) (by simp) ?_
                    refine AllReadyH.cons rfl (fun K hK => ?_) AllReadyH.nil
                    go_simp
                    refine hK.out _ _ (by assumption) (fun hHeld => ?_)
                    clear hK K
                    try simp only [Act.put, List.getElem_toArray, List.getElem_cons_succ, List.getElem_cons_zero, List.setIfInBounds_toArray, List.set_cons_zero, List.set_cons_succ]
                    refine wpAnyH_done (by kernel_rfl) ?_ _
                    have HG3 := hideIt hg3
                    clear HVq HCS hS0 hS3 hc3 hp3 hbd hg3
                    go_wp2
                    go_loopw [6] (fun p wq => ∃ p' : Nat, p' ≤ i + 1 ∧ p = .int .i64 (p' : Int) ∧ Hid (∀ j s', j < p' → ts[j]? = some s' → ∀ x ∈ t, x ∉ s') ∧ Good w2 wq) (fun p _ => i + 1 - (intOf p).toNat)
                    case atStart => exact ⟨0, by omega, rfl, fun j s' hj => by omega, HG3.out⟩
                    case round =>
                      obtain ⟨p, hp, rfl, HP, hgq⟩ := hrel
                      clear HG3
                      by_cases hpl : p < i + 1
                      · obtain ⟨s', hs'⟩ : ∃ s', ts[p]? = some s' := ⟨ts[p]'(by omega), List.getElem?_eq_getElem (by omega)⟩
                        have y1 : (p : Int) < (i : Int) + 1 := by omega
                        have y2 : (0 : Int) ≤ (p : Int) := by omega
                        have y3 : (p : Int) < (n : Int) := by omega
                        have HS' := hideIt hs'
                        obtain ⟨z, cz, e4, iZ, _⟩ := HCt2.out _ hgq p s' hs'
                        have HIn := hideIt (fun v u (hu : Good wr u) => l05In_any s' v s'.length z cz (by have := lnS_mem (List.mem_of_getElem? hs'); omega) u (iZ.up hu))
                        have HE4 : Hid (∀ u, Good wr u → u.cell? ⟨b, off + p, none⟩ = some (.slice z s'.length cz)) := fun u hu => by rw [hu.cell (Nat.lt_of_lt_of_le hbl2 hgq.size)]; exact e4
                        have HGq := hideIt hgq
                        clear hs' iZ hgq e4
                        go_wp2
                        go_loopw [7] (fun r wz => ∃ j : Nat, j ≤ m2 ∧ r = .int .i64 (j : Int) ∧ Hid (∀ d x, d < j → (vsL t)[d]? = some x → x ∉ s') ∧ Good wr wz) (fun r _ => m2 - (intOf r).toNat)
                        case atStart => exact ⟨0, by omega, rfl, fun d x hd => by omega, Good.refl _⟩
                        case round =>
                          obtain ⟨j, hj, rfl, HJ, hgz⟩ := hrel
                          by_cases hjl : j < m2
                          · obtain ⟨v, hv⟩ : ∃ v, (vsL t)[j]? = some v := ⟨(vsL t)[j]'(by have := HM2.out; omega), List.getElem?_eq_getElem _⟩
                            have hgz2 := HGq.out.up hgz
                            have c1 := HCr.out _ hgz2 j v hv
                            obtain ⟨k6, k7⟩ := HC0.out _ (HG2.out.up hgz2)
                            have e4 := HE4.out _ hgz
                            have y4 : (0 : Int) ≤ (j : Int) := by omega
                            have y5 : (j : Int) < (m2 : Int) := by omega
                            have HInv := hideIt (fun u (hu : Good wr u) => HIn.out v u (hgz.up hu))
                            have HGz := hideIt hgz
                            have HGz2 := hideIt hgz2
                            by_cases hin : v ∈ s'
                            · rw [decide_eq_true hin] at HInv
                              have HN : Hid (¬ FP N ts) := fun hp => (hp.2.2.2.1 (i + 1) t HT.out).2.2.2 p s' hpl HS'.out v ((vsL_mem t v).1 (List.mem_of_getElem? hv)).2 hin
                              clear hv HJ hin HK HS hgz hgz2 HIn
                              go_wp2
                              go_quiet ((go_at_call 93; exact Calls.quiet_of_same (HInv.out _ (below_drewN (Good.refl _) _))))
                              go_wp2
                              go_ret
                              exact ⟨false, rfl, ⟨fun h => (by cases h), fun h => absurd h HN.out⟩, HB0.out.up (HG2.out.up (below_drewN HGz2.out _))⟩
                            · rw [decide_eq_false hin] at HInv
                              have HJ2 : Hid (∀ d x, d < j + 1 → (vsL t)[d]? = some x → x ∉ s') := fun d x hd hx => by
                                by_cases hdj : d = j
                                · rw [hdj, hv] at hx
                                  cases hx
                                  exact hin
                                · exact HJ.out d x (by omega) hx
                              clear hv HJ hin hgz hgz2 HIn
                              go_wp2
                              go_quiet ((go_at_call 93; exact Calls.quiet_of_same (HInv.out _ (below_drewN (Good.refl _) _))))
                              go_wp2
                              exact ⟨⟨j + 1, by omega, by go_num, HJ2, below_drewN HGz.out _⟩, by simp [intOf]; omega⟩
                          · obtain rfl : j = m2 := by omega
                            have HP2 : Hid (∀ d s2, d < p + 1 → ts[d]? = some s2 → ∀ x ∈ t, x ∉ s2) := fun d s2 hd hs2 x hx => by
                              by_cases hdp : d = p
                              · rw [hdp, HS'.out] at hs2
                                cases hs2
                                obtain ⟨r, hr⟩ := List.mem_iff_getElem?.1 ((vs_mem_of HBt.out).2 hx)
                                exact HJ.out r x (by have := (List.getElem?_eq_some_iff.1 hr).1; have := HM2.out; omega) hr
                              · exact HP.out d s2 (by omega) hs2 x hx
                            clear HJ HP
                            go_wp2
                            exact ⟨⟨p + 1, by omega, by go_num, HP2, HGq.out.up hgz⟩, by simp [intOf]; omega⟩
                      · obtain rfl : p = i + 1 := by omega
                        have HS2 : Hid (s + m2 = cntV ts (i + 1 + 1)) := by show _ = _; rw [cntV_succ HT.out, HM2.out, HS.out]
                        have HK2 : Hid (∀ j, j < i + 1 + 1 → FAt N ts j) := fun j hj => by
                          by_cases hji : j = i + 1
                          · subst hji
                            intro t' ht'
                            rw [HT.out] at ht'
                            cases ht'
                            exact ⟨HBt.out, HLt.out, fun j s' hj hs' => by
                              obtain rfl : j = i := by omega
                              rw [HQ.out] at hs'
                              cases hs'
                              exact HLess.out, fun d s' hd hs' => HP.out d s' hd hs'⟩
                          · exact HK.out j (by omega)
                        clear HP HK HS
                        go_wp2
                        exact ⟨⟨i + 1 + 1, s + m2, by omega, by omega, by go_num, by go_num, HS2, HK2, HG2.out.up hgq⟩, by simp [intOf]; omega⟩
                  · have d2 : decide (mnV t ≤ mnV q) = true := decide_eq_true (by omega)
                    have HN : Hid (¬ FP N ts) := fun hp => hLess ((hp.2.2.2.1 (i + 1) t HT.out).2.2.1 i q rfl hq)
                    clear ek hq hBq iQ k4 k5 l0 f0 e1 hLess HK HS
                    go_upto_region 11 with fail
                    refine wp_region_held_drew (S := (fun u => (u.cell? ⟨w.heap.size, 0, none⟩ = some (.int .i64 N) ∧ u.cell? ⟨w.heap.size, 1, none⟩ = some (.slice (some ⟨b, off, none⟩) n c)) ∧ (u.cell? ⟨g, m2 - 1, none⟩ = some (.int .i64 lst) ∧ u.cell? ⟨g, 0, none⟩ = some (.int .i64 (mnV t))) ∧ u.cell? ⟨b, off + i, none⟩ = some (.slice y q.length cy))) (by kernel_rfl) hS0 (fun hHeld => ?_)
                    refine wpAnyH_take (i := 0) (v := ?_) rfl (by kernel_rfl) (by kernel_rfl) (by kernel_rfl) (fun _ _ _ h => h) (Or.inl ⟨by rfl, ?_⟩) (by assumption) ?_
                    rotate_left
                    · intro w hSw; (try dsimp only at hSw); go_simp; try with_reducible rfl
                    try simp only [Act.put, List.getElem_toArray, List.getElem_cons_zero, List.setIfInBounds_toArray, List.set_cons_zero, List.set_cons_succ]
                    refine wpAnyH_take (i := 1) (v := ?_) rfl (by kernel_rfl) (by kernel_rfl) (by kernel_rfl) (fun _ _ _ h => h) (Or.inl ⟨by rfl, ?_⟩) (by assumption) ?_
                    rotate_left
                    · intro w hSw; (try dsimp only at hSw); go_simp; try with_reducible rfl
                    try simp only [Act.put, List.getElem_toArray, List.getElem_cons_succ, List.getElem_cons_zero, List.setIfInBounds_toArray, List.set_cons_zero, List.set_cons_succ]
                    refine wpAnyH_take (i := 2) (v := ?_) rfl (by kernel_rfl) (by kernel_rfl) (by kernel_rfl) (fun _ _ _ h => h) (Or.inl ⟨by rfl, ?_⟩) (by assumption) ?_
                    rotate_left
                    · intro w hSw; (try dsimp only at hSw); go_simp; try with_reducible rfl
                    try simp only [Act.put, List.getElem_toArray, List.getElem_cons_succ, List.getElem_cons_zero, List.setIfInBounds_toArray, List.set_cons_zero, List.set_cons_succ]
                    refine wpAnyH_take (i := 3) (v := ?_) rfl (by kernel_rfl) (by kernel_rfl) (by kernel_rfl) (fun _ _ _ h => h) (Or.inl ⟨by rfl, ?_⟩) (by assumption) ?_
                    rotate_left
                    · intro w hSw; (try dsimp only at hSw); go_simp; try with_reducible rfl
                    try simp only [Act.put, List.getElem_toArray, List.getElem_cons_succ, List.getElem_cons_zero, List.setIfInBounds_toArray, List.set_cons_zero, List.set_cons_succ]
                    refine wpAnyH_take (i := 4) (v := ?_) rfl (by kernel_rfl) (by kernel_rfl) (by kernel_rfl) (fun _ _ _ h => h) (Or.inl ⟨by rfl, ?_⟩) (by assumption) ?_
                    rotate_left
                    · intro w hSw; (try dsimp only at hSw); go_simp; try with_reducible rfl
                    try simp only [Act.put, List.getElem_toArray, List.getElem_cons_succ, List.getElem_cons_zero, List.setIfInBounds_toArray, List.set_cons_zero, List.set_cons_succ]
                    refine wpAnyH_take (i := 5) (v := ?_) rfl (by kernel_rfl) (by kernel_rfl) (by kernel_rfl) (fun _ _ _ h => h) (Or.inl ⟨by rfl, ?_⟩) (by assumption) ?_
                    rotate_left
                    · intro w hSw; (try dsimp only at hSw); go_simp; try with_reducible rfl
                    try simp only [Act.put, List.getElem_toArray, List.getElem_cons_succ, List.getElem_cons_zero, List.setIfInBounds_toArray, List.set_cons_zero, List.set_cons_succ]
                    refine wpAnyH_take (i := 6) (v := ?_) rfl (by kernel_rfl) (by kernel_rfl) (by kernel_rfl) (fun _ _ _ h => h) (Or.inl ⟨by rfl, ?_⟩) (by assumption) ?_
                    rotate_left
                    · intro w hSw; (try dsimp only at hSw); go_simp; try with_reducible rfl
                    try simp only [Act.put, List.getElem_toArray, List.getElem_cons_succ, List.getElem_cons_zero, List.setIfInBounds_toArray, List.set_cons_zero, List.set_cons_succ]
                    refine wpAnyH_take (i := 7) (v := ?_) rfl (by kernel_rfl) (by kernel_rfl) (by kernel_rfl) (fun _ _ _ h => h) (Or.inl ⟨by rfl, ?_⟩) (by assumption) ?_
                    rotate_left
                    · intro w hSw; (try dsimp only at hSw); go_simp; try with_reducible rfl
                    try simp only [Act.put, List.getElem_toArray, List.getElem_cons_succ, List.getElem_cons_zero, List.setIfInBounds_toArray, List.set_cons_zero, List.set_cons_succ]
                    refine wpAnyH_take (i := 8) (v := ?_) rfl (by kernel_rfl) (by kernel_rfl) (by kernel_rfl) (fun _ _ _ h => h) (Or.inl ⟨by rfl, ?_⟩) (by assumption) ?_
                    rotate_left
                    · intro w hSw; (try dsimp only at hSw); go_simp; try with_reducible rfl
                    try simp only [Act.put, List.getElem_toArray, List.getElem_cons_succ, List.getElem_cons_zero, List.setIfInBounds_toArray, List.set_cons_zero, List.set_cons_succ]
                    refine wpAnyH_take (i := 9) (v := ?_) rfl (by kernel_rfl) (by kernel_rfl) (by kernel_rfl) (fun _ _ _ h => h) (Or.inl ⟨by rfl, ?_⟩) (by assumption) ?_
                    rotate_left
                    · intro w hSw; (try dsimp only at hSw); go_simp; try with_reducible rfl
                    try simp only [Act.put, List.getElem_toArray, List.getElem_cons_succ, List.getElem_cons_zero, List.setIfInBounds_toArray, List.set_cons_zero, List.set_cons_succ]
                    refine wpAnyH_take (i := 10) (v := ?_) rfl (by kernel_rfl) (by kernel_rfl) (by kernel_rfl) (fun _ _ _ h => h) (Or.inl ⟨by rfl, ?_⟩) (by assumption) ?_
                    rotate_left
                    · intro w hSw; (try dsimp only at hSw); go_simp; try with_reducible rfl
                    try simp only [Act.put, List.getElem_toArray, List.getElem_cons_succ, List.getElem_cons_zero, List.setIfInBounds_toArray, List.set_cons_zero, List.set_cons_succ]
                    refine wpAnyH_take (i := 11) (v := ?_) rfl (by kernel_rfl) (by kernel_rfl) (by kernel_rfl) (fun _ _ _ h => h) (Or.inl ⟨by rfl, ?_⟩) (by assumption) ?_
                    rotate_left
                    · intro w hSw; (try dsimp only at hSw); go_simp; try with_reducible rfl
                    try simp only [Act.put, List.getElem_toArray, List.getElem_cons_succ, List.getElem_cons_zero, List.setIfInBounds_toArray, List.set_cons_zero, List.set_cons_succ]
                    refine wpAnyH_take (i := 12) (v := ?_) rfl (by kernel_rfl) (by kernel_rfl) (by kernel_rfl) (fun _ _ _ h => h) (Or.inl ⟨by rfl, ?_⟩) (by assumption) ?_
                    rotate_left
                    · intro w hSw; (try dsimp only at hSw); go_simp; try with_reducible rfl
                    try simp only [Act.put, List.getElem_toArray, List.getElem_cons_succ, List.getElem_cons_zero, List.setIfInBounds_toArray, List.set_cons_zero, List.set_cons_succ]
                    refine wpAnyH_take (i := 13) (v := ?_) rfl (by kernel_rfl) (by kernel_rfl) (by kernel_rfl) (fun _ _ _ h => h) (Or.inl ⟨by rfl, ?_⟩) (by assumption) ?_
                    rotate_left
                    · intro w hSw; (try dsimp only at hSw); go_simp; try with_reducible rfl
                    try simp only [Act.put, List.getElem_toArray, List.getElem_cons_succ, List.getElem_cons_zero, List.setIfInBounds_toArray, List.set_cons_zero, List.set_cons_succ]
                    refine wpAnyH_take (i := 14) (v := ?_) rfl (by kernel_rfl) (by kernel_rfl) (by kernel_rfl) (fun _ _ _ h => h) (Or.inl ⟨by rfl, ?_⟩) (by assumption) ?_
                    rotate_left
                    · intro w hSw; (try dsimp only at hSw); go_simp; try with_reducible rfl
                    try simp only [Act.put, List.getElem_toArray, List.getElem_cons_succ, List.getElem_cons_zero, List.setIfInBounds_toArray, List.set_cons_zero, List.set_cons_succ]
                    refine wpAnyH_take (i := 15) (v := ?_) rfl (by kernel_rfl) (by kernel_rfl) (by kernel_rfl) (fun _ _ _ h => h) (Or.inl ⟨by rfl, ?_⟩) (by assumption) ?_
                    rotate_left
                    · intro w hSw; (try dsimp only at hSw); go_simp; try with_reducible rfl
                    try simp only [Act.put, List.getElem_toArray, List.getElem_cons_succ, List.getElem_cons_zero, List.setIfInBounds_toArray, List.set_cons_zero, List.set_cons_succ]
                    refine wpAnyH_take (i := 16) (v := ?_) rfl (by kernel_rfl) (by kernel_rfl) (by kernel_rfl) (fun _ _ _ h => h) (Or.inl ⟨by rfl, ?_⟩) (by assumption) ?_
                    rotate_left
                    · intro w hSw; (try dsimp only at hSw); go_simp; try with_reducible rfl
                    try simp only [Act.put, List.getElem_toArray, List.getElem_cons_succ, List.getElem_cons_zero, List.setIfInBounds_toArray, List.set_cons_zero, List.set_cons_succ]
                    refine wpAnyH_take (i := 17) (v := ?_) rfl (by kernel_rfl) (by kernel_rfl) (by kernel_rfl) (fun _ _ _ h => h) (Or.inl ⟨by rfl, ?_⟩) (by assumption) ?_
                    rotate_left
                    · intro w hSw; (try dsimp only at hSw); go_simp; try with_reducible rfl
                    try simp only [Act.put, List.getElem_toArray, List.getElem_cons_succ, List.getElem_cons_zero, List.setIfInBounds_toArray, List.set_cons_zero, List.set_cons_succ]
                    refine wpAnyH_take (i := 18) (v := ?_) rfl (by kernel_rfl) (by kernel_rfl) (by kernel_rfl) (fun _ _ _ h => h) (Or.inl ⟨by rfl, ?_⟩) (by assumption) ?_
                    rotate_left
                    · intro w hSw; (try dsimp only at hSw); go_simp; try with_reducible rfl
                    try simp only [Act.put, List.getElem_toArray, List.getElem_cons_succ, List.getElem_cons_zero, List.setIfInBounds_toArray, List.set_cons_zero, List.set_cons_succ]
                    refine wpAnyH_take (i := 22) (v := ?_) rfl (by kernel_rfl) (by kernel_rfl) (by kernel_rfl) (fun _ _ _ h => h) (Or.inl ⟨by rfl, ?_⟩) (by assumption) ?_
                    rotate_left
                    · intro w hSw; (try dsimp only at hSw); go_simp; try with_reducible rfl
                    try simp only [Act.put, List.getElem_toArray, List.getElem_cons_succ, List.getElem_cons_zero, List.setIfInBounds_toArray, List.set_cons_zero, List.set_cons_succ]
                    refine wpAnyH_take (i := 23) (v := ?_) rfl (by kernel_rfl) (by kernel_rfl) (by kernel_rfl) (fun _ _ _ h => h) (Or.inl ⟨by rfl, ?_⟩) (by assumption) ?_
                    rotate_left
                    · intro w hSw; (try dsimp only at hSw); go_simp; try with_reducible rfl
                    try simp only [Act.put, List.getElem_toArray, List.getElem_cons_succ, List.getElem_cons_zero, List.setIfInBounds_toArray, List.set_cons_zero, List.set_cons_succ]
                    refine wpAnyH_take (i := 24) (v := ?_) rfl (by kernel_rfl) (by kernel_rfl) (by kernel_rfl) (fun _ _ _ h => h) (Or.inl ⟨by rfl, ?_⟩) (by assumption) ?_
                    rotate_left
                    · intro w hSw; (try dsimp only at hSw); go_simp; try with_reducible rfl
                    try simp only [Act.put, List.getElem_toArray, List.getElem_cons_succ, List.getElem_cons_zero, List.setIfInBounds_toArray, List.set_cons_zero, List.set_cons_succ]
                    refine wpAnyH_ready (rs := [19]) (by kernel_rfl) (by simp) ?_
                    refine AllReadyH.cons rfl (fun K hK => ?_) AllReadyH.nil
                    go_wp2_with (go_at_call 82; refine (HVq.out _ hbd).mono ?_; rintro e w3 ⟨g3, m3, c3, rfl, hp3, hc3, hg3⟩; have hS3 := HCS.out _ hg3; refine Hid.out ?_)
                    refine (show ∀ {p : Prop}, p → Hid p from fun h => h) ?_
                    refine hK.out _ _ hS3 (fun hHeld => ?_)
                    clear hK K
                    try simp only [Act.put, List.getElem_toArray, List.getElem_cons_succ, List.getElem_cons_zero, List.setIfInBounds_toArray, List.set_cons_zero, List.set_cons_succ]
                    refine wpAnyH_ready (rs := [20]) (by kernel_rfl) (by simp) ?_
                    refine AllReadyH.cons rfl (fun K hK => ?_) AllReadyH.nil
                    go_simp
                    refine hK.out _ _ (by assumption) (fun hHeld => ?_)
                    clear hK K
                    try simp only [Act.put, List.getElem_toArray, List.getElem_cons_succ, List.getElem_cons_zero, List.setIfInBounds_toArray, List.set_cons_zero, List.set_cons_succ]
                    refine wpAnyH_ready (rs := [21]) (by kernel_rfl) (by simp) ?_
                    refine AllReadyH.cons rfl (fun K hK => ?_) AllReadyH.nil
                    go_simp
                    refine hK.out _ _ (by assumption) (fun hHeld => ?_)
                    clear hK K
                    try simp only [Act.put, List.getElem_toArray, List.getElem_cons_succ, List.getElem_cons_zero, List.setIfInBounds_toArray, List.set_cons_zero, List.set_cons_succ]
                    refine wpAnyH_ready (rs := [25]) (by kernel_rfl) (by simp) ?_
                    refine AllReadyH.cons rfl (fun K hK => ?_) AllReadyH.nil
                    go_simp
                    refine hK.out _ _ (by assumption) (fun hHeld => ?_)
                    clear hK K
                    try simp only [Act.put, List.getElem_toArray, List.getElem_cons_succ, List.getElem_cons_zero, List.setIfInBounds_toArray, List.set_cons_zero, List.set_cons_succ]
                    refine wpAnyH_ready (rs := [26]) (by kernel_rfl) (by simp) ?_
                    refine AllReadyH.cons rfl (fun K hK => ?_) AllReadyH.nil
                    go_simp
                    refine hK.out _ _ (by assumption) (fun hHeld => ?_)
                    clear hK K
                    try simp only [Act.put, List.getElem_toArray, List.getElem_cons_succ, List.getElem_cons_zero, List.setIfInBounds_toArray, List.set_cons_zero, List.set_cons_succ]
                    refine wpAnyH_ready (rs := [27]) (by kernel_rfl) (by simp) ?_
                    refine AllReadyH.cons rfl (fun K hK => ?_) AllReadyH.nil
                    go_simp
                    refine hK.out _ _ (by assumption) (fun hHeld => ?_)
                    clear hK K
                    try simp only [Act.put, List.getElem_toArray, List.getElem_cons_succ, List.getElem_cons_zero, List.setIfInBounds_toArray, List.set_cons_zero, List.set_cons_succ]
                    refine wpAnyH_done (by kernel_rfl) ?_ _
                    go_wp2
                    go_ret
                    exact ⟨false, rfl, ⟨fun h => (by cases h), fun h => absurd h HN.out⟩, HB0.out.up (HG2.out.up hg3)⟩
              · have d1 : decide (N ≤ lst) = true := decide_eq_true (by omega)
                have HN : Hid (¬ FP N ts) := fun hp => hL (HLst.out.1 (hp.2.2.2.1 k t HT.out).2.1)
                clear HLst hL HK HS
                go_wp2
                go_quiet (fail)
                go_wp2
                go_ret
                exact ⟨false, rfl, ⟨fun h => (by cases h), fun h => absurd h HN.out⟩, HB0.out.up (below_drewN HG2.out _)⟩
        · obtain rfl : k = n := by omega
          have HE : Hid (((s : Int) == N) = true ↔ FP N ts) := by
            show _ ↔ _
            rw [beq_iff_eq]
            constructor
            · intro hs
              exact ⟨h11, h12, by omega, fun i t ht => HK.out i (by have := (List.getElem?_eq_some_iff.1 ht).1; omega) t ht, by rw [hlen, ← HS.out]; exact hs⟩
            · intro hp
              have := hp.2.2.2.2
              rw [hlen, ← HS.out] at this
              exact this
          clear HK HS
          go_wp2
          go_ret
          exact ⟨_, rfl, HE.out, HB0.out.up hg⟩
    · have r2 : decide (12 < (n : Int)) = true := decide_eq_true (by omega)
      have HN : Hid (¬ FP N ts) := fun hp => by have := hp.2.2.1; omega
      go_enter Tryz.func33, Tryz.ntmps33
      go_wp2_with (go_at_call 80; refine (HI.out _ _ _ _).mono ?_; rintro e w1 ⟨rfl, hw⟩; have hw' := hw.symm; subst hw'; clear hw)
      go_ret
      exact ⟨false, rfl, ⟨fun h => (by cases h), fun h => absurd h HN.out⟩, HB0.out⟩
  · have r1 : decide (1 ≤ N ∧ N ≤ 12) = false := decide_eq_false h1
    have HN : Hid (¬ FP N ts) := fun hp => h1 ⟨hp.1, hp.2.1⟩
    go_enter Tryz.func33, Tryz.ntmps33
    go_wp2_with (go_at_call 80; refine (HI.out _ _ _ _).mono ?_; rintro e w1 ⟨rfl, hw⟩; have hw' := hw.symm; subst hw'; clear hw)
    go_ret
    exact ⟨false, rfl, ⟨fun h => (by cases h), fun h => absurd h HN.out⟩, HB0.out⟩
end Go.Proofs.YtpfkfbmghddepaaGreat
namespace Go.Proofs.YtpfkfbmghddepaaGreat
open Go.RowKit

theorem sForestOk_yes {N : Int} {ts : List (List Int)} (hP : FP N ts) {n : Nat} {a : Option Addr} (c : Nat) (hn : n + lnS ts ≤ 1048576) {w : World} (h : Ts w w.heap.size a n ts) :
    Calls Tryz.prog 33 #[.agg #[.int .i64 N, .slice a n c]] w fun e w' => e = .returned (.bool true) ∧ Good w w' :=
  (sForestOk_any N ts n a c hn w h).mono fun e u ⟨b, he, hb, hbl⟩ => ⟨by rw [he, hb.2 hP], hbl⟩
theorem sForestOk_no {N : Int} {ts : List (List Int)} (hP : ¬ FP N ts) {n : Nat} {a : Option Addr} (c : Nat) (hn : n + lnS ts ≤ 1048576) {w : World} (h : Ts w w.heap.size a n ts) :
    Calls Tryz.prog 33 #[.agg #[.int .i64 N, .slice a n c]] w fun e w' => e = .returned (.bool false) ∧ Good w w' :=
  (sForestOk_any N ts n a c hn w h).mono fun e u ⟨b, he, hb, hbl⟩ => ⟨by
      have : b = false := by
        cases b with
        | false => rfl
        | true => exact absurd (hb.1 rfl) hP
      rw [he, this], hbl⟩

set_option maxHeartbeats 1000000 in
theorem sTreeOf_any (N : Int) (ts : List (List Int)) (v : Int) (n : Nat) (a : Option Addr) (c : Nat) (hn : n + lnS ts ≤ 1048576) (w : World) (h : Ts w w.heap.size a n ts) :
    Calls Tryz.prog 83 #[.agg #[.int .i64 N, .slice a n c], .int .i64 v] w fun e w' => e = .returned (.int .i64 (treeO N ts v)) ∧ Below w.heap.size w w' := by
  have b0 : Good w (w.alloc (.cells #[.int .i64 N, .slice a n c] 57)) := (Good.refl w).alloc _
  have HB0 := hideIt b0
  have HC0 : Hid (∀ u, Good (w.alloc (.cells #[.int .i64 N, .slice a n c] 57)) u → u.cell? ⟨w.heap.size, 1, none⟩ = some (.slice a n c)) := fun u hu => by rw [hu.cell (by simp)]; simp
  by_cases hP : FP N ts
  · have HF2 := hideIt (sForestOk_yes hP c hn (h.up b0))
    have HA := hideIt (h.up b0)
    have HV := hideIt (treeO_yes hP v)
    have hlen := h.1
    clear h b0 hP
    go_enter Tryz.func83, Tryz.ntmps83
    go_wp2_with (go_at_call 33; refine HF2.out.mono ?_; rintro e w1 ⟨rfl, hg1⟩; refine Hid.out ?_)
    refine (show ∀ {p : Prop}, p → Hid p from fun h => h) ?_
    have HG1 := hideIt hg1
    clear HF2 hg1
    go_wp2
    go_loopw [5] (fun i wr => ∃ k : Nat, k ≤ n ∧ i = .int .i64 (k : Int) ∧ Hid (∀ j, j < k → trP ts v j = false) ∧ wr = w1) (fun i _ => n - (intOf i).toNat)
    case atStart => exact ⟨0, by omega, rfl, fun j hj => by omega, rfl⟩
    case round =>
      obtain ⟨k, hk, rfl, HK, hw⟩ := hrel
      have hw' := hw.symm
      subst hw'
      clear hw
      have k1 := HC0.out _ HG1.out
      by_cases hlt : k < n
      · rcases (HA.out.up HG1.out).2 with hz | ⟨bb, off, rfl, hbl, hc⟩
        · omega
        · obtain ⟨t, ht⟩ : ∃ t, ts[k]? = some t := ⟨ts[k]'(by omega), List.getElem?_eq_getElem (by omega)⟩
          obtain ⟨x, cx, e0, iI, _⟩ := hc k t ht
          have b1 : (0 : Int) ≤ (k : Int) := by omega
          have b2 : (k : Int) < (n : Int) := by omega
          have HC := hideIt (l05In_any t v t.length x cx (by have := lnS_mem (List.mem_of_getElem? ht); omega) w1 iI)
          rw [← trP_at (v := v) ht] at HC
          cases hp : trP ts v k with
          | true =>
            rw [hp] at HC
            have HV2 : Hid (trI ts v = (k : Int)) := firstN_yes (by omega) hp HK.out
            clear hc ht iI hp HK
            go_wp2_with (go_at_call 93; refine HC.out.mono ?_; rintro e w2 ⟨rfl, hw⟩; have hw' := hw.symm; subst hw'; clear hw)
            go_ret
            exact ⟨by rw [HV.out, HV2.out]; rfl, HB0.out.up HG1.out⟩
          | false =>
            rw [hp] at HC
            have HK2 : Hid (∀ j, j < k + 1 → trP ts v j = false) := fun j hj => by
              by_cases h7 : j = k
              · rw [h7]; exact hp
              · exact HK.out j (by omega)
            clear hc ht iI hp HK
            go_wp2_with (go_at_call 93; refine HC.out.mono ?_; rintro e w2 ⟨rfl, hw⟩; have hw' := hw.symm; subst hw'; clear hw)
            exact ⟨⟨k + 1, by omega, by go_num, HK2, by first | trivial | rfl⟩, by simp [intOf]; omega⟩
      · obtain rfl : k = n := by omega
        have HV2 : Hid (trI ts v = -1) := firstN_no (fun j hj => HK.out j (by omega))
        clear HK
        go_wp2
        go_ret
        exact ⟨by rw [HV.out, HV2.out]; rfl, HB0.out.up HG1.out⟩
  · have HF2 := hideIt (sForestOk_no hP c hn (h.up b0))
    have HV := hideIt (treeO_no hP v)
    clear h b0 hP
    go_enter Tryz.func83, Tryz.ntmps83
    go_wp2_with (go_at_call 33; refine HF2.out.mono ?_; rintro e w1 ⟨rfl, hg1⟩)
    go_ret
    exact ⟨by rw [HV.out]; rfl, HB0.out.up hg1⟩

end Go.Proofs.YtpfkfbmghddepaaGreat
namespace Go.Proofs.YtpfkfbmghddepaaGreat
open Go.RowKit

theorem lnS_small {ts : List (List Int)} (h : ∀ t ∈ ts, t.length ≤ 23) : lnS ts ≤ 23 * ts.length := by
  induction ts with
  | nil => simp [lnS]
  | cons t ts ih =>
    have h1 := h t (by simp)
    have h2 := ih fun s hs => h s (by simp [hs])
    simp only [lnS, List.map_cons, List.sum_cons, List.length_cons] at h2 ⊢
    omega
set_option maxRecDepth 100000 in
set_option maxHeartbeats 8000000 in
theorem sWebOk_any (N : Int) (ls : List Ld) (n : Nat) (a : Option Addr) (c : Nat) (hn : n ≤ 1048576) (w : World) (h : Ls w w.heap.size a n ls) :
    Calls Tryz.prog 20 #[.agg #[.int .i64 N, .slice a n c]] w fun e w' => e = .returned (.bool (wB N ls)) ∧ Below w.heap.size w w' := by
  have hlen := h.1
  have hfa : Good w (wW w N a n c) := wW_good w N a n c
  have HR := hideIt h
  have HGo := hideIt (sGraphOf_any N ls n a c hn _ (h.up hfa))
  have HGk : Hid (∀ (a' : Option Addr) (c' : Nat) (u : World), u.ownsRow (wW w N a n c).heap.size 28 2 (.slice a' n c') n (ecells (gE ls)) → Calls Tryz.prog 71 #[.agg #[.int .i64 N, .slice a' n c']] u fun e w' => e = .returned (.bool (gB N (gE ls))) ∧ Below u.heap.size u w') := fun a' c' u hu => sGraphOk_any N (gE ls) n a' c' hn u (Es_of_own hu)
  have HC : Hid (∀ u, Good (wW w N a n c) u → u.cell? ⟨w.heap.size, 0, none⟩ = some (.int .i64 N) ∧ u.cell? ⟨w.heap.size, 1, none⟩ = some (.slice a n c)) := fun u hu => by
    unfold Good at hu
    rw [wW_size] at hu
    exact wW_cells hu
  have HIn := hideIt l01In_any
  clear h
  cases hG : gB N (gE ls) with
  | false =>
    rw [hG] at HGk
    have HN := hideIt (wB_no (N := N) (ls := ls) fun hw => by have := hw.1; rw [hG] at this; cases this)
    clear hG
    go_enter Tryz.func20, Tryz.ntmps20
    go_wp2_with (first | (go_at_call 27; refine HGo.out.mono ?_; rintro e w1 ⟨ag, cg, rfl, ho1, hb1⟩; have HG2 := HGk.out ag cg w1 ho1; clear ho1) | (go_at_call 71; refine HG2.mono ?_; rintro e w2 ⟨rfl, hb2⟩))
    go_ret
    exact ⟨by rw [HN.out]; rfl, (hfa.up hb1).up hb2⟩
  | true =>
    rw [hG] at HGk
    obtain ⟨nn, rfl, hn1, hn12⟩ := gB_n hG
    have h66 : n ≤ 66 := by have := (gB_chk hG).2.2; rw [gE_len] at this; omega
    go_enter Tryz.func20, Tryz.ntmps20
    go_wp2_with (first | (go_at_call 27; refine HGo.out.mono ?_; rintro e w1 ⟨ag, cg, rfl, ho1, hb1⟩; have HG2 := HGk.out ag cg w1 ho1; clear ho1) | (go_at_call 71; refine HG2.mono ?_; rintro e w2 ⟨rfl, hb2⟩; refine Hid.out ?_))
    refine (show ∀ {p : Prop}, p → Hid p from fun h => h) ?_
    have G2 : Good (wW w (nn : Int) a n c) w2 := (show Good (wW w (nn : Int) a n c) w1 from hb1).up hb2
    have HG0 := hideIt hG
    clear HGo HGk HG2 hb1 hb2 hG
    go_wp2
    go_loopw [3] (fun i wr => ∃ k : Nat, k ≤ n ∧ i = .int .i64 (k : Int) ∧ Hid (∀ j x, j < k → ls[j]? = some x → 0 ≤ x.l ∧ x.l ≤ 4) ∧ Good (wW w (nn : Int) a n c) wr) (fun i _ => n - (intOf i).toNat)
    case atStart => exact ⟨0, by omega, rfl, fun j x hj => by omega, G2⟩
    case round =>
      obtain ⟨k, hk, rfl, HK, hg⟩ := hrel
      clear G2
      obtain ⟨cw0, cw1⟩ := HC.out wr hg
      by_cases hlt : k < n
      · obtain ⟨b, off, x, rfl, hbl, hxk, hat⟩ := ((HR.out.up (wW_good w _ a n c)).up hg).at hlt
        have e2 := hat.cl
        have b1 : (0 : Int) ≤ (k : Int) := by omega
        have b2 : (k : Int) < (n : Int) := by omega
        have HX := hideIt hxk
        have HGs := hideIt hg
        clear hxk hat hg
        by_cases hlv : 0 ≤ x.l ∧ x.l ≤ 4
        · have HI2 := HIn.out x.l 0 4 wr
          rw [decide_eq_true hlv] at HI2
          have HI2 := hideIt HI2
          have HK2 : Hid (∀ j x, j < k + 1 → ls[j]? = some x → 0 ≤ x.l ∧ x.l ≤ 4) := fun j y hj hy => by
            by_cases e : j = k
            · subst e
              rw [HX.out] at hy
              obtain rfl := Option.some.inj hy
              exact hlv
            · exact HK.out j y (by omega) hy
          clear HK hlv
          go_wp2_with (go_at_call 80; refine HI2.out.mono ?_; rintro e w1 ⟨rfl, hw⟩; have hw' := hw.symm; subst hw'; clear hw)
          exact ⟨⟨k + 1, by omega, by go_num, HK2, HGs.out⟩, by simp [intOf]; omega⟩
        · have HI2 := HIn.out x.l 0 4 wr
          rw [decide_eq_false hlv] at HI2
          have HI2 := hideIt HI2
          have HN := hideIt (wB_no (N := (nn : Int)) (ls := ls) fun hw => hlv (hw.2.1 x (List.mem_of_getElem? HX.out)))
          clear HK hlv
          go_wp2_with (go_at_call 80; refine HI2.out.mono ?_; rintro e w1 ⟨rfl, hw⟩; have hw' := hw.symm; subst hw'; clear hw)
          go_ret
          exact ⟨by rw [HN.out]; rfl, hfa.up HGs.out⟩
      · obtain rfl : k = n := by omega
        have HLv : Hid (∀ x ∈ ls, 0 ≤ x.l ∧ x.l ≤ 4) := fun x hx => by
          obtain ⟨j, hj⟩ := List.mem_iff_getElem?.1 hx
          exact HK.out j x (by have := (List.getElem?_eq_some_iff.1 hj).1; omega) hj
        have HLs : Hid (∀ u, Good (wW w (nn : Int) a k c) u → Ls u u.heap.size a k ls) := fun u hu => (HR.out.up (wW_good w _ a k c)).up hu
        have HFa : Hid (∀ (i : Nat) (u : World), Good (wW w (nn : Int) a k c) u → Calls Tryz.prog 81 #[.agg #[.int .i64 (nn : Int), .slice a k c], .int .i64 (i : Int)] u (FAt9 u (nn : Int) (ftK (fE ls (i : Int)) nn nn))) := fun i u hu => (sForestAt_any nn ls (i : Int) k a c hn1 hn12 HG0.out u (HLs.out u hu)).mono fun _ _ h => h.weak
        have HGs := hideIt hg
        clear HK hg
        go_wp2
        go_loopw [4, 5] (fun mo i wr => ∃ q ms : Nat, q ≤ 5 ∧ ms ≤ 12 ∧ i = .int .i64 (q : Int) ∧ mo = .int .i64 (ms : Int) ∧ Hid (ms = nn / 2 ^ q) ∧ Hid (∀ j, j < q → LvOk nn ls j) ∧ Good (wW w (nn : Int) a k c) wr) (fun _ i _ => 5 - (intOf i).toNat)
        case atStart => exact ⟨0, nn, by omega, by omega, rfl, rfl, by show _ = _; simp, fun j hj => by omega, HGs.out⟩
        case round =>
          obtain ⟨q, ms, hq, hms, rfl, rfl, HMs, HQ, hg⟩ := hrel
          clear HGs cw0 cw1
          obtain ⟨cw0, cw1⟩ := HC.out wr hg
          have HGs := hideIt hg
          by_cases hq5 : q < 5
          · have d0 : decide ((q : Int) ≤ 4) = true := decide_eq_true (by omega)
            have HCf := HFa.out q wr hg
            cases hts : ftK (fE ls (q : Int)) nn nn with
            | none =>
              rw [hts] at HCf
              have HCf := hideIt HCf
              have HN := hideIt (wB_no (N := (nn : Int)) (ls := ls) fun hw => by
                obtain ⟨ts, h1, _⟩ := hw.2.2 q hq5
                rw [Int.toNat_natCast, hts] at h1
                cases h1)
              clear HQ hts hg
              go_wp2_with (go_at_call 81; refine HCf.out.mono ?_; rintro e w3 ⟨a3, m3, c3, rfl, hT3, hb3⟩)
              go_ret
              exact ⟨by rw [HN.out]; rfl, hfa.up ((HGs.out.up hb3).alloc _)⟩
            | some ts =>
              rw [hts] at HCf
              have HCf := hideIt HCf
              have hall := ft_all (fE_ends HG0.out (q : Int)) hn1 hn12 hts
              have HAll := hideIt hall
              have HTS := hideIt hts
              have HTB : Hid (∀ t ∈ ts, tB t = true) := fun t ht => (HAll.out.fp.q.1 t ht).1
              have hl12 : ts.length ≤ 12 := hall.fp.2.2.1
              clear hts hall hg
              go_wp2_with (go_at_call 81; refine HCf.out.mono ?_; rintro e W1 ⟨a1, m1, c1, rfl, hT1, hb3⟩; refine Hid.out ?_)
              refine (show ∀ {p : Prop}, p → Hid p from fun h => h) ?_
              simp only [Option.getD_some] at hT1
              have G1 : Good (wW w (nn : Int) a k c) W1 := HGs.out.up hb3
              obtain ⟨W, hW⟩ : ∃ W, W = W1.alloc (.cells #[.int .i64 (nn : Int), .slice a1 m1 c1] 57) := ⟨_, rfl⟩
              have hbW : Below W1.heap.size W1 W := by rw [hW]; exact (Below.refl _ _).alloc (Nat.le_refl _) _
              have hzW : W.heap.size = W1.heap.size + 1 := by rw [hW]; simp
              have hm1 : m1 ≤ 12 := by have := hT1.1; omega
              have HCW : Hid (∀ u, Good W u → ((u.cell? ⟨W1.heap.size, 0, none⟩ = some (.int .i64 (nn : Int)) ∧ u.cell? ⟨W1.heap.size, 1, none⟩ = some (.slice a1 m1 c1)) ∧ (u.cell? ⟨w.heap.size, 0, none⟩ = some (.int .i64 (nn : Int)) ∧ u.cell? ⟨w.heap.size, 1, none⟩ = some (.slice a k c))) ∧ Good (wW w (nn : Int) a k c) u) := fun u hu => by
                have hu1 : Below W1.heap.size W1 u := hbW.trans (Below.mono hu (by omega))
                have hgu := G1.up hu1
                refine ⟨⟨⟨?_, ?_⟩, HC.out u hgu⟩, hgu⟩
                · rw [hu.cell (by omega), hW]; simp
                · rw [hu.cell (by omega), hW]; simp
              have HTs := hideIt (hT1.up hbW)
              have hln : m1 + lnS ts ≤ 1048576 := by have := lnS_small (ts := ts) (fun t ht => (tB_len (HTB.out t ht)).2); omega
              clear HCf hT1 hb3 hbW G1 cw0 cw1
              go_wp2
              rw [← hW]
              go_loopw [8] (fun i wr => ∃ j : Nat, j ≤ m1 ∧ i = .int .i64 (j : Int) ∧ Hid (∀ y t, y < j → ts[y]? = some t → 1 < (vsL t).length → (vsL t).length ≤ ms) ∧ Good W wr) (fun i _ => m1 - (intOf i).toNat)
              case atStart => exact ⟨0, by omega, rfl, fun y t hy => by omega, Good.refl _⟩
              case round =>
                obtain ⟨j, hj, rfl, HJ, hg⟩ := hrel
                obtain ⟨⟨⟨cf0, cf1⟩, cw0, cw1⟩, hgw⟩ := HCW.out wr hg
                have HG := hideIt hg
                by_cases hjm : j < m1
                · rcases (HTs.out.up hg).2 with hz | ⟨b, off, rfl, hbl, hc⟩
                  · omega
                  · obtain ⟨t, ht⟩ : ∃ t, ts[j]? = some t := ⟨ts[j]'(by have := HTs.out.1; omega), List.getElem?_eq_getElem (by have := HTs.out.1; omega)⟩
                    obtain ⟨x, cx, e0, iI, _⟩ := hc j t ht
                    have hl23 := tB_len (HTB.out t (List.mem_of_getElem? ht))
                    have b1 : (0 : Int) ≤ (j : Int) := by omega
                    have b2 : (j : Int) < (m1 : Int) := by omega
                    have HTk := hideIt ht
                    obtain ⟨V, hV⟩ : ∃ V, (vsL t).length = V := ⟨_, rfl⟩
                    have hV12 := vsL_len t
                    rw [hV] at hV12
                    have HV : Hid (Calls Tryz.prog 82 #[.slice x t.length cx] wr fun e v => ∃ a3 c3, e = .returned (.slice a3 V c3) ∧ Good wr v) := (sVertsOf_any t t.length x cx (by omega) wr iI).mono fun e v ⟨a3, m3, c3, he, ho, hb⟩ => by
                      have hm : V = m3 := by have := ho.1; rw [ic_len] at this; omega
                      subst hm
                      exact ⟨a3, c3, he, hb⟩
                    have HVV := hideIt hV
                    have HJ2 : Hid ((1 < V → V ≤ ms) → ∀ y t, y < j + 1 → ts[y]? = some t → 1 < (vsL t).length → (vsL t).length ≤ ms) := fun hv y s hy hs h2 => by
                      by_cases e : y = j
                      · subst e
                        rw [HTk.out] at hs
                        obtain rfl := Option.some.inj hs
                        rw [HVV.out] at h2 ⊢
                        exact hv h2
                      · exact HJ.out y s (by omega) hs h2
                    clear hc ht iI hV HJ hg
                    by_cases h1 : 1 < V
                    · have d1 : decide ((1 : Int) < (V : Int)) = true := decide_eq_true (by omega)
                      by_cases hle : V ≤ ms
                      · have d2 : decide ((ms : Int) < (V : Int)) = false := decide_eq_false (by omega)
                        have HJ3 := hideIt (HJ2.out fun _ => hle)
                        clear HJ2
                        go_wp2_with (go_at_call 82; refine HV.out.mono ?_; rintro e w3 ⟨a3, c3, rfl, g3⟩)
                        exact ⟨⟨j + 1, by omega, by go_num, HJ3, HG.out.up g3⟩, by simp [intOf]; omega⟩
                      · have d2 : decide ((ms : Int) < (V : Int)) = true := decide_eq_true (by omega)
                        have HN := hideIt (wB_no (N := (nn : Int)) (ls := ls) fun hw => by
                          have h7 := hw.2.2 q hq5
                          rw [Int.toNat_natCast, LvOk_iff HTS.out] at h7
                          have := h7.1 t (List.mem_of_getElem? HTk.out) (by rw [HVV.out]; exact h1)
                          rw [HVV.out, ← HMs.out] at this
                          exact hle this)
                        clear HJ2
                        go_wp2_with (go_at_call 82; refine HV.out.mono ?_; rintro e w3 ⟨a3, c3, rfl, g3⟩)
                        go_ret
                        exact ⟨by rw [HN.out]; rfl, hfa.up (HCW.out _ (HG.out.up g3)).2⟩
                    · have d1 : decide ((1 : Int) < (V : Int)) = false := decide_eq_false (by omega)
                      have HJ3 := hideIt (HJ2.out fun h => absurd h h1)
                      clear HJ2
                      go_wp2_with (go_at_call 82; refine HV.out.mono ?_; rintro e w3 ⟨a3, c3, rfl, g3⟩)
                      exact ⟨⟨j + 1, by omega, by go_num, HJ3, HG.out.up g3⟩, by simp [intOf]; omega⟩
                · obtain rfl : j = m1 := by omega
                  have HA : Hid (∀ t ∈ ts, 1 < (vsL t).length → (vsL t).length ≤ nn / 2 ^ q) := fun t ht h2 => by
                    obtain ⟨y, hy⟩ := List.mem_iff_getElem?.1 ht
                    rw [← HMs.out]
                    exact HJ.out y t (by have := (List.getElem?_eq_some_iff.1 hy).1; have := HTs.out.1; omega) hy h2
                  have HTr : Hid (∀ (v : Int) (u : World), Good W u → Calls Tryz.prog 83 #[.agg #[.int .i64 (nn : Int), .slice a1 j c1], .int .i64 v] u fun e w' => e = .returned (.int .i64 (trI ts v)) ∧ Good W w') := fun v u hu => by
                    have := sTreeOf_any (nn : Int) ts v j a1 c1 hln u (HTs.out.up hu)
                    rw [treeO_yes HAll.out.fp] at this
                    exact this.mono fun e u' ⟨h1, h2⟩ => ⟨h1, hu.up h2⟩
                  clear HJ hg
                  go_wp2
                  go_loopw [10] (fun i wr => ∃ p : Nat, p ≤ k ∧ i = .int .i64 (p : Int) ∧ Hid (∀ y x, y < p → ls[y]? = some x → x.t = false → x.l = (q : Int) → trI ts x.a = trI ts x.b) ∧ Good W wr) (fun i _ => k - (intOf i).toNat)
                  case atStart => exact ⟨0, by omega, rfl, fun y x hy => by omega, HG.out⟩
                  case round =>
                    obtain ⟨p, hp, rfl, HP, hg⟩ := hrel
                    clear HG cf0 cf1 cw0 cw1 hgw
                    obtain ⟨⟨⟨cf0, cf1⟩, cw0, cw1⟩, hgw⟩ := HCW.out wr hg
                    have HG := hideIt hg
                    by_cases hpk : p < k
                    · obtain ⟨b, off, x, rfl, hbl, hxk, hat⟩ := (HLs.out wr hgw).at hpk
                      have e0 := hat.ca
                      have e1 := hat.cb
                      have e2 := hat.cl
                      have e3 := hat.ct
                      have b1 : (0 : Int) ≤ (p : Int) := by omega
                      have b2 : (p : Int) < (k : Int) := by omega
                      have HX := hideIt hxk
                      have HP2 : Hid ((x.t = false → x.l = (q : Int) → trI ts x.a = trI ts x.b) → ∀ y x, y < p + 1 → ls[y]? = some x → x.t = false → x.l = (q : Int) → trI ts x.a = trI ts x.b) := fun hv y z hy hz => by
                        by_cases e : y = p
                        · subst e
                          rw [HX.out] at hz
                          obtain rfl := Option.some.inj hz
                          exact hv
                        · exact HP.out y z (by omega) hz
                      have HGa := hideIt (hg.alloc (.cells #[.int .i64 x.a, .int .i64 x.b, .int .i64 x.l, .bool x.t] 52))
                      have hzw : W1.heap.size < wr.heap.size := by have := hg.size; omega
                      have HS : Hid (∀ u, Good (wr.alloc (.cells #[.int .i64 x.a, .int .i64 x.b, .int .i64 x.l, .bool x.t] 52)) u → ((u.cell? ⟨W1.heap.size, 0, none⟩ = some (.int .i64 (nn : Int)) ∧ u.cell? ⟨W1.heap.size, 1, none⟩ = some (.slice a1 j c1)) ∧ (u.cell? ⟨wr.heap.size, 0, none⟩ = some (.int .i64 x.a) ∧ u.cell? ⟨wr.heap.size, 1, none⟩ = some (.int .i64 x.b))) ∧ u.cell? ⟨wr.heap.size, 2, none⟩ = some (.int .i64 x.l) ∧ u.cell? ⟨wr.heap.size, 3, none⟩ = some (.bool x.t)) := fun u hu => by
                        refine ⟨⟨(HCW.out u (HGa.out.up hu)).1.1, ?_, ?_⟩, ?_, ?_⟩
                        all_goals rw [hu.cell (by simp)]; simp
                      have g0 : Good (wr.alloc (.cells #[.int .i64 x.a, .int .i64 x.b, .int .i64 x.l, .bool x.t] 52)) (wr.alloc (.cells #[.int .i64 x.a, .int .i64 x.b, .int .i64 x.l, .bool x.t] 52)).drew := (Good.refl _).drew
                      clear hxk hat hg HP
                      cases ht : x.t with
                      | true =>
                        rw [ht] at e3 HGa HS g0
                        have HP3 := hideIt (HP2.out fun h => by rw [ht] at h; cases h)
                        have hS0 := HS.out _ g0
                        clear HP2 ht
                        go_wp2
                        go_quiet (fail)
                        go_wp2
                        exact ⟨⟨p + 1, by omega, by go_num, HP3, below_drewN HGa.out _⟩, by simp [intOf]; omega⟩
                      | false =>
                        rw [ht] at e3 HGa HS g0
                        have hS0 := HS.out _ g0
                        by_cases hlq : x.l = (q : Int)
                        · have d2 : (x.l == (q : Int)) = true := by simpa using hlq
                          have HTa : Hid (∀ u, Good (wr.alloc (.cells #[.int .i64 x.a, .int .i64 x.b, .int .i64 x.l, .bool false] 52)) u → Calls Tryz.prog 83 #[.agg #[.int .i64 (nn : Int), .slice a1 j c1], .int .i64 x.a] u fun e w' => e = .returned (.int .i64 (trI ts x.a)) ∧ Good (wr.alloc (.cells #[.int .i64 x.a, .int .i64 x.b, .int .i64 x.l, .bool false] 52)) w') := fun u hu => by
                            have := sTreeOf_any (nn : Int) ts x.a j a1 c1 hln u (HTs.out.up (HGa.out.up hu))
                            rw [treeO_yes HAll.out.fp] at this
                            exact this.mono fun e u' ⟨h1, h2⟩ => ⟨h1, hu.up h2⟩
                          have HTb : Hid (∀ u, Good (wr.alloc (.cells #[.int .i64 x.a, .int .i64 x.b, .int .i64 x.l, .bool false] 52)) u → Calls Tryz.prog 83 #[.agg #[.int .i64 (nn : Int), .slice a1 j c1], .int .i64 x.b] u fun e w' => e = .returned (.int .i64 (trI ts x.b)) ∧ Good (wr.alloc (.cells #[.int .i64 x.a, .int .i64 x.b, .int .i64 x.l, .bool false] 52)) w') := fun u hu => by
                            have := sTreeOf_any (nn : Int) ts x.b j a1 c1 hln u (HTs.out.up (HGa.out.up hu))
                            rw [treeO_yes HAll.out.fp] at this
                            exact this.mono fun e u' ⟨h1, h2⟩ => ⟨h1, hu.up h2⟩
                          obtain ⟨ta, hta⟩ : ∃ ta, trI ts x.a = ta := ⟨_, rfl⟩
                          obtain ⟨tb, htb⟩ : ∃ tb, trI ts x.b = tb := ⟨_, rfl⟩
                          rw [hta] at HTa
                          rw [htb] at HTb
                          by_cases hab : ta = tb
                          · have d3 : (ta != tb) = false := by simpa using hab
                            have HP3 := hideIt (HP2.out fun _ _ => by rw [hta, htb]; exact hab)
                            clear HP2 ht hlq hab hta htb HTr
                            go_wp2
                            go_region_held3 (fun u => ((u.cell? ⟨W1.heap.size, 0, none⟩ = some (.int .i64 (nn : Int)) ∧ u.cell? ⟨W1.heap.size, 1, none⟩ = some (.slice a1 j c1)) ∧ (u.cell? ⟨wr.heap.size, 0, none⟩ = some (.int .i64 x.a) ∧ u.cell? ⟨wr.heap.size, 1, none⟩ = some (.int .i64 x.b))) ∧ u.cell? ⟨wr.heap.size, 2, none⟩ = some (.int .i64 x.l) ∧ u.cell? ⟨wr.heap.size, 3, none⟩ = some (.bool false))
                              (first | exact HS.out _ g5 | exact HS.out _ g4 | exact hS0)
                              (first | (go_at_call 83; refine (HTa.out _ g0).mono ?_; clear HTa; rintro e w4 ⟨rfl, g4⟩) | (go_at_call 83; refine (HTb.out _ g4).mono ?_; rintro e w5 ⟨rfl, g5⟩))
                            go_wp2
                            exact ⟨⟨p + 1, by omega, by go_num, HP3, HGa.out.up g5⟩, by simp [intOf]; omega⟩
                          · have d3 : (ta != tb) = true := by simpa using hab
                            have HN := hideIt (wB_no (N := (nn : Int)) (ls := ls) fun hw => by
                              have h7 := hw.2.2 q hq5
                              rw [Int.toNat_natCast, LvOk_iff HTS.out] at h7
                              have := h7.2 x (List.mem_of_getElem? HX.out) ht hlq
                              rw [hta, htb] at this
                              exact hab this)
                            clear HP2 ht hlq hab hta htb HTr
                            go_wp2
                            go_region_held3 (fun u => ((u.cell? ⟨W1.heap.size, 0, none⟩ = some (.int .i64 (nn : Int)) ∧ u.cell? ⟨W1.heap.size, 1, none⟩ = some (.slice a1 j c1)) ∧ (u.cell? ⟨wr.heap.size, 0, none⟩ = some (.int .i64 x.a) ∧ u.cell? ⟨wr.heap.size, 1, none⟩ = some (.int .i64 x.b))) ∧ u.cell? ⟨wr.heap.size, 2, none⟩ = some (.int .i64 x.l) ∧ u.cell? ⟨wr.heap.size, 3, none⟩ = some (.bool false))
                              (first | exact HS.out _ g5 | exact HS.out _ g4 | exact hS0)
                              (first | (go_at_call 83; refine (HTa.out _ g0).mono ?_; clear HTa; rintro e w4 ⟨rfl, g4⟩) | (go_at_call 83; refine (HTb.out _ g4).mono ?_; rintro e w5 ⟨rfl, g5⟩))
                            go_wp2
                            go_ret
                            exact ⟨by rw [HN.out]; rfl, hfa.up (HCW.out _ (HGa.out.up g5)).2⟩
                        · have d2 : (x.l == (q : Int)) = false := by simpa using hlq
                          have HP3 := hideIt (HP2.out fun _ h => absurd h hlq)
                          clear HP2 ht hlq HTr
                          go_wp2
                          go_quiet (fail)
                          go_wp2
                          exact ⟨⟨p + 1, by omega, by go_num, HP3, below_drewN HGa.out _⟩, by simp [intOf]; omega⟩
                    · obtain rfl : p = k := by omega
                      have HQ2 : Hid (∀ y, y < q + 1 → LvOk nn ls y) := fun y hy => by
                        by_cases e : y = q
                        · subst e
                          exact (LvOk_iff HTS.out).2 ⟨HA.out, fun x hx h1 h2 => by
                            obtain ⟨z, hz⟩ := List.mem_iff_getElem?.1 hx
                            exact HP.out z x (by have := (List.getElem?_eq_some_iff.1 hz).1; omega) hz h1 h2⟩
                        · exact HQ.out y (by omega)
                      have HMs2 : Hid (ms / 2 = nn / 2 ^ (q + 1)) := by show _ = _; rw [HMs.out, Nat.div_div_eq_div_mul, Nat.pow_succ]
                      clear HP hg
                      go_wp2
                      exact ⟨⟨q + 1, ms / 2, by omega, by omega, by go_num, by first | rfl | (congr 1; omega) | go_num, HMs2, HQ2, hgw⟩, by simp [intOf]; omega⟩
          · have d0 : decide ((q : Int) ≤ 4) = false := decide_eq_false (by omega)
            have HY := hideIt (wB_yes (N := (nn : Int)) (ls := ls) ⟨HG0.out, HLv.out, fun i hi => by rw [Int.toNat_natCast]; exact HQ.out i (by omega)⟩)
            clear HQ
            go_wp2
            go_ret
            exact ⟨by rw [HY.out]; rfl, hfa.up hg⟩
end Go.Proofs.YtpfkfbmghddepaaGreat
namespace Go.Proofs.YtpfkfbmghddepaaGreat
open Go.RowKit

/-- labels in the making beside a forest: nothing else has turned -/
structure LbSt (w : World) (N : Int) (a : Option Addr) (n c : Nat) (lo X : Nat) (a2 : Option Addr) (m2 c2 : Nat) (R : List Rw) (g m co : Nat) (L : List Int) (u : World) : Prop where
  own : u.ownsRow (w.heap.size + 1) 3 1 (.slice (some ⟨g, 0, none⟩) m co) m (ic L)
  box : Box7 u X 57 (.int .i64 N) (.slice a2 m2 c2)
  fb : FB u lo u.heap.size a2 m2 c2 R
  apart : ∀ x ∈ R, g ≠ x.g
  bel : Below (w.heap.size + 1) (wW w N a n c) u
theorem LbSt.size {w : World} {N : Int} {a : Option Addr} {n c lo X : Nat} {a2 : Option Addr} {m2 c2 : Nat} {R : List Rw} {g m co : Nat} {L : List Int} {u : World} (h : LbSt w N a n c lo X a2 m2 c2 R g m co L u) : w.heap.size + 1 ≤ u.heap.size := by have := h.bel.size; rw [wW_size] at this; exact this
theorem LbSt.up {w : World} {N : Int} {a : Option Addr} {n c lo X : Nat} {a2 : Option Addr} {m2 c2 : Nat} {R : List Rw} {g m co : Nat} {L : List Int} {u v : World} (h : LbSt w N a n c lo X a2 m2 c2 R g m co L u) (hb : Below u.heap.size u v) : LbSt w N a n c lo X a2 m2 c2 R g m co L v :=
  ⟨own_up h.own hb, h.box.up hb, h.fb.keep hb, h.apart, h.bel.trans (hb.mono h.size)⟩
theorem LbSt.app {w : World} {N : Int} {a : Option Addr} {n c lo X : Nat} {a2 : Option Addr} {m2 c2 : Nat} {R : List Rw} {g m co : Nat} {L : List Int} {u u' : World} (h : LbSt w N a n c lo X a2 m2 c2 R g m co L u) {G cap : Nat} {y : Int}
    (ho : u'.ownsRow (w.heap.size + 1) 3 1 (.slice (some ⟨G, 0, none⟩) (m + 1) cap) (m + 1) (ic L ++ [.int .i64 y])) (hg : u.grownBy u' (some g)) (hG : g = G ∨ G = u.heap.size) : LbSt w N a n c lo X a2 m2 c2 R G (m + 1) cap (L ++ [y]) u' := by
  rw [← ic_snoc] at ho
  have hne : X ≠ g := fun e => by
    have hb : u.heap[X]? = some (.cells #[.int .i64 N, .slice a2 m2 c2] 57 (0, 0)) := h.box
    obtain ⟨cur, h2⟩ := own_blk h.own
    rw [e, h2] at hb
    simp at hb
  refine ⟨ho, h.box.grown hg (by simpa using hne), h.fb.other h.own (by decide) (fun r hr e => h.apart r hr (by simpa [Value.ownBlock] using e)) hg, fun x hx e => ?_, ?_⟩
  · rcases hG with h1 | h1
    · exact h.apart x hx (by omega)
    · have := (h.fb.ins x hx).2.2; omega
  · exact h.bel.grown hg h.size (fun j hj => by cases hj; exact (h.own.lt g rfl).1)
/-- the first of a right tour's vertices -/
theorem vertsFirst9 {w2 : World} {q : List Int} (hB : tB q = true) (y : Option Addr) (cy : Nat) (hfq : q.length ≤ 3000000) (u : World) (hu : Good w2 u) (h : Is u u.heap.size y q.length q) :
    Calls Tryz.prog 82 #[.slice y q.length cy] u fun e v => ∃ g3 m3 c3, e = .returned (.slice (some ⟨g3, 0, none⟩) m3 c3) ∧ 0 < m3 ∧ v.cell? ⟨g3, 0, none⟩ = some (.int .i64 (mnV q)) ∧ g3 < v.heap.size ∧ Good w2 v :=
  (sVertsOf_any q q.length y cy hfq u h).mono fun e v ⟨a3, m3, c3, he, ho, hb⟩ => by
    have hm : (vsL q).length = m3 := by have := ho.1; rw [ic_len] at this; omega
    have hp : 0 < m3 := by have := vs_pos hB; omega
    obtain ⟨g, c3', hf, _⟩ := ho.form hp
    simp at hf
    obtain ⟨rfl, rfl⟩ := hf
    exact ⟨g, m3, c3, he, hp, by rw [ho.cellAt 0 (by omega)]; exact ic_at (vs_first hB), (ho.lt g rfl).2, hu.up hb⟩

set_option maxRecDepth 100000 in
set_option maxHeartbeats 4000000 in
theorem sWebLabels_any (N : Int) (ls : List Ld) (n : Nat) (a : Option Addr) (c : Nat) (hn : n ≤ 1048576) (w : World) (h : Ls w w.heap.size a n ls) :
    Calls Tryz.prog 42 #[.agg #[.int .i64 N, .slice a n c]] w (IAns w (lbO N ls)) := by
  obtain ⟨i0, hi, hz0, hz1, hz2⟩ := info_parts info3i
  have hfa : Good w (wW w N a n c) := wW_good w N a n c
  have hf2 : Good (wW w N a n c) ((wW w N a n c).alloc (.cells #[] 3)) := (Good.refl _).alloc _
  have HO := sWebOk_any N ls n a c hn _ ((h.up hfa).up hf2)
  by_cases hW : WOk N ls
  · obtain ⟨nn, rfl, hn1, hn12⟩ := gB_n hW.1
    obtain ⟨ts, hts, hall⟩ := hW.trees 0 (by omega)
    have hts : ftK (fE ls 0) nn nn = some ts := hts
    rw [wB_yes hW] at HO
    have HO := hideIt HO
    have HF : Hid (∀ u, Good (wW w (nn : Int) a n c) u → Calls Tryz.prog 81 #[.agg #[.int .i64 (nn : Int), .slice a n c], .int .i64 0] u (FAn9 u (nn : Int) (some ts))) := fun u hu => by
      have := sForestAt_any nn ls 0 n a c hn1 hn12 hW.1 u ((h.up hfa).up hu)
      rw [hts] at this
      exact this
    have HL := hideIt (lbO_yes hW hts)
    have HAll := hideIt hall
    have HO0 : Hid (((wW w (nn : Int) a n c).alloc (.cells #[] 3)).ownsRow (w.heap.size + 1) 3 1 (.slice (some ⟨w.heap.size + 1, 0, none⟩) 0 0) 0 (ic [])) := by
      show World.ownsRow _ _ _ _ _ _ _
      have h0 := World.ownsRow_lit (base := w.heap.size + 1) (e := 3) (size := 1) (wW w (nn : Int) a n c) #[] 0 (by rw [wW_size]; omega) (by unfold maxLen; omega) (by simp)
      rw [wW_size] at h0
      simpa [ic] using h0
    clear h hW hts hall
    go_enter Tryz.func42, Tryz.ntmps42
    go_wp2_with (go_at_call 20; refine HO.out.mono ?_; rintro e w1 ⟨rfl, hb1⟩; refine Hid.out ?_)
    refine (show ∀ {p : Prop}, p → Hid p from fun h => h) ?_
    have G1 : Good (wW w (nn : Int) a n c) w1 := hf2.up hb1
    have HO1 := hideIt (own_up HO0.out hb1)
    have G1b : Below (w.heap.size + 1) (wW w (nn : Int) a n c) w1 := by have := G1; unfold Good at this; rwa [wW_size] at this
    obtain ⟨cw0, cw1⟩ := wW_cells G1b
    have HF1 := hideIt (HF.out w1 G1)
    clear HO HO0 hb1 HF G1b
    go_wp2_with (go_at_call 81; refine HF1.out.mono ?_; rintro e w2 ⟨a2, m2, c2, R2, rfl, hF2, hR2, hb2⟩; refine Hid.out ?_)
    refine (show ∀ {p : Prop}, p → Hid p from fun h => h) ?_
    simp only [Option.getD_some] at hR2
    have hT2 : Ts w2 w2.heap.size a2 m2 ts := by rw [← hR2]; exact hF2.ts
    obtain ⟨W, hW⟩ : ∃ W, W = w2.alloc (.cells #[.int .i64 (nn : Int), .slice a2 m2 c2] 57) := ⟨_, rfl⟩
    have hbW : Below w2.heap.size w2 W := by rw [hW]; exact (Below.refl _ _).alloc (Nat.le_refl _) _
    have hzW : W.heap.size = w2.heap.size + 1 := by rw [hW]; simp
    have G2 := (G1.up hb2).up hbW
    have HO2 := hideIt (own_up (own_up HO1.out hb2) hbW)
    have zW := G2.size
    rw [wW_size] at zW
    have HTs := hideIt (hT2.up hbW)
    have hz2' : w.heap.size + 1 ≤ w2.heap.size := by have := (G1.up hb2).size; rw [wW_size] at this; exact this
    have HR2 := hideIt hR2
    have HSt0 : Hid (LbSt w (nn : Int) a n c w1.heap.size w2.heap.size a2 m2 c2 R2 (w.heap.size + 1) 0 0 ((labW ts nn).take 0) W) := by
      refine ⟨by simpa using HO2.out, by rw [hW]; exact Box7.new _ _ _ _ _ rfl, hF2.keep hbW, fun x hx e => ?_, ?_⟩
      · have := (hF2.ins x hx).2.1
        have := (HO1.out.lt (w.heap.size + 1) rfl).2
        omega
      · have := G2; unfold Good at this; rwa [wW_size] at this
    have hm12 : m2 ≤ 12 := by have := HAll.out.fp.2.2.1; have := HTs.out.1; omega
    clear HF1 HO1 hF2 hR2 hT2 hb2 hbW G1 G2 cw0 cw1 HO2
    go_wp2
    rw [← hW]
    go_loopw [3, 6] (fun r i wr => ∃ (k g co : Nat), k ≤ nn ∧ i = .int .i64 (k : Int) ∧ r = .slice (some ⟨g, 0, none⟩) k co ∧ LbSt w (nn : Int) a n c w1.heap.size w2.heap.size a2 m2 c2 R2 g k co ((labW ts nn).take k) wr) (fun _ i _ => nn - (intOf i).toNat)
    case atStart => exact ⟨0, _, 0, by omega, rfl, rfl, HSt0.out⟩
    case round =>
      obtain ⟨k, g, co, hk, rfl, rfl, hst⟩ := hrel
      clear HSt0
      have cw0 := (wW_cells hst.bel).1
      by_cases hlt : k < nn
      · obtain ⟨t, htm, hvt⟩ := HAll.out.cov (k : Int) (by omega) (by omega)
        obtain ⟨kt, hkt⟩ := List.mem_iff_getElem?.1 htm
        have htr := trI_of HAll.out.fp.q hkt hvt
        have hB := (HAll.out.fp.q.1 t htm).1
        have hl23 := tB_len hB
        have HLab := hideIt (labW_at HAll.out hlt htm hvt)
        have hktl := (List.getElem?_eq_some_iff.1 hkt).1
        rcases (show Ts wr wr.heap.size a2 m2 ts by rw [← HR2.out]; exact hst.fb.ts).2 with hz | ⟨b, off, rfl, hbl, hc⟩
        · have := HTs.out.1; omega
        obtain ⟨x, cx, e0, iI, _⟩ := hc kt t hkt
        have HSt := hideIt hst
        have HKt := hideIt hkt
        have HRw : Hid (∀ {g' k' co' : Nat} {L' : List Int} (u : World), LbSt w (nn : Int) a n c w1.heap.size w2.heap.size (some ⟨b, off, none⟩) m2 c2 R2 g' k' co' L' u → u.cell? ⟨b, off + kt, none⟩ = some (.slice x t.length cx)) := fun {g' k' co' L'} u hu => by
          have hoff : off = 0 := by
            rcases hu.fb.own.2 with ⟨h3, _⟩ | ⟨g3, cap, cur, hv, _⟩
            · simp at h3
            · simp at hv; omega
          subst hoff
          have hj : kt < R2.length := by rw [← rts_len, HR2.out]; exact hktl
          have h1 : u.cell? ⟨b, kt, none⟩ = (rhs R2)[kt]? := hu.fb.own.cellAt kt (by have := hu.fb.len; omega)
          have h2 : wr.cell? ⟨b, kt, none⟩ = (rhs R2)[kt]? := HSt.out.fb.own.cellAt kt (by have := HSt.out.fb.len; omega)
          rw [Nat.zero_add] at e0 ⊢
          rw [h1, ← h2]
          exact e0
        have HTr : Hid (∀ u, Good wr u → Calls Tryz.prog 83 #[.agg #[.int .i64 (nn : Int), .slice (some ⟨b, off, none⟩) m2 c2], .int .i64 (k : Int)] u fun e w' => e = .returned (.int .i64 (kt : Int)) ∧ Good wr w') := fun u hu => by
          have hT : Ts u u.heap.size (some ⟨b, off, none⟩) m2 ts := by rw [← HR2.out]; exact (HSt.out.up hu).fb.ts
          have := sTreeOf_any (nn : Int) ts (k : Int) m2 (some ⟨b, off, none⟩) c2 (by have := hT.1; have := ft_lnS HAll.out; omega) u hT
          rw [treeO_yes HAll.out.fp, htr] at this
          exact this.mono fun e u' ⟨h1, h2⟩ => ⟨h1, hu.up h2⟩
        have HVf : Hid (∀ u, Good wr u → Calls Tryz.prog 82 #[.slice x t.length cx] u fun e v => ∃ g3 m3 c3, e = .returned (.slice (some ⟨g3, 0, none⟩) m3 c3) ∧ 0 < m3 ∧ v.cell? ⟨g3, 0, none⟩ = some (.int .i64 (mnV t)) ∧ g3 < v.heap.size ∧ Good wr v) := fun u hu => vertsFirst9 hB x cx (by omega) u hu (iI.up hu)
        have HS : Hid (∀ u, Good wr u → (u.cell? ⟨w2.heap.size, 0, none⟩ = some (.int .i64 (nn : Int)) ∧ u.cell? ⟨w2.heap.size, 1, none⟩ = some (.slice (some ⟨b, off, none⟩) m2 c2)) ∧ u.cell? ⟨b, off + kt, none⟩ = some (.slice x t.length cx)) := fun u hu => ⟨⟨(HSt.out.up hu).box.cell0, (HSt.out.up hu).box.cell1⟩, HRw.out u (HSt.out.up hu)⟩
        have g0 : Good wr wr.drew := (Good.refl _).drew
        have b1 : (0 : Int) ≤ (kt : Int) := by omega
        have b2 : (kt : Int) < (m2 : Int) := by have := HTs.out.1; omega
        have hkl : k < (labW ts nn).length := by rw [labW_len]; exact hlt
        have HTk : Hid ((labW ts nn).take (k + 1) = (labW ts nn).take k ++ [mnV t]) := take_snocF _ _ _ HLab.out
        clear hst htm hvt hkt htr hB hc e0 iI hkl hktl
        go_upto_region 8 with fail
        refine wp_region_held_drew (S := (fun u => (u.cell? ⟨w2.heap.size, 0, none⟩ = some (.int .i64 (nn : Int)) ∧ u.cell? ⟨w2.heap.size, 1, none⟩ = some (.slice (some ⟨b, off, none⟩) m2 c2)) ∧ u.cell? ⟨b, off + kt, none⟩ = some (.slice x t.length cx))) (by kernel_rfl) (HS.out _ g0) (fun hHeld => ?_)
        refine wpAnyH_take (i := 0) (v := ?_) rfl (by kernel_rfl) (by kernel_rfl) (by kernel_rfl) (fun _ _ _ h => h) (Or.inl ⟨by rfl, ?_⟩) (by assumption) ?_
        rotate_left
        · intro w hSw; (try dsimp only at hSw); go_simp; try with_reducible rfl
        try simp only [Act.put, List.getElem_toArray, List.getElem_cons_zero, List.setIfInBounds_toArray, List.set_cons_zero, List.set_cons_succ]
        refine wpAnyH_take (i := 1) (v := ?_) rfl (by kernel_rfl) (by kernel_rfl) (by kernel_rfl) (fun _ _ _ h => h) (Or.inl ⟨by rfl, ?_⟩) (by assumption) ?_
        rotate_left
        · intro w hSw; (try dsimp only at hSw); go_simp; try with_reducible rfl
        try simp only [Act.put, List.getElem_toArray, List.getElem_cons_succ, List.getElem_cons_zero, List.setIfInBounds_toArray, List.set_cons_zero, List.set_cons_succ]
        refine wpAnyH_take (i := 2) (v := ?_) rfl (by kernel_rfl) (by kernel_rfl) (by kernel_rfl) (fun _ _ _ h => h) (Or.inl ⟨by rfl, ?_⟩) (by assumption) ?_
        rotate_left
        · intro w hSw; (try dsimp only at hSw); go_simp; try with_reducible rfl
        try simp only [Act.put, List.getElem_toArray, List.getElem_cons_succ, List.getElem_cons_zero, List.setIfInBounds_toArray, List.set_cons_zero, List.set_cons_succ]
        refine wpAnyH_take (i := 3) (v := ?_) rfl (by kernel_rfl) (by kernel_rfl) (by kernel_rfl) (fun _ _ _ h => h) (Or.inl ⟨by rfl, ?_⟩) (by assumption) ?_
        rotate_left
        · intro w hSw; (try dsimp only at hSw); go_simp; try with_reducible rfl
        try simp only [Act.put, List.getElem_toArray, List.getElem_cons_succ, List.getElem_cons_zero, List.setIfInBounds_toArray, List.set_cons_zero, List.set_cons_succ]
        refine wpAnyH_take (i := 4) (v := ?_) rfl (by kernel_rfl) (by kernel_rfl) (by kernel_rfl) (fun _ _ _ h => h) (Or.inl ⟨by rfl, ?_⟩) (by assumption) ?_
        rotate_left
        · intro w hSw; (try dsimp only at hSw); go_simp; try with_reducible rfl
        try simp only [Act.put, List.getElem_toArray, List.getElem_cons_succ, List.getElem_cons_zero, List.setIfInBounds_toArray, List.set_cons_zero, List.set_cons_succ]
        refine wpAnyH_ready (rs := [5]) (by kernel_rfl) (by simp) ?_
        refine AllReadyH.cons rfl (fun K hK => ?_) AllReadyH.nil
        rw [if_pos (show Region.wanted _ _ = true by rfl)]
        go_wp2_with (go_at_call 83; refine (HTr.out _ g0).mono ?_; rintro e w4 ⟨rfl, g4⟩; refine Hid.out ?_)
        refine (show ∀ {p : Prop}, p → Hid p from fun h => h) ?_
        refine hK.out _ _ (HS.out _ g4) (fun hHeld => ?_)
        clear hK K
        try simp only [Act.put, List.getElem_toArray, List.getElem_cons_succ, List.getElem_cons_zero, List.setIfInBounds_toArray, List.set_cons_zero, List.set_cons_succ]
        refine wpAnyH_ready (rs := [6]) (by kernel_rfl) (by simp) ?_
        refine AllReadyH.cons rfl (fun K hK => ?_) AllReadyH.nil
        go_simp
        refine hK.out _ _ (by assumption) (fun hHeld => ?_)
        clear hK K
        try simp only [Act.put, List.getElem_toArray, List.getElem_cons_succ, List.getElem_cons_zero, List.setIfInBounds_toArray, List.set_cons_zero, List.set_cons_succ]
        refine wpAnyH_ready (rs := [7]) (by kernel_rfl) (by simp) ?_
        refine AllReadyH.cons rfl (fun K hK => ?_) AllReadyH.nil
        go_simp
        refine hK.out _ _ (by assumption) (fun hHeld => ?_)
        clear hK K
        try simp only [Act.put, List.getElem_toArray, List.getElem_cons_succ, List.getElem_cons_zero, List.setIfInBounds_toArray, List.set_cons_zero, List.set_cons_succ]
        refine wpAnyH_ready (rs := [8]) (by kernel_rfl) (by simp) ?_
        refine AllReadyH.cons rfl (fun K hK => ?_) AllReadyH.nil
        rw [if_pos (show Region.wanted _ _ = true by rfl)]
        go_wp2_with (go_at_call 82; refine (HVf.out _ g4).mono ?_; rintro e w5 ⟨g5, m5, c5, rfl, hm5, hc5, hl5, g5'⟩; refine Hid.out ?_)
        refine (show ∀ {p : Prop}, p → Hid p from fun h => h) ?_
        refine hK.out _ _ (HS.out _ g5') (fun hHeld => ?_)
        clear hK K
        try simp only [Act.put, List.getElem_toArray, List.getElem_cons_succ, List.getElem_cons_zero, List.setIfInBounds_toArray, List.set_cons_zero, List.set_cons_succ]
        refine wpAnyH_ready (rs := [9]) (by kernel_rfl) (by simp) ?_
        refine AllReadyH.cons rfl (fun K hK => ?_) AllReadyH.nil
        go_simp
        refine hK.out _ _ (by assumption) (fun hHeld => ?_)
        clear hK K
        try simp only [Act.put, List.getElem_toArray, List.getElem_cons_succ, List.getElem_cons_zero, List.setIfInBounds_toArray, List.set_cons_zero, List.set_cons_succ]
        refine wpAnyH_ready (rs := [10]) (by kernel_rfl) (by simp) ?_
        refine AllReadyH.cons rfl (fun K hK => ?_) AllReadyH.nil
        go_simp
        refine hK.out _ _ (by assumption) (fun hHeld => ?_)
        clear hK K
        try simp only [Act.put, List.getElem_toArray, List.getElem_cons_succ, List.getElem_cons_zero, List.setIfInBounds_toArray, List.set_cons_zero, List.set_cons_succ]
        refine wpAnyH_ready (rs := [11]) (by kernel_rfl) (by simp) ?_
        refine AllReadyH.cons rfl (fun K hK => ?_) AllReadyH.nil
        go_simp
        refine hK.out _ _ (HS.out _ (g5'.alloc _)) (fun hHeld => ?_)
        clear hK K
        try simp only [Act.put, List.getElem_toArray, List.getElem_cons_succ, List.getElem_cons_zero, List.setIfInBounds_toArray, List.set_cons_zero, List.set_cons_succ]
        refine wpAnyH_ready (rs := [12]) (by kernel_rfl) (by simp) ?_
        refine AllReadyH.cons rfl (fun K hK => ?_) AllReadyH.nil
        refine step_append_lies _ (by rfl) _ _ _ (by rfl) (w.heap.size + 1) 3 i0 _ 1 8 Tryz.underlying44 hi hz0 hz1 hz2 rfl (by decide) _ k _ (by rfl) ((HSt.out.up (g5'.alloc (.cells #[.int .i64 (mnV t)] 3))).own) ⟨w5.heap.size, 0, none⟩ 1 1 [.int .i64 (mnV t)] (by rfl) (by rfl) (newsI w5 (mnV t)) (by intro u hu; simp at hu; subst hu; rfl) (by omega) (by unfold maxLen; omega) (by omega) (by have := (HSt.out.up (g5'.alloc (.cells #[.int .i64 (mnV t)] 3))).size; omega) (w5.heap.size + 1) (by simp) ?_
        intro g6 c6 w6 hown6 hg6 hat6 hlt6
        have S6 := (HSt.out.up (g5'.alloc (.cells #[.int .i64 (mnV t)] 3))).app hown6 hg6 (hat6.imp (fun h1 => by simpa [Value.ownBlock] using h1) (fun h1 => by simpa using h1))
        refine hK.out _ _ ⟨⟨S6.box.cell0, S6.box.cell1⟩, HRw.out _ S6⟩ (fun hHeld => ?_)
        clear hK K
        try simp only [Act.put, List.getElem_toArray, List.getElem_cons_succ, List.getElem_cons_zero, List.setIfInBounds_toArray, List.set_cons_zero, List.set_cons_succ]
        refine wpAnyH_ready (rs := [13]) (by kernel_rfl) (by simp) ?_
        refine AllReadyH.cons rfl (fun K hK => ?_) AllReadyH.nil
        go_simp
        refine hK.out _ _ (by assumption) (fun hHeld => ?_)
        clear hK K
        try simp only [Act.put, List.getElem_toArray, List.getElem_cons_succ, List.getElem_cons_zero, List.setIfInBounds_toArray, List.set_cons_zero, List.set_cons_succ]
        refine wpAnyH_done (by kernel_rfl) ?_ _
        have HS6 := hideIt S6
        clear S6 hown6 hg6 hat6 hlt6 hc5 hl5 hHeld
        go_wp2
        exact ⟨⟨k + 1, g6, c6, by omega, by go_num, rfl, by rw [HTk.out]; exact HS6.out⟩, by simp [intOf]; omega⟩
      · obtain rfl : k = nn := by omega
        have HT : Hid ((labW ts k).take k = labW ts k) := by show _ = _; rw [List.take_of_length_le (by rw [labW_len]; omega)]
        have HSt := hideIt hst
        clear hst
        go_wp2
        go_ret
        exact ⟨_, _, _, rfl, by rw [HL.out, ← HT.out]; exact own_mono HSt.out.own (by omega), hfa.trans (HSt.out.bel.mono (by omega))⟩
  · rw [wB_no hW] at HO
    have HO := hideIt HO
    have HL := hideIt (lbO_no hW)
    have HO0 : Hid (((wW w N a n c).alloc (.cells #[] 3)).ownsRow (w.heap.size + 1) 3 1 (.slice (some ⟨w.heap.size + 1, 0, none⟩) 0 0) 0 (ic [])) := by
      show World.ownsRow _ _ _ _ _ _ _
      have h0 := World.ownsRow_lit (base := w.heap.size + 1) (e := 3) (size := 1) (wW w N a n c) #[] 0 (by rw [wW_size]; omega) (by unfold maxLen; omega) (by simp)
      rw [wW_size] at h0
      simpa [ic] using h0
    clear h hW
    go_enter Tryz.func42, Tryz.ntmps42
    go_wp2_with (go_at_call 20; refine HO.out.mono ?_; rintro e w1 ⟨rfl, hb1⟩)
    go_ret
    exact ⟨_, _, _, rfl, by rw [HL.out]; exact own_mono (own_up HO0.out hb1) (by omega), (hfa.up hf2).up hb1⟩
end Go.Proofs.YtpfkfbmghddepaaGreat
