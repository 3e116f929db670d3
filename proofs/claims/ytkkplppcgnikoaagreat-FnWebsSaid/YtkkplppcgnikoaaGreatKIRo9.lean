/- The program's shareOut and ForestOk. The program's placeTold, TreeOf and SizeOf. The program's plantable and ForestAt, where the graph is right. The program's ForestAt, where the graph is right. The specification's ForestAt, where the graph is right. The program's rootsOf. -/
import Derived.Test.YtkkplppcgnikoaaGreatKSh7
import Derived.Test.YtkkplppcgnikoaaGreatKIVerts
import Derived.Test.YtkkplppcgnikoaaGreatKCon9
import Derived.Test.YtkkplppcgnikoaaGreatKIRer
import Derived.Test.YtkkplppcgnikoaaGreatKLk7
import Derived.Test.YtkkplppcgnikoaaGreatKLb9
import Derived.Test.YtkkplppcgnikoaaGreatKSAdd9
import Derived.Test.YtkkplppcgnikoaaGreatKITrees
import Derived.Test.YtkkplppcgnikoaaGreatKSTr9
namespace Go.Proofs.YtkkplppcgnikoaaGreat
open Go.RowKit Go.Sort Go.Lib

/-- a whole list laid behind -/
theorem ISt.appL7 {wb : World} {a : Option Addr} {m c k : Nat} {ls xs : List Int} {u : World} (h : ISt wb a m c ls u) {v : Value} {u' : World}
    (ho : u'.ownsRow wb.heap.size 3 1 v (m + k) (ic ls ++ ic xs)) (hg : u.grownBy u' (Value.slice a m c).ownBlock) :
    ∃ a' c', v = .slice a' (m + k) c' ∧ ISt wb a' (m + k) c' (ls ++ xs) u' := by
  obtain ⟨a', c', rfl⟩ := own_form ho
  rw [show ic ls ++ ic xs = ic (ls ++ xs) by simp [ic]] at ho
  refine ⟨a', c', rfl, ho, ?_⟩
  exact h.bel.grown hg h.size (fun j hj => (h.own.lt j hj).1)

set_option maxRecDepth 100000 in
set_option maxHeartbeats 2000000 in
theorem shareOut_any (N : Int) (ts : List (List Int)) (hA : asP ts) (n : Nat) (a : Option Addr) (c : Nat) (w : World) (h : Ts w w.heap.size a n ts) :
    Calls Tryz.prog 237 #[.int .i64 N, .slice a n c] w fun e w' => ∃ b, e = .returned (.bool b) ∧ (b = true ↔ (srtI (allV ts) = rangeI (srtI (allV ts)).length ∧ ((srtI (allV ts)).length : Int) = N)) ∧ Below w.heap.size w w' := by
  obtain ⟨i0, hi, hz0, hz1, hz2⟩ := info_parts info3i
  have hlen := h.1
  have hn12 := asP_len hA
  have HA := hideIt h
  have HAS := hideIt hA
  have S0 := ISt.start w
  clear h hA
  go_enter Tryz.func237, Tryz.ntmps237
  go_wp2
  go_loopw [5, 11] (fun r i wr => ∃ (k m c1 : Nat) (a1 : Option Addr), k ≤ n ∧ m ≤ 12 * k ∧ i = .int .i64 (k : Int) ∧ r = .slice a1 m c1 ∧ Hid (a1 ≠ none) ∧ ISt w a1 m c1 (allV (ts.take k)) wr) (fun _ i _ => n - (intOf i).toNat)
  case atStart => exact ⟨0, 0, 0, _, by omega, by omega, rfl, rfl, by simp [Hid], by rw [List.take_zero]; exact S0⟩
  case round =>
    obtain ⟨k, m, c1, a1, hk, hmk, rfl, rfl, HN1, hst⟩ := hrel
    clear S0
    by_cases hlt : k < n
    · obtain ⟨t, ht⟩ : ∃ t, ts[k]? = some t := ⟨ts[k]'(by omega), List.getElem?_eq_getElem (by omega)⟩
      rcases (HA.out.up hst.bel).2 with hz | ⟨b, off, rfl, hbl, hc⟩
      · omega
      · obtain ⟨x, cx, e0, iI, _⟩ := hc k t ht
        have hB := asP_B HAS.out t (List.mem_of_getElem? ht)
        have hl := tB_len hB
        have b1 : (0 : Int) ≤ (k : Int) := by omega
        have b2 : (k : Int) < (n : Int) := by omega
        have HV := hideIt (iVertsOf_any t t.length x cx (by omega) wr iI)
        have HST := hideIt hst
        have HT2 : Hid (allV (ts.take k) ++ vsL t = allV (ts.take (k + 1))) := by show _ = _; rw [take_snocF ts k t ht, allV_snoc]
        have HPos := hideIt (vs_pos hB)
        have HLen := hideIt (vsL_len t)
        clear hc ht iI hst hB
        go_wp2_with (go_at_call 169; refine HV.out.mono ?_; rintro e w1 ⟨a2, m2, c2, rfl, ho, hb⟩; refine Hid.out ?_)
        refine (show ∀ {p : Prop}, p → Hid p from fun h => h) ?_
        have hm2 : (vsL t).length = m2 := by have := ho.1; rw [ic_len] at this; omega
        have hp2 : 0 < m2 := by have := HPos.out; omega
        have hl2 : m2 ≤ 12 := by have := HLen.out; omega
        rcases ho.2 with ⟨_, h0⟩ | ⟨g, cap, cur, hv, hrest⟩
        · omega
        · simp at hv
          obtain ⟨rfl, rfl⟩ := hv
          have HST2 := hideIt (HST.out.up hb)
          have hsz := HST2.out.size
          have HNews : Hid (∀ j u, (ic (vsL t))[j]? = some u → w1.cell? ((⟨g, 0, none⟩ : Addr).add j) = some u) := fun j u hj => by
            have hj2 := (List.getElem?_eq_some_iff.1 hj).1
            rw [ic_len] at hj2
            have := ho.cellAt j (by omega)
            rw [show (⟨g, 0, none⟩ : Addr).add j = ⟨g, j, none⟩ by by_cases h0 : j = 0 <;> simp [Addr.add, h0], this]
            exact hj
          have HL := hideIt (show (ic (vsL t)).length = m2 * 1 by rw [ic_len]; omega)
          clear HST hb hrest ho HV hm2
          go_wp2_with (at_builtin; refine wpList_append_own _ rfl _ _ 44 rfl w.heap.size 3 i0 _ 1 8 Tryz.underlying44 hi hz0 hz1 hz2 rfl (by decide) _ _ _ rfl HST2.out.own ⟨g, 0, none⟩ m2 c2 (ic (vsL t)) rfl HL.out HNews.out (by intro u hu; simp [ic] at hu; obtain ⟨q, _, rfl⟩ := hu; rfl) (by unfold maxLen; omega) (by omega) (by omega) ?_)
          intro v5 w5 hown5 hg5 hnil
          obtain ⟨a5, c5, rfl, S5⟩ := HST2.out.appL7 hown5 hg5
          have HN5 : Hid (a5 ≠ none) := fun e => by
            subst e
            rcases hown5.2 with ⟨_, h0⟩ | ⟨g6, _, _, hv6, _⟩
            · omega
            · simp at hv6
          clear hown5 hg5 HST2 HNews hnil
          go_wp2
          exact ⟨⟨k + 1, m + m2, c5, a5, by omega, by omega, by go_num, rfl, HN5, by rw [← HT2.out]; exact S5⟩, by simp [intOf]; omega⟩
    · obtain rfl : k = n := by omega
      have hm : (allV ts).length = m := by
        have := hst.len
        rw [List.take_of_length_le (by omega)] at this
        exact this
      rw [List.take_of_length_le (by omega)] at hst
      rcases hst.own.2 with ⟨hv, _⟩ | ⟨g, cap, cur, hv, hg, hgb, r1, r2, r3, r4⟩
      · simp at hv
        exact absurd hv.1 HN1.out
      · have hv' := hv
        simp at hv'
        obtain ⟨rfl, rfl⟩ := hv'
        have hgl : g < wr.heap.size := (Array.getElem?_eq_some_iff.1 hgb).1
        have HS := Tryz.slices_Sort_int g 0 c1 (allV ts) wr (holds_of_blockI hgb (by rw [hm]; rw [Nat.mul_one] at r4; exact r4)) hgl (by omega)
        rw [hm] at HS
        have HO : Hid (∀ q os, ISt w (some ⟨g, 0, none⟩) m c1 (srtI (allV ts)) (grow (putRow (Value.int .i64) (Sort.ahead wr q) g 0 (srtI (allV ts)).toArray) os)) := fun q os => by
          have h1 := ownsRow_sortedI (n := q) (os := os) (ss := allV ts) (ts := srtI (allV ts)) (by unfold srtI; rw [List.length_mergeSort]) hg hgb (by rw [hm]; exact r1) r2 r3
          rw [hm] at h1
          exact ⟨h1, hst.bel.grown (grownBy_sortedI _) hst.size (fun j e => by cases e; exact hg)⟩
        have HL : Hid ((srtI (allV ts)).length = m) := by show _ = _; rw [(srtI_perm (allV ts)).length_eq]; exact hm
        have HSo : Hid (Calls Tryz.prog 276 #[.slice (some ⟨g, 0, none⟩) m c1] wr fun e w' => e = .returned (.tuple #[]) ∧ ISt w (some ⟨g, 0, none⟩) m c1 (srtI (allV ts)) w') :=
          HS.mono (by
            rintro e w2 ⟨rfl, q, os, rfl⟩
            exact ⟨rfl, HO.out q os⟩)
        clear HS HO hgb r1 r2 r3 r4 hst hv hm
        obtain ⟨S, hSe⟩ : ∃ S, srtI (allV ts) = S := ⟨_, rfl⟩
        rw [hSe] at HL HSo
        have HSe := hideIt hSe
        clear hSe
        have hm12 : m ≤ 144 := by omega
        go_wp2_with (go_at_call 276; refine HSo.out.mono ?_; rintro e w2 ⟨rfl, hS⟩; refine Hid.out ?_)
        refine (show ∀ {p : Prop}, p → Hid p from fun h => h) ?_
        have HSt := hideIt hS
        clear hS HSo
        go_wp2
        go_loopw [26] (fun i wq => ∃ j : Nat, j ≤ m ∧ i = .int .i64 (j : Int) ∧ Hid (∀ p, p < j → S[p]? = some (p : Int)) ∧ wq = w2) (fun i _ => m - (intOf i).toNat)
        case atStart => exact ⟨0, by omega, rfl, fun p hp => by omega, rfl⟩
        case round =>
          obtain ⟨j, hj, rfl, HJ, hw⟩ := hrel
          have hw' := hw.symm
          subst hw'
          clear hw
          by_cases hjl : j < m
          · obtain ⟨f, hf⟩ : ∃ f, S[j]? = some f := ⟨S[j]'(by have := HL.out; omega), List.getElem?_eq_getElem _⟩
            have e0 : w2.cell? ⟨g, j, none⟩ = some (.int .i64 f) := by rw [HSt.out.own.cellAt j (by omega)]; exact ic_at hf
            have q1 : (0 : Int) ≤ (j : Int) := by omega
            have q2 : (j : Int) < (m : Int) := by omega
            by_cases hfj : f = (j : Int)
            · have d1 : (f != (j : Int)) = false := by simpa using hfj
              have HJ2 : Hid (∀ p, p < j + 1 → S[p]? = some (p : Int)) := fun p hp => by
                by_cases hpj : p = j
                · rw [hpj, hf, hfj]
                · exact HJ.out p (by omega)
              clear hf HJ hfj
              go_wp2
              exact ⟨⟨j + 1, by omega, by go_num, HJ2, by first | trivial | rfl⟩, by simp [intOf]; omega⟩
            · have d1 : (f != (j : Int)) = true := by simpa using hfj
              have HNo : Hid (¬ (S = rangeI S.length)) := fun he => by
                have h1 := rangeI_at (n := S.length) (k := j) (by have := HL.out; omega)
                rw [← he, hf] at h1
                exact hfj (Option.some.inj h1)
              clear hf HJ hfj
              go_wp2
              go_ret
              exact ⟨false, rfl, by rw [HSe.out]; exact ⟨fun h => (by cases h), fun h => absurd h.1 HNo.out⟩, HSt.out.bel⟩
          · obtain rfl : j = m := by omega
            have HY : Hid (S = rangeI S.length) := by
              show _ = _
              apply List.ext_getElem?
              intro p
              have := HL.out
              by_cases hp : p < j
              · rw [HJ.out p hp, rangeI_at (by omega)]
              · rw [List.getElem?_eq_none (by omega), List.getElem?_eq_none (by rw [rangeI_len]; omega)]
            have HE : Hid (((j : Int) == N) = true ↔ ((S.length : Int) = N)) := by
              show _ ↔ _
              rw [HL.out]
              simp
            clear HJ
            go_wp2
            go_ret
            exact ⟨_, rfl, by rw [HSe.out]; exact ⟨fun h => ⟨HY.out, HE.out.1 h⟩, fun h => HE.out.2 h.2⟩, HSt.out.bel⟩

set_option maxHeartbeats 1000000 in
theorem iForestOk_any (N : Int) (ts : List (List Int)) (n : Nat) (a : Option Addr) (c : Nat) (hn : n + lnS ts ≤ 1048576) (w : World) (h : Ts w w.heap.size a n ts) :
    Calls Tryz.prog 164 #[.agg #[.int .i64 N, .slice a n c]] w fun e w' => ∃ b, e = .returned (.bool b) ∧ (b = true ↔ FP N ts) ∧ Below w.heap.size w w' := by
  have b0 : Below w.heap.size w (w.alloc (.cells #[.int .i64 N, .slice a n c] 127)) := (Below.refl _ _).alloc (Nat.le_refl _) _
  have HI := hideIt vertsOk_any
  have HP := hideIt (FP_prog N ts)
  have HT := hideIt (treesAscend_any ts n a c (by omega) (fun t ht => by have := lnS_mem ht; omega) _ (h.up b0))
  have HB0 := hideIt b0
  by_cases h1 : 1 ≤ N ∧ N ≤ 12
  · have r1 : decide (1 ≤ N ∧ N ≤ 12) = true := decide_eq_true h1
    by_cases hA : asP ts
    · have HT2 : Hid (Calls Tryz.prog 236 #[.slice a n c] (w.alloc (.cells #[.int .i64 N, .slice a n c] 127)) fun e w' => e = .returned (.bool true) ∧ Below (w.alloc (.cells #[.int .i64 N, .slice a n c] 127)).heap.size (w.alloc (.cells #[.int .i64 N, .slice a n c] 127)) w') :=
        HT.out.mono fun e v ⟨b, he, hb, hbl⟩ => ⟨by rw [he, hb.2 hA], hbl⟩
      have HSh := hideIt (fun u (hu : Below (w.alloc (.cells #[.int .i64 N, .slice a n c] 127)).heap.size (w.alloc (.cells #[.int .i64 N, .slice a n c] 127)) u) => shareOut_any N ts hA n a c u ((h.up b0).up hu))
      have HPA := hideIt (show FP N ts ↔ (srtI (allV ts) = rangeI (srtI (allV ts)).length ∧ ((srtI (allV ts)).length : Int) = N) from HP.out.trans ⟨fun h => h.2.2, fun h => ⟨h1, hA, h⟩⟩)
      clear h b0 HT HP hA
      go_enter Tryz.func164, Tryz.ntmps164
      go_wp2_with (first | (go_at_call 121; refine (HI.out _ _).mono ?_; rintro e w1 ⟨rfl, rfl⟩) | (go_at_call 236; refine HT2.out.mono ?_; rintro e w2 ⟨rfl, hb2⟩; refine Hid.out ?_))
      refine (show ∀ {p : Prop}, p → Hid p from fun h => h) ?_
      obtain ⟨hc, hf⟩ := bcell hb2
      have HS2 := hideIt (HSh.out w2 hb2)
      go_wp2_with (go_at_call 237; refine HS2.out.mono ?_; rintro e w3 ⟨b, rfl, hbi, hb3⟩)
      go_ret
      exact ⟨b, rfl, hbi.trans HPA.out.symm, HB0.out.trans ((hb2.trans (hb3.mono hb2.size)).mono (by simp))⟩
    · have HT2 : Hid (Calls Tryz.prog 236 #[.slice a n c] (w.alloc (.cells #[.int .i64 N, .slice a n c] 127)) fun e w' => e = .returned (.bool false) ∧ Below (w.alloc (.cells #[.int .i64 N, .slice a n c] 127)).heap.size (w.alloc (.cells #[.int .i64 N, .slice a n c] 127)) w') :=
        HT.out.mono fun e v ⟨b, he, hb, hbl⟩ => ⟨by
          have : b = false := by
            cases b with
            | false => rfl
            | true => exact absurd (hb.1 rfl) hA
          rw [he, this], hbl⟩
      have HN : Hid (¬ FP N ts) := fun hf => hA (HP.out.1 hf).2.1
      clear h b0 HT HP hA
      go_enter Tryz.func164, Tryz.ntmps164
      go_wp2_with (first | (go_at_call 121; refine (HI.out _ _).mono ?_; rintro e w1 ⟨rfl, rfl⟩) | (go_at_call 236; refine HT2.out.mono ?_; rintro e w2 ⟨rfl, hb2⟩))
      go_ret
      exact ⟨false, rfl, ⟨fun h => (by cases h), fun h => absurd h HN.out⟩, HB0.out.trans (hb2.mono (by simp))⟩
  · have r1 : decide (1 ≤ N ∧ N ≤ 12) = false := decide_eq_false h1
    have HN : Hid (¬ FP N ts) := fun hf => h1 (HP.out.1 hf).1
    clear HT h HP b0
    go_enter Tryz.func164, Tryz.ntmps164
    go_wp2_with (go_at_call 121; refine (HI.out _ _).mono ?_; rintro e w1 ⟨rfl, rfl⟩)
    go_ret
    exact ⟨false, rfl, ⟨fun h => (by cases h), fun h => absurd h HN.out⟩, HB0.out⟩
end Go.Proofs.YtkkplppcgnikoaaGreat
namespace Go.Proofs.YtkkplppcgnikoaaGreat
open Go.RowKit

theorem someIn_any (us vs : List Int) (n : Nat) (a : Option Addr) (c : Nat) (hn : n ≤ 3000000) (nb : Nat) (b : Option Addr) (cb : Nat) (hnb : nb ≤ 3000000) (w : World) (h : Is w w.heap.size a n us) (hb : Is w w.heap.size b nb vs) :
    Calls Tryz.prog 166 #[.slice b nb cb, .slice a n c] w fun e w' => e = .returned (.bool (comB us vs)) ∧ Below w.heap.size w w' := by
  have HC := hideIt (haveCommon_any us vs n a c hn nb b cb hnb w h hb)
  clear h hb
  go_enter Tryz.func166, Tryz.ntmps166
  go_wp2_with (go_at_call 238; refine HC.out.mono ?_; rintro e w1 ⟨rfl, hb1⟩)
  go_ret
  exact ⟨rfl, hb1⟩
theorem comB_one (t : List Int) (v : Int) : comB t [v] = decide (v ∈ t) := by
  unfold comB
  rw [Bool.eq_iff_iff]
  simp

set_option maxHeartbeats 1000000 in
theorem placeTold_any (ts : List (List Int)) (v : Int) (hm : ∀ t ∈ ts, t.length ≤ 3000000) (n : Nat) (a : Option Addr) (c : Nat) (hn : n ≤ 3000000) (b : Option Addr) (cb : Nat) (w : World) (h : Ts w w.heap.size a n ts) (hb : Is w w.heap.size b 1 [v]) :
    Calls Tryz.prog 165 #[.slice a n c, .func (.func 166) #[.slice b 1 cb] #[]] w fun e w' => e = .returned (.int .i64 (trI ts v)) ∧ Below w.heap.size w w' := by
  have hlen := h.1
  have HA := hideIt h
  have HB := hideIt hb
  clear h hb
  go_enter Tryz.func165, Tryz.ntmps165
  go_wp2
  go_loopw [8] (fun i wr => ∃ k : Nat, k ≤ n ∧ i = .int .i64 (k : Int) ∧ Hid (∀ j, j < k → trP ts v j = false) ∧ Good w wr) (fun i _ => n - (intOf i).toNat)
  case atStart => exact ⟨0, by omega, rfl, fun j hj => by omega, Good.refl _⟩
  case round =>
    obtain ⟨k, hk, rfl, HK, hg⟩ := hrel
    by_cases hlt : k < n
    · rcases (HA.out.up hg).2 with hz | ⟨bb, off, rfl, hbl, hc⟩
      · omega
      · obtain ⟨t, ht⟩ : ∃ t, ts[k]? = some t := ⟨ts[k]'(by omega), List.getElem?_eq_getElem (by omega)⟩
        obtain ⟨x, cx, e0, iI, _⟩ := hc k t ht
        have b1 : (0 : Int) ≤ (k : Int) := by omega
        have b2 : (k : Int) < (n : Int) := by omega
        have HC := hideIt (someIn_any t [v] t.length x cx (hm t (List.mem_of_getElem? ht)) 1 b cb (by omega) wr iI (HB.out.up hg))
        rw [comB_one, ← trP_at (v := v) ht] at HC
        have HG := hideIt hg
        cases hp : trP ts v k with
        | true =>
          rw [hp] at HC
          have HV : Hid (trI ts v = (k : Int)) := firstN_yes (by omega) hp HK.out
          clear hc ht iI hp HK
          go_wp2_with (go_at_call 166; refine HC.out.mono ?_; rintro e w1 ⟨rfl, hb1⟩)
          go_ret
          exact ⟨by rw [HV.out]; rfl, HG.out.up hb1⟩
        | false =>
          rw [hp] at HC
          have HK2 : Hid (∀ j, j < k + 1 → trP ts v j = false) := fun j hj => by
            by_cases h7 : j = k
            · rw [h7]; exact hp
            · exact HK.out j (by omega)
          clear hc ht iI hp HK
          go_wp2_with (go_at_call 166; refine HC.out.mono ?_; rintro e w1 ⟨rfl, hb1⟩)
          exact ⟨⟨k + 1, by omega, by go_num, HK2, HG.out.up hb1⟩, by simp [intOf]; omega⟩
    · obtain rfl : k = n := by omega
      have HV : Hid (trI ts v = -1) := firstN_no (fun j hj => HK.out j (by omega))
      clear HK
      go_wp2
      go_ret
      exact ⟨by rw [HV.out]; rfl, hg⟩

set_option maxHeartbeats 1000000 in
theorem iTreeOf_any (N : Int) (ts : List (List Int)) (v : Int) (n : Nat) (a : Option Addr) (c : Nat) (hn : n + lnS ts ≤ 1048576) (w : World) (h : Ts w w.heap.size a n ts) :
    Calls Tryz.prog 76 #[.agg #[.int .i64 N, .slice a n c], .int .i64 v] w fun e w' => e = .returned (.int .i64 (treeO N ts v)) ∧ Below w.heap.size w w' := by
  have b0 : Good w (w.alloc (.cells #[.int .i64 N, .slice a n c] 127)) := (Good.refl w).alloc _
  have HF := iForestOk_any N ts n a c hn _ (h.up b0)
  have HB0 := hideIt b0
  by_cases hP : FP N ts
  · have HF2 := hideIt (HF.mono fun e u ⟨b, he, hb, hbl⟩ => (show e = Ending.returned (.bool true) ∧ Good (w.alloc (.cells #[.int .i64 N, .slice a n c] 127)) u from ⟨by rw [he, hb.2 hP], hbl⟩))
    have HT := hideIt (fun u (hu : Good (w.alloc (.cells #[.int .i64 N, .slice a n c] 127)) u) => placeTold_any ts v (fun t ht => by have := lnS_mem ht; omega) n a c (by omega) (some ⟨u.heap.size, 0, none⟩) 1 (u.alloc (.cells #[.int .i64 v] 3)) ((h.up b0).up (hu.alloc (.cells #[.int .i64 v] 3))) ⟨rfl, .inr ⟨u.heap.size, 0, rfl, by simp, fun j x hx => by
      rcases j with _ | j
      · simp at hx; subst hx; simp
      · simp at hx⟩⟩)
    have HV := hideIt (treeO_yes hP v)
    clear h b0 HF hP
    go_enter Tryz.func76, Tryz.ntmps76
    go_wp2_with (go_at_call 164; refine HF2.out.mono ?_; rintro e w1 ⟨rfl, hg1⟩; refine Hid.out ?_)
    refine (show ∀ {p : Prop}, p → Hid p from fun h => h) ?_
    have cB : w1.cell? ⟨w.heap.size, 1, none⟩ = some (.slice a n c) := by rw [hg1.cell (by simp)]; simp
    have HT2 := hideIt (HT.out w1 hg1)
    have HG1 := hideIt hg1
    clear hg1 HT HF2
    go_wp2_with (go_at_call 165; refine HT2.out.mono ?_; rintro e w2 ⟨rfl, hb2⟩)
    go_ret
    exact ⟨by rw [HV.out]; rfl, HB0.out.up ((HG1.out.alloc _).up hb2)⟩
  · have HF2 := hideIt (HF.mono fun e u ⟨b, he, hb, hbl⟩ => (show e = Ending.returned (.bool false) ∧ Good (w.alloc (.cells #[.int .i64 N, .slice a n c] 127)) u from ⟨by
      have : b = false := by
        cases b with
        | false => rfl
        | true => exact absurd (hb.1 rfl) hP
      rw [he, this], hbl⟩))
    have HV := hideIt (treeO_no hP v)
    clear h b0 HF hP
    go_enter Tryz.func76, Tryz.ntmps76
    go_wp2_with (go_at_call 164; refine HF2.out.mono ?_; rintro e w1 ⟨rfl, hg1⟩)
    go_ret
    exact ⟨by rw [HV.out]; rfl, HB0.out.up hg1⟩

set_option maxHeartbeats 1000000 in
theorem iSizeOf_any (N : Int) (ts : List (List Int)) (v : Int) (n : Nat) (a : Option Addr) (c : Nat) (hn : n + lnS ts ≤ 1048576) (w : World) (h : Ts w w.heap.size a n ts) :
    Calls Tryz.prog 229 #[.agg #[.int .i64 N, .slice a n c], .int .i64 v] w fun e w' => e = .returned (.int .i64 (sizeO N ts v)) ∧ Below w.heap.size w w' := by
  have b0 : Good w (w.alloc (.cells #[.int .i64 N, .slice a n c] 127)) := (Good.refl w).alloc _
  have HF := hideIt (iTreeOf_any N ts v n a c hn _ (h.up b0))
  have HB0 := hideIt b0
  rcases treeO_cases N ts v with ⟨k, t, hP, hk, hv, e⟩ | ⟨_, e⟩
  · rw [e] at HF
    have HV := hideIt (sizeO_yes e hk)
    have hkl := (List.getElem?_eq_some_iff.1 hk).1
    have hlen := h.1
    rcases (h.up b0).2 with hz | ⟨b, off, rfl, hbl, hc⟩
    · omega
    · obtain ⟨x, cx, e0, iI, _⟩ := hc k t hk
      have hfit := lnS_mem (List.mem_of_getElem? hk)
      have HVe := hideIt (fun u (hu : Good (w.alloc (.cells #[.int .i64 N, .slice (some ⟨b, off, none⟩) n c] 127)) u) => iVertsOf_any t t.length x cx (by omega) u (iI.up hu))
      have d1 : decide ((k : Int) < 0) = false := decide_eq_false (by omega)
      have b1 : (0 : Int) ≤ (k : Int) := by omega
      have b2 : (k : Int) < (n : Int) := by omega
      clear h b0 hc iI hP hv
      go_enter Tryz.func229, Tryz.ntmps229
      go_wp2_with (go_at_call 76; refine HF.out.mono ?_; rintro e w1 ⟨rfl, hg1⟩; refine Hid.out ?_)
      refine (show ∀ {p : Prop}, p → Hid p from fun h => h) ?_
      have hg1 : Good (w.alloc (.cells #[.int .i64 N, .slice (some ⟨b, off, none⟩) n c] 127)) w1 := hg1
      have cB : w1.cell? ⟨w.heap.size, 1, none⟩ = some (.slice (some ⟨b, off, none⟩) n c) := by rw [hg1.cell (by simp)]; simp
      have cE : w1.cell? ⟨b, off + k, none⟩ = some (.slice x t.length cx) := by rw [hg1.cell hbl]; exact e0
      have HT2 := hideIt (HVe.out w1 hg1)
      have HG1 := hideIt hg1
      clear hg1 HVe HF e0
      go_wp2_with (go_at_call 169; refine HT2.out.mono ?_; rintro e w2 ⟨a2, m2, c2, rfl, ho, hb2⟩)
      have hm2 : (vsL t).length = m2 := by have := ho.1; rw [ic_len] at this; omega
      go_ret
      exact ⟨by rw [HV.out, hm2]; rfl, HB0.out.up (HG1.out.up hb2)⟩
  · rw [e] at HF
    have HV := hideIt (sizeO_no e)
    clear h b0
    go_enter Tryz.func229, Tryz.ntmps229
    go_wp2_with (go_at_call 76; refine HF.out.mono ?_; rintro e w1 ⟨rfl, hg1⟩)
    go_ret
    exact ⟨by rw [HV.out]; rfl, HB0.out.up hg1⟩
end Go.Proofs.YtkkplppcgnikoaaGreat
namespace Go.Proofs.YtkkplppcgnikoaaGreat
open Go.RowKit

theorem gB_eB {N : Int} {es : List EdgeV} (h : gB N es = true) {e : EdgeV} (he : e ∈ es) : eB N e = true := chk_eB (gB_chk h).2.1 he

set_option maxRecDepth 100000 in
set_option maxHeartbeats 4000000 in
theorem plantable_any (nn : Nat) (ls : List Ld) (n : Nat) (a : Option Addr) (c : Nat) (hG : gB (nn : Int) (gE ls) = true) (hl : ∀ x ∈ ls, 0 ≤ x.l) (w : World) (h : Ls w w.heap.size a n ls) :
    Calls Tryz.prog 233 #[.agg #[.int .i64 (nn : Int), .slice a n c]] w fun e w' => ∃ b : Bool, e = .returned (.bool b) ∧ (b = true ↔ Bridge (fE ls 0)) ∧ Below w.heap.size w w' := by
  have HR := hideIt h
  have hlen := h.1
  have hg := gB_chk hG
  have h66 : n ≤ 66 := by have := hg.2.2; rw [gE_len] at this; omega
  have HOk : Hid (∀ x ∈ ls, eB (nn : Int) x.e = true) := fun x hx => gB_eB hG (gE_mem hx)
  have HT : Hid (∀ (g m c' : Nat) (u : World), Es u u.heap.size (some ⟨g, 0, none⟩) m (fE ls (-9223372036854775808)) → Calls Tryz.prog 272 #[.int .i64 (nn : Int), .slice (some ⟨g, 0, none⟩) m c'] u fun x w' => ∃ b : Bool, x = .returned (.bool b) ∧ (b = true ↔ Bridge (fE ls 0)) ∧ Below u.heap.size u w') := fun g m c' u hu => by
    have e0 := fE_all hl (i := -9223372036854775808) (by omega)
    rw [e0] at hu
    have hm66 : m ≤ 66 := by have := hu.1; have := fE_len ls 0; omega
    refine (treesOk_any nn (fE ls 0) m (some ⟨g, 0, none⟩) c' (by omega) (by omega) (by omega) (fun e he => gB_eB hG (fE_g he)) u hu).mono fun e v ⟨b, h1, h2, h3⟩ => ⟨b, h1, ?_, h3⟩
    rw [h2]
    exact treeP_iff (fE_nodup (gB_nodup hG) 0)
  have HF : Hid (∀ u, Good (wW w (nn : Int) a n c) u → Calls Tryz.prog 234 #[.agg #[.int .i64 (nn : Int), .slice a n c], .int .i64 (-9223372036854775808)] u fun e w' => ∃ g m c', e = .returned (.slice (some ⟨g, 0, none⟩) m c') ∧ Es w' w'.heap.size (some ⟨g, 0, none⟩) m (fE ls (-9223372036854775808)) ∧ Good (wW w (nn : Int) a n c) w') := fun u hu =>
    (forestEdges_any (nn : Int) ls (-9223372036854775808) n a c (by omega) u ((HR.out.up (wW_good w _ a n c)).up hu)).mono fun e v ⟨g, m, c', h1, h2, h3⟩ => ⟨g, m, c', h1, Es_of_own h2, hu.up h3⟩
  clear h hg hG hl
  go_enter Tryz.func233, Tryz.ntmps233
  go_wp2
  go_loopw [8] (fun i wr => ∃ k : Nat, k ≤ n ∧ i = .int .i64 (k : Int) ∧ Good (wW w (nn : Int) a n c) wr) (fun i _ => n - (intOf i).toNat)
  case atStart => exact ⟨0, by omega, rfl, Good.refl _⟩
  case round =>
    obtain ⟨k, hk, rfl, hg⟩ := hrel
    have hgb : Below (w.heap.size + 1) (wW w (nn : Int) a n c) wr := by have := hg; unfold Good at this; rwa [wW_size] at this
    obtain ⟨cw0, cw1⟩ := wW_cells hgb
    by_cases hlt : k < n
    · obtain ⟨b, off, x, rfl, hbl, hxk, hat⟩ := ((HR.out.up (wW_good w _ a n c)).up hg).at hlt
      have e0 := hat.ca
      have e1 := hat.cb
      have e2 := hat.cl
      have e3 := hat.ct
      have b1 : (0 : Int) ≤ (k : Int) := by omega
      have b2 : (k : Int) < (n : Int) := by omega
      have hEx := HOk.out x (List.mem_of_getElem? hxk)
      have HE : Hid (∀ u, Good (wr.alloc (.cells #[.int .i64 x.a, .int .i64 x.b, .int .i64 x.l, .bool x.t] 52)) u → Calls Tryz.prog 159 #[.int .i64 (nn : Int), .agg #[.int .i64 x.a, .int .i64 x.b]] u fun e w' => e = .returned (.bool true) ∧ Good (wr.alloc (.cells #[.int .i64 x.a, .int .i64 x.b, .int .i64 x.l, .bool x.t] 52)) w') := fun u hu => by
        have := iEdgeOk_any (nn : Int) x.e u
        rw [hEx] at this
        exact this.mono fun _ _ ⟨h1, h2⟩ => ⟨h1, hu.up h2⟩
      have HL : Hid (∀ u, Good (wr.alloc (.cells #[.int .i64 x.a, .int .i64 x.b, .int .i64 x.l, .bool x.t] 52)) u → Calls Tryz.prog 67 #[.agg #[.int .i64 x.a, .int .i64 x.b, .int .i64 x.l, .bool x.t]] u fun e w' => e = .returned (.agg #[.int .i64 x.a, .int .i64 x.b]) ∧ Good (wr.alloc (.cells #[.int .i64 x.a, .int .i64 x.b, .int .i64 x.l, .bool x.t] 52)) w') := fun u hu =>
        (ledgeEdge_any x u).mono fun _ _ ⟨h1, h2⟩ => ⟨h1, hu.up h2⟩
      have HC : Hid (∀ u, Good (wr.alloc (.cells #[.int .i64 x.a, .int .i64 x.b, .int .i64 x.l, .bool x.t] 52)) u → (u.cell? ⟨w.heap.size, 0, none⟩ = some (.int .i64 (nn : Int)) ∧ (u.cell? ⟨wr.heap.size, 0, none⟩ = some (.int .i64 x.a) ∧ u.cell? ⟨wr.heap.size, 1, none⟩ = some (.int .i64 x.b)) ∧ u.cell? ⟨wr.heap.size, 2, none⟩ = some (.int .i64 x.l) ∧ u.cell? ⟨wr.heap.size, 3, none⟩ = some (.bool x.t))) := fun u hu => by
        have hz := hgb.size
        rw [wW_size] at hz
        refine ⟨?_, ⟨?_, ?_⟩, ?_, ?_⟩
        · rw [hu.cell (by simp; omega), World.cell?_of_block (w := wr) (Below.heap_alloc wr _ w.heap.size (by omega))]; exact cw0
        all_goals rw [hu.cell (by simp)]; simp
      have g0 : Good (wr.alloc (.cells #[.int .i64 x.a, .int .i64 x.b, .int .i64 x.l, .bool x.t] 52)) (wr.alloc (.cells #[.int .i64 x.a, .int .i64 x.b, .int .i64 x.l, .bool x.t] 52)).drew := (Good.refl _).drew
      have HZ : Hid (∀ u, Good (wr.alloc (.cells #[.int .i64 x.a, .int .i64 x.b, .int .i64 x.l, .bool x.t] 52)) u → Good (wW w (nn : Int) (some ⟨b, off, none⟩) n c) u) := fun u hu => (hg.alloc _).up hu
      clear hxk hat hEx hg hgb
      go_wp2
      go_region_held3 (fun u => u.cell? ⟨w.heap.size, 0, none⟩ = some (.int .i64 (nn : Int)) ∧ (u.cell? ⟨wr.heap.size, 0, none⟩ = some (.int .i64 x.a) ∧ u.cell? ⟨wr.heap.size, 1, none⟩ = some (.int .i64 x.b)) ∧ u.cell? ⟨wr.heap.size, 2, none⟩ = some (.int .i64 x.l) ∧ u.cell? ⟨wr.heap.size, 3, none⟩ = some (.bool x.t))
        (first | exact HC.out _ g2 | exact HC.out _ g1 | exact HC.out _ g0)
        (first | (go_at_call 67; refine (HL.out _ g0).mono ?_; rintro e w1 ⟨rfl, g1⟩) | (go_at_call 159; refine (HE.out _ g1).mono ?_; rintro e w2 ⟨rfl, g2⟩))
      go_wp2
      exact ⟨⟨k + 1, by omega, by go_num, HZ.out _ g2⟩, by simp [intOf]; omega⟩
    · have HC : Hid (∀ u, Good (wW w (nn : Int) a n c) u → (u.cell? ⟨w.heap.size, 0, none⟩ = some (.int .i64 (nn : Int)) ∧ u.cell? ⟨w.heap.size, 1, none⟩ = some (.slice a n c))) := fun u hu => by
        unfold Good at hu
        rw [wW_size] at hu
        exact wW_cells hu
      have g0 : Good (wW w (nn : Int) a n c) wr.drew := hg.drew
      clear hgb
      go_wp2
      go_region_held3 (fun u => u.cell? ⟨w.heap.size, 0, none⟩ = some (.int .i64 (nn : Int)) ∧ u.cell? ⟨w.heap.size, 1, none⟩ = some (.slice a n c))
        (first | exact HC.out _ g2 | exact HC.out _ g1 | exact HC.out _ g0)
        (first | (go_at_call 234; refine (HF.out _ g0).mono ?_; rintro e w1 ⟨g, m, c', rfl, hEs, g1⟩) | (go_at_call 272; refine (HT.out _ _ _ _ hEs).mono ?_; rintro e w2 ⟨bb, rfl, hbb, hb2⟩; have g2 := g1.up hb2))
      go_wp2
      go_ret
      exact ⟨bb, rfl, hbb, (wW_good w _ a n c).up g2⟩
end Go.Proofs.YtkkplppcgnikoaaGreat
namespace Go.Proofs.YtkkplppcgnikoaaGreat
open Go.RowKit

theorem infoIT9 : (Tryz.prog.info? 44).map (fun i => (i.zero, i.size, i.bytes)) = some (some (.slice none 0 0), 1, 24) := by kernel_rfl
theorem newsV9 (w : World) (x : Value) : ∀ j u, ([x] : List Value)[j]? = some u → (w.alloc (.cells #[x] 44)).cell? ((⟨w.heap.size, 0, none⟩ : Addr).add j) = some u := by
  intro j u hj
  rcases j with _ | j
  · simp at hj; subst hj; simp [Addr.add]
  · simp at hj
/-- the answer of ForestAt: a forest of the answer's own -/
def FAn9 (w : World) (N : Int) (o : Option (List (List Int))) (e : Ending) (w' : World) : Prop :=
  ∃ a m c R, e = .returned (.tuple #[.agg #[.int .i64 (if o.isSome then N else 0), .slice a m c], .bool o.isSome]) ∧ FB w' w.heap.size w'.heap.size a m c R ∧ rts R = o.getD [] ∧ Below w.heap.size w w'
/-- .. that is only read -/
def FAt9 (w : World) (N : Int) (o : Option (List (List Int))) (e : Ending) (w' : World) : Prop :=
  ∃ a m c, e = .returned (.tuple #[.agg #[.int .i64 (if o.isSome then N else 0), .slice a m c], .bool o.isSome]) ∧ Ts w' w'.heap.size a m (o.getD []) ∧ Below w.heap.size w w'
theorem FAn9.weak {w : World} {N : Int} {o : Option (List (List Int))} {e : Ending} {w' : World} (h : FAn9 w N o e w') : FAt9 w N o e w' := by
  obtain ⟨a, m, c, R, h1, h2, h3, h4⟩ := h
  exact ⟨a, m, c, h1, by rw [← h3]; exact h2.ts, h4⟩
/-- behind the web's box and the forest's -/
def wf2 (w : World) (N : Int) (a : Option Addr) (n c : Nat) : World := (wW w N a n c).alloc (.cells #[.int .i64 0, .slice none 0 0] 127)
theorem wf2_size (w : World) (N : Int) (a : Option Addr) (n c : Nat) : (wf2 w N a n c).heap.size = w.heap.size + 2 := by simp [wf2, wW]
theorem wf2_good (w : World) (N : Int) (a : Option Addr) (n c : Nat) : Good w (wf2 w N a n c) := (wW_good w N a n c).alloc _
theorem wf2_cells {w : World} {N : Int} {a : Option Addr} {n c : Nat} {u : World} (h : Below (w.heap.size + 2) (wf2 w N a n c) u) : (u.cell? ⟨w.heap.size, 0, none⟩ = some (.int .i64 N) ∧ u.cell? ⟨w.heap.size, 1, none⟩ = some (.slice a n c)) ∧ Box7 u (w.heap.size + 1) 127 (.int .i64 0) (.slice none 0 0) := by
  have b1 : Box7 (wf2 w N a n c) w.heap.size 26 (.int .i64 N) (.slice a n c) := (Box7.new w _ _ _ _ rfl).alloc _
  have b2 : Box7 (wf2 w N a n c) (w.heap.size + 1) 127 (.int .i64 0) (.slice none 0 0) := Box7.new _ _ _ _ _ (by simp [wW])
  have c1 := b1.below h (by omega)
  exact ⟨⟨c1.cell0, c1.cell1⟩, b2.below h (by omega)⟩
theorem is_one (w : World) (x : Int) : Is (w.alloc (.cells #[.int .i64 x] 3)) (w.alloc (.cells #[.int .i64 x] 3)).heap.size (some ⟨w.heap.size, 0, none⟩) 1 [x] := ⟨rfl, .inr ⟨w.heap.size, 0, rfl, by simp, fun j y hy => by
  rcases j with _ | j
  · simp at hy; subst hy; simp
  · simp at hy⟩⟩
/-- the trees so far are short -/
theorem ft_short {es : List EdgeV} {nn k : Nat} (hE : ∀ e ∈ es, 0 ≤ e.1 ∧ e.1 < e.2 ∧ e.2 < (nn : Int)) (hn : nn ≤ 12) (hk : k ≤ nn) {ts : List (List Int)} (h : ftK es nn k = some ts) : ∀ t ∈ ts, t.length ≤ 23 ∧ 0 < t.length := fun t ht => by
  obtain ⟨r, h1, ⟨sn, h2⟩, _⟩ := (ft_any hE hn k hk h).tour t ht
  have := tB_len (wk_tree hE hn (by omega) (by omega) h2).1
  omega
theorem ft_in {ts : List (List Int)} {v : Int} : v ∈ ts.flatten ↔ 0 ≤ trI ts v := by
  rcases trI_cases ts v with ⟨k, t, h1, h2, h3⟩ | ⟨h1, h2⟩
  · rw [h3]
    exact ⟨fun _ => by omega, fun _ => List.mem_flatten.2 ⟨t, List.mem_of_getElem? h1, h2⟩⟩
  · rw [h2]
    exact ⟨fun h => by obtain ⟨t, ht, hv⟩ := List.mem_flatten.1 h; exact absurd hv (h1 t ht), fun h => by omega⟩

set_option maxRecDepth 100000 in
set_option maxHeartbeats 4000000 in
theorem iForestAt_no (nn : Nat) (ls : List Ld) (lv : Int) (n : Nat) (a : Option Addr) (c : Nat) (hG : gB (nn : Int) (gE ls) = true) (hl : ∀ x ∈ ls, 0 ≤ x.l) (hB : ¬ Bridge (fE ls 0)) (w : World) (h : Ls w w.heap.size a n ls) :
    Calls Tryz.prog 163 #[.agg #[.int .i64 (nn : Int), .slice a n c], .int .i64 lv] w (FAn9 w (nn : Int) none) := by
  have HP := hideIt ((plantable_any nn ls n a c hG hl _ (h.up (wf2_good w (nn : Int) a n c))).mono fun e v ⟨b, h1, h2, h3⟩ => (show e = Ending.returned (.bool false) ∧ Below (wf2 w (nn : Int) a n c).heap.size (wf2 w (nn : Int) a n c) v from ⟨by
    cases b with
    | false => exact h1
    | true => exact absurd (h2.1 rfl) hB, h3⟩))
  clear h hG hl hB
  go_enter Tryz.func163, Tryz.ntmps163
  go_wp2_with (go_at_call 233; refine HP.out.mono ?_; rintro e w1 ⟨rfl, hb1⟩; refine Hid.out ?_)
  refine (show ∀ {p : Prop}, p → Hid p from fun h => h) ?_
  rw [wf2_size] at hb1
  obtain ⟨⟨cw0, cw1⟩, bx⟩ := wf2_cells hb1
  have r0 := bx.cell0
  have r1 := bx.cell1
  have q0 := bx.frozen 0
  have q1 := bx.frozen 1
  have HG : Hid (Good w w1) := (wf2_good w (nn : Int) a n c).trans (hb1.mono (by omega))
  clear HP hb1
  go_wp2
  refine bodyPost_ret (v := .tuple #[.agg #[.int .i64 0, .slice none 0 0], .bool false]) (by simp [results, Tryz.results163, go_sem, r0, r1]) rfl ⟨none, 0, 0, [], rfl, FB.nil _ _, rfl, ?_⟩
  exact (HG.out.setCell (p := ⟨w.heap.size + 1, 0, none⟩) (by show _ ≤ w.heap.size + 1; omega) _).setCell (p := ⟨w.heap.size + 1, 1, none⟩) (by show _ ≤ w.heap.size + 1; omega) _

set_option maxRecDepth 100000 in
set_option maxHeartbeats 4000000 in
theorem iForestAt_yes (nn : Nat) (ls : List Ld) (lv : Int) (n : Nat) (a : Option Addr) (c : Nat) (hG : gB (nn : Int) (gE ls) = true) (hl : ∀ x ∈ ls, 0 ≤ x.l) (hB : Bridge (fE ls 0)) (hlv : 0 ≤ lv) (ts : List (List Int)) (hts : ftK (fE ls lv) nn nn = some ts) (w : World) (h : Ls w w.heap.size a n ls) :
    Calls Tryz.prog 163 #[.agg #[.int .i64 (nn : Int), .slice a n c], .int .i64 lv] w (FAn9 w (nn : Int) (some ts)) := by
  obtain ⟨i0, hi, hz0, hz1, hz2⟩ := info_parts infoIT9
  have hg := gB_chk hG
  have hn1 : 1 ≤ nn := by omega
  have hn12 : nn ≤ 12 := by omega
  have hlen := h.1
  have h66 : n ≤ 66 := by have := hg.2.2; rw [gE_len] at this; omega
  have hBl : Bridge (fE ls lv) := hB.sub fun e he => fE_low hlv he
  have HE := hideIt (fE_ends hG lv)
  have HP := hideIt ((plantable_any nn ls n a c hG hl _ (h.up (wf2_good w (nn : Int) a n c))).mono fun e v ⟨b, h1, h2, h3⟩ => (show e = Ending.returned (.bool true) ∧ Below (wf2 w (nn : Int) a n c).heap.size (wf2 w (nn : Int) a n c) v from ⟨by
    cases b with
    | true => exact h1
    | false => exact absurd (h2.2 hB) (by simp), h3⟩))
  have HF : Hid (∀ u, Good (wf2 w (nn : Int) a n c) u → Calls Tryz.prog 234 #[.agg #[.int .i64 (nn : Int), .slice a n c], .int .i64 lv] u fun e w' => ∃ g m c', e = .returned (.slice (some ⟨g, 0, none⟩) m c') ∧ Es w' w'.heap.size (some ⟨g, 0, none⟩) m (fE ls lv) ∧ Good (wf2 w (nn : Int) a n c) w') := fun u hu =>
    (forestEdges_any (nn : Int) ls lv n a c (by omega) u ((h.up (wf2_good w _ a n c)).up hu)).mono fun e v ⟨g, m, c', h1, h2, h3⟩ => ⟨g, m, c', h1, Es_of_own h2, hu.up h3⟩
  have HT : Hid (∀ (g m c' k : Nat) (t sn : List Int) (u : World), k < nn → wk (fE ls lv) nn nn (k : Int) (-1) [] = some (t, sn) → t.length ≤ 23 → Es u u.heap.size (some ⟨g, 0, none⟩) m (fE ls lv) → Calls Tryz.prog 235 #[.int .i64 (nn : Int), .slice (some ⟨g, 0, none⟩) m c', .int .i64 (k : Int)] u fun e w' => ∃ a' m c', e = .returned (.tuple #[.slice a' m c', .bool true]) ∧ w'.ownsRow u.heap.size 3 1 (.slice a' m c') m (ic t) ∧ Below u.heap.size u w') := fun g m c' k t sn u hk hw htl hu =>
    iTourOf_n (fE ls lv) nn m hn1 hn12 (some ⟨g, 0, none⟩) c' (k : Int) t sn (by have := hu.1; have := fE_len ls lv; omega) (fun e he => gB_eB hG (fE_g he)) (fE_nodup (gB_nodup hG) lv) (hBl.tree (fE_nodup (gB_nodup hG) lv)) (by omega) (by omega) hw (by omega) u hu
  have HTS := hideIt hts
  clear h hg hG hl hB hBl hts
  go_enter Tryz.func163, Tryz.ntmps163
  go_wp2_with (go_at_call 233; refine HP.out.mono ?_; rintro e w1 ⟨rfl, hb1⟩; refine Hid.out ?_)
  refine (show ∀ {p : Prop}, p → Hid p from fun h => h) ?_
  have G1 : Good (wf2 w (nn : Int) a n c) w1 := hb1
  rw [wf2_size] at hb1
  obtain ⟨⟨cw0, cw1⟩, _⟩ := wf2_cells hb1
  have HFe := hideIt (HF.out w1 G1)
  clear HP hb1 HF
  go_wp2_with (go_at_call 234; refine HFe.out.mono ?_; rintro e w2 ⟨g, m2, c2, rfl, hEs, G2⟩; refine Hid.out ?_)
  refine (show ∀ {p : Prop}, p → Hid p from fun h => h) ?_
  have G2b : Below (w.heap.size + 2) (wf2 w (nn : Int) a n c) w2 := by have := G2; unfold Good at this; rwa [wf2_size] at this
  obtain ⟨⟨cv0, cv1⟩, _⟩ := wf2_cells G2b
  have z2 := G2b.size
  rw [wf2_size] at z2
  have HEs := hideIt hEs
  have HG2 := hideIt G2b
  have HC : Hid (∀ u, Below w2.heap.size w2 u → (u.cell? ⟨w.heap.size, 0, none⟩ = some (.int .i64 (nn : Int)) ∧ u.cell? ⟨w.heap.size, 1, none⟩ = some (.slice a n c)) ∧ Box7 u (w.heap.size + 1) 127 (.int .i64 0) (.slice none 0 0)) := fun u hu => wf2_cells (HG2.out.trans (hu.mono z2))
  have HF0 := hideIt (FB.start w2)
  have HB0 : Hid (Below w2.heap.size w2 (w2.alloc (.cells #[] 44))) := (Below.refl _ _).alloc (Nat.le_refl _) _
  have k0 : (w2.alloc (.cells #[] 44)).cell? ⟨w.heap.size, 0, none⟩ = some (.int .i64 (nn : Int)) := (HC.out _ HB0.out).1.1
  clear HFe hEs G2 G2b G1 cw0 cw1
  go_wp2
  go_loopw [7, 21] (fun r i wr => ∃ (k m c' : Nat) (a' : Option Addr) (R : List Rw), k ≤ nn ∧ m ≤ k ∧ i = .int .i64 (k : Int) ∧ r = .slice a' m c' ∧ Hid (ftK (fE ls lv) nn k = some (rts R)) ∧ FB wr w2.heap.size wr.heap.size a' m c' R ∧ Below w2.heap.size w2 wr) (fun _ i _ => nn - (intOf i).toNat)
  case atStart => exact ⟨0, 0, 0, _, [], by omega, by omega, rfl, rfl, rfl, HF0.out, HB0.out⟩
  case round =>
    obtain ⟨k, m, c', a', R, hk, hm, rfl, rfl, HK, hfb, hb⟩ := hrel
    clear HF0 HB0 k0
    obtain ⟨⟨k0, k1⟩, bx⟩ := HC.out wr hb
    have hz := hb.size
    by_cases hlt : k < nn
    · have hsh := ft_short HE.out hn12 hk HK.out
      have hba : Below wr.heap.size wr (wr.alloc (.cells #[.int .i64 (k : Int)] 3)) := (Below.refl _ _).alloc (Nat.le_refl _) _
      have HPt := hideIt (placeTold_any (rts R) (k : Int) (fun t ht => by have := hsh t ht; omega) m a' c' (by omega) (some ⟨wr.heap.size, 0, none⟩) 1 (wr.alloc (.cells #[.int .i64 (k : Int)] 3)) (hfb.ts.up hba) (is_one wr (k : Int)))
      by_cases hin : (k : Int) ∈ (rts R).flatten
      · have hpos := ft_in.1 hin
        have HK2 := hideIt (ftK_there HK.out hin)
        obtain ⟨j, hj⟩ : ∃ j, trI (rts R) (k : Int) = j := ⟨_, rfl⟩
        rw [hj] at HPt hpos
        have d1 : decide (j < 0) = false := decide_eq_false (by omega)
        have HFB := hideIt (hfb.keep hba)
        have HB := hideIt (hb.trans (hba.mono hz))
        clear hin hj hsh hfb hb hba HK
        go_wp2_with (go_at_call 165; refine HPt.out.mono ?_; rintro e w3 ⟨rfl, hb3⟩)
        exact ⟨⟨k + 1, m, c', a', R, by omega, by omega, by go_num, rfl, HK2, HFB.out.keep hb3, HB.out.trans (hb3.mono (by simp; omega))⟩, by simp [intOf]; omega⟩
      · have hneg : trI (rts R) (k : Int) = -1 := by
          rcases trI_cases (rts R) (k : Int) with ⟨q, t, h1, h2, h3⟩ | ⟨_, h2⟩
          · exact absurd (List.mem_flatten.2 ⟨t, List.mem_of_getElem? h1, h2⟩) hin
          · exact h2
        rw [hneg] at HPt
        obtain ⟨t, sn, hw⟩ : ∃ t sn, wk (fE ls lv) nn nn (k : Int) (-1) [] = some (t, sn) := by
          cases hw : wk (fE ls lv) nn nn (k : Int) (-1) [] with
          | none =>
            have := ftK_none (ftK_ring HK.out hin hw) nn (by omega)
            rw [HTS.out] at this
            cases this
          | some p => exact ⟨p.1, p.2, rfl⟩
        have htB := (wk_tree HE.out hn12 (by omega) (by omega) hw).1
        have htl := tB_len htB
        have HK2 : Hid (∀ r : Rw, r.t = t → ftK (fE ls lv) nn (k + 1) = some (rts (R ++ [r]))) := fun r hr => by rw [ftK_new HK.out hin hw, rts_snoc, hr]
        have HW := hideIt hw
        have HFB := hideIt (hfb.keep hba)
        have HB := hideIt (hb.trans (hba.mono hz))
        clear hin hneg hsh hfb hb hba HK hw htB
        go_wp2_with (go_at_call 165; refine HPt.out.mono ?_; rintro e w3 ⟨rfl, hb3⟩; refine Hid.out ?_)
        refine (show ∀ {p : Prop}, p → Hid p from fun h => h) ?_
        have HFB3 := hideIt (HFB.out.keep hb3)
        have B3 := HB.out.trans (hb3.mono (by simp; omega))
        have z3 := B3.size
        have HB3 := hideIt B3
        obtain ⟨⟨e0, e1⟩, _⟩ := HC.out _ B3
        have HTo := hideIt (HT.out g m2 c2 k t sn w3 hlt HW.out (by omega) (HEs.out.up B3))
        clear HPt hb3 B3 HFB HB k0 k1 bx
        go_wp2_with (go_at_call 235; refine HTo.out.mono ?_; rintro e w4 ⟨a4, m4, c4, rfl, ho4, hb4⟩; refine Hid.out ?_)
        refine (show ∀ {p : Prop}, p → Hid p from fun h => h) ?_
        have hm4 : t.length = m4 := by have := ho4.1; rw [ic_len] at this; omega
        subst hm4
        obtain ⟨g4, c4', hform, _⟩ := ho4.form (by omega)
        simp at hform
        obtain ⟨rfl, rfl⟩ := hform
        have HRw := hideIt (RwB.of_own ho4)
        have hgl := (ho4.lt g4 rfl).1
        have HFr : Hid (∀ x ∈ R, x.g ≠ g4) := fun x hx e => by have := (HFB3.out.ins x hx).2.2; omega
        have HFB4 := hideIt (HFB3.out.keep hb4)
        have B4 := HB3.out.trans (hb4.mono z3)
        have z4 := B4.size
        have HB4 := hideIt B4
        clear HTo ho4 hb4 B4 HFB3 HB3 e0 e1 HW
        go_wp2_with (at_builtin; refine wpList_append_own _ rfl _ _ 69 rfl w2.heap.size 44 i0 _ 1 24 Tryz.underlying69 hi hz0 hz1 hz2 rfl (by decide) _ _ _ rfl (HFB4.out.own.alloc _) ⟨w4.heap.size, 0, none⟩ 1 1 [.slice (some ⟨g4, 0, none⟩) t.length c4] rfl rfl (newsV9 w4 _) (by intro y hy; simp at hy; subst hy; rfl) (by unfold maxLen; omega) (by omega) (by simp; omega) ?_)
        intro v5 w5 hown5 hg5 _
        obtain ⟨a5, c5, rfl, F5⟩ := HFB4.out.app (r := ⟨g4, c4, t⟩) HRw.out (by show w2.heap.size ≤ g4; omega) HFr.out hown5 hg5
        have HF5 := hideIt F5
        have HB5 : Hid (Below w2.heap.size w2 w5) := (HB4.out.alloc z4 _).grown hg5 (by simp; omega) (fun j hj => (HFB4.out.own.lt j hj).1)
        clear hown5 hg5 F5 HFB4 HB4
        go_wp2
        exact ⟨⟨k + 1, m + 1, c5, a5, R ++ [⟨g4, c4, t⟩], by omega, by omega, by go_num, rfl, HK2.out _ rfl, HF5.out, HB5.out⟩, by simp [intOf]; omega⟩
    · obtain rfl : k = nn := by omega
      have HR : Hid (rts R = ts) := by show _ = _; have := HK.out; rw [HTS.out] at this; exact (Option.some.inj this).symm
      have r0 := bx.cell0
      have r1 := bx.cell1
      have q0 := bx.frozen 0
      have q1 := bx.frozen 1
      have HFB := hideIt hfb
      have HG : Hid (Good w wr) := (wf2_good w (k : Int) a n c).trans ((HG2.out.trans (hb.mono z2)).mono (by omega))
      clear hfb hb HK
      go_wp2
      refine bodyPost_ret (v := .tuple #[.agg #[.int .i64 (k : Int), .slice a' m c'], .bool true]) (by simp [results, Tryz.results163, go_sem, r0, r1]) rfl ⟨a', m, c', R, rfl, ?_, HR.out, ?_⟩
      · have h1 := (HFB.out.setLow (x := w.heap.size + 1) (by omega) 0 (.int .i64 (k : Int))).setLow (x := w.heap.size + 1) (by omega) 1 (.slice a' m c')
        exact (h1.lo (by omega)).hi (by simp [World.setCell]) (Nat.le_refl _)
      · exact (HG.out.setCell (p := ⟨w.heap.size + 1, 0, none⟩) (by show _ ≤ w.heap.size + 1; omega) _).setCell (p := ⟨w.heap.size + 1, 1, none⟩) (by show _ ≤ w.heap.size + 1; omega) _
end Go.Proofs.YtkkplppcgnikoaaGreat
namespace Go.Proofs.YtkkplppcgnikoaaGreat
open Go.RowKit

/-- behind the web's box, the answer's and the forest's -/
def wf3 (w : World) (N : Int) (a : Option Addr) (n c : Nat) : World := (wf2 w N a n c).alloc (.cells #[.int .i64 N, .slice none 0 0] 127)
theorem wf3_size (w : World) (N : Int) (a : Option Addr) (n c : Nat) : (wf3 w N a n c).heap.size = w.heap.size + 3 := by simp [wf3, wf2, wW]
theorem wf3_good (w : World) (N : Int) (a : Option Addr) (n c : Nat) : Good w (wf3 w N a n c) := (wf2_good w N a n c).alloc _
/-- what lies below w2: the boxes, the edges -/
structure LowS (w : World) (N : Int) (a : Option Addr) (n c : Nat) (w2 : World) (v : Value) (u : World) : Prop where
  box : Box7 u (w.heap.size + 2) 127 (.int .i64 N) v
  out : Box7 u (w.heap.size + 1) 127 (.int .i64 0) (.slice none 0 0)
  inn : Box7 u w.heap.size 26 (.int .i64 N) (.slice a n c)
  old : Below w.heap.size w u
  es : ∀ k, w.heap.size + 3 ≤ k → k < w2.heap.size → u.heap[k]? = w2.heap[k]?
  size : w2.heap.size ≤ u.heap.size
theorem LowS.start {w : World} {N : Int} {a : Option Addr} {n c : Nat} {w2 : World} (h : Below (w.heap.size + 3) (wf3 w N a n c) w2) : LowS w N a n c w2 (.slice none 0 0) w2 := by
  have b1 : Box7 (wf3 w N a n c) w.heap.size 26 (.int .i64 N) (.slice a n c) := ((Box7.new w _ _ _ _ rfl).alloc _).alloc _
  have b2 : Box7 (wf3 w N a n c) (w.heap.size + 1) 127 (.int .i64 0) (.slice none 0 0) := (Box7.new _ _ _ _ _ (by simp [wW])).alloc _
  have b3 : Box7 (wf3 w N a n c) (w.heap.size + 2) 127 (.int .i64 N) (.slice none 0 0) := Box7.new _ _ _ _ _ (by simp [wf2, wW])
  exact ⟨b3.below h (by omega), b2.below h (by omega), b1.below h (by omega), (wf3_good w N a n c).trans (h.mono (by omega)), fun _ _ _ => rfl, Nat.le_refl _⟩
theorem LowS.up {w : World} {N : Int} {a : Option Addr} {n c : Nat} {w2 : World} {v : Value} {u u' : World} (h : LowS w N a n c w2 v u) (hw2 : w.heap.size + 3 ≤ w2.heap.size) (hb : Below w2.heap.size u u') : LowS w N a n c w2 v u' :=
  ⟨h.box.below hb (by omega), h.out.below hb (by omega), h.inn.below hb (by omega), h.old.trans (hb.mono (by omega)), fun k h1 h2 => by rw [hb.block k h2]; exact h.es k h1 h2, Nat.le_trans h.size hb.size⟩
theorem LowS.set {w : World} {N : Int} {a : Option Addr} {n c : Nat} {w2 : World} {v : Value} {u : World} (h : LowS w N a n c w2 v u) (x : Value) : LowS w N a n c w2 x (u.setCell ⟨w.heap.size + 2, 1, none⟩ x) :=
  ⟨h.box.set1 x, h.out.setOther x (by omega), h.inn.setOther x (by omega), h.old.setCell (p := ⟨w.heap.size + 2, 1, none⟩) (by show _ ≤ w.heap.size + 2; omega) x, fun k h1 h2 => by rw [heap_setCell_other u ⟨w.heap.size + 2, 1, none⟩ k x (by show k ≠ w.heap.size + 2; omega)]; exact h.es k h1 h2, by have := h.size; simpa [World.setCell] using this⟩
/-- the list of edges is still there -/
theorem LowS.edges {w : World} {N : Int} {a : Option Addr} {n c : Nat} {w2 : World} {v : Value} {u : World} (h : LowS w N a n c w2 v u) {g mE cE : Nat} {es : List EdgeV}
    (he : w2.ownsRow (w.heap.size + 3) 28 2 (.slice (some ⟨g, 0, none⟩) mE cE) mE (ecells es)) : Es u u.heap.size (some ⟨g, 0, none⟩) mE es := by
  have h2 : u.ownsRow (w.heap.size + 3) 28 2 (.slice (some ⟨g, 0, none⟩) mE cE) mE (ecells es) := by
    refine ⟨he.1, ?_⟩
    rcases he.2 with ⟨h3, _⟩ | ⟨g2, cap, cur, hv, hg, hcur, hrest⟩
    · simp at h3
    · refine .inr ⟨g2, cap, cur, hv, hg, ?_, hrest⟩
      have hgl := he.lt g2 (by rw [hv]; rfl)
      rw [h.es g2 hgl.1 hgl.2]
      exact hcur
  exact Es_of_own h2
/-- rows of other sorts do not meet -/
theorem own_kind {u : World} {lo e s n lo' e' s' n' : Nat} {v v' : Value} {xs xs' : List Value} (h : u.ownsRow lo e s v n xs) (h' : u.ownsRow lo' e' s' v' n' xs') (hne : e ≠ e') : v.ownBlock = none ∨ v.ownBlock ≠ v'.ownBlock := by
  rcases h.2 with ⟨rfl, _⟩ | ⟨g, cap, cur, rfl, hb, hg, rest⟩
  · exact .inl rfl
  · refine .inr fun e1 => ?_
    rcases h'.2 with ⟨rfl, _⟩ | ⟨g', cap', cur', rfl, hb', hg', rest'⟩
    · simp [Value.ownBlock] at e1
    · simp [Value.ownBlock] at e1
      subst e1
      rw [hg] at hg'
      simp at hg'
      exact hne hg'.2
theorem FB.other {u v : World} {lo : Nat} {a : Option Addr} {n c : Nat} {R : List Rw} (h : FB u lo u.heap.size a n c R) {lo' e' s' n' : Nat} {x' : Value} {xs' : List Value} (hd : u.ownsRow lo' e' s' x' n' xs') (hty : 44 ≠ e') (hap : ∀ r ∈ R, x'.ownBlock ≠ some r.g) (hg : u.grownBy v x'.ownBlock) : FB v lo v.heap.size a n c R := by
  have ho := World.ownsRow.kept h.own hg (own_kind h.own hd hty)
  refine ⟨h.len, ho, fun g hg2 => (ho.lt g hg2).2, Nat.le_refl _, fun r hr => ?_, h.nod⟩
  have h1 := h.ins r hr
  have h2 := h1.1.grown hg (hap r hr)
  exact ⟨h2, h1.2.1, h2.lt⟩
theorem own_grown {u u' : World} {lo : Nat} {o : Obj} {x : Value} {e s n : Nat} {xs : List Value} (h : u.ownsRow lo e s x n xs) (hg : (u.alloc o).grownBy u' x.ownBlock) (hl : lo ≤ u.heap.size) : Below lo u u' :=
  ((Below.refl lo u).alloc hl o).grown hg (by simp; omega) (fun j hj => (h.lt j hj).1)
theorem own_grown' {u u' : World} {lo : Nat} {x : Value} {e s n : Nat} {xs : List Value} (h : u.ownsRow lo e s x n xs) (hg : u.grownBy u' x.ownBlock) (hl : lo ≤ u.heap.size) : Below lo u u' :=
  (Below.refl lo u).grown hg hl (fun j hj => (h.lt j hj).1)
theorem flat_snoc (ts : List (List Int)) (t : List Int) : (ts ++ [t]).flatten = ts.flatten ++ t := by simp
theorem ic_app (a b : List Int) : ic (a ++ b) = ic a ++ ic b := by simp [ic]

set_option maxRecDepth 100000 in
set_option maxHeartbeats 4000000 in
theorem sForestAt_any (nn : Nat) (ls : List Ld) (lv : Int) (n : Nat) (a : Option Addr) (c : Nat) (hn1 : 1 ≤ nn) (hn12 : nn ≤ 12) (hG : gB (nn : Int) (gE ls) = true) (w : World) (h : Ls w w.heap.size a n ls) :
    Calls Tryz.prog 82 #[.agg #[.int .i64 (nn : Int), .slice a n c], .int .i64 lv] w (FAn9 w (nn : Int) (ftK (fE ls lv) nn nn)) := by
  obtain ⟨i0, hi, hz0, hz1, hz2⟩ := info_parts infoIT9
  obtain ⟨j0, hj, hy0, hy1, hy2⟩ := info_parts info3i
  have hlen := h.1
  have h66 : n ≤ 66 := by have := (gB_chk hG).2.2; rw [gE_len] at this; omega
  have HE := hideIt (fE_ends hG lv)
  have HI1 := l01In_any (nn : Int) 1 12
  have HIn : Hid (∀ u, Calls Tryz.prog 81 #[.int .i64 (nn : Int), .int .i64 1, .int .i64 12] u fun e w' => e = .returned (.bool true) ∧ w' = u) := fun u => by
    have := HI1 u
    rw [decide_eq_true (by omega)] at this
    exact this
  have HT := hideIt (l08Tree_any (nn : Int) ls lv n a c (by omega) _ (h.up (wf3_good w (nn : Int) a n c)))
  have HTo : Hid (∀ (g m c' k : Nat) (t sn : List Int) (u : World), k < nn → wk (fE ls lv) nn nn (k : Int) (-1) [] = some (t, sn) → t.length ≤ 23 → Es u u.heap.size (some ⟨g, 0, none⟩) m (fE ls lv) → Calls Tryz.prog 172 #[.int .i64 (nn : Int), .slice (some ⟨g, 0, none⟩) m c', .int .i64 (k : Int)] u fun e w' => ∃ a' m c', e = .returned (.tuple #[.slice a' m c', .bool true]) ∧ w'.ownsRow u.heap.size 3 1 (.slice a' m c') m (ic t) ∧ Below u.heap.size u w') := fun g m c' k t sn u hk hw htl hu =>
    sTourOf_any (fE ls lv) nn m k (some ⟨g, 0, none⟩) c' t sn hn1 hn12 (by have := hu.1; have := fE_len ls lv; omega) hk (fun e he => gB_eB hG (fE_g he)) hw (by omega) u hu
  have HTr : Hid (∀ (g m c' k : Nat) (u : World), k < nn → wk (fE ls lv) nn nn (k : Int) (-1) [] = none → Es u u.heap.size (some ⟨g, 0, none⟩) m (fE ls lv) → Calls Tryz.prog 172 #[.int .i64 (nn : Int), .slice (some ⟨g, 0, none⟩) m c', .int .i64 (k : Int)] u fun e w' => ∃ a' c', e = .returned (.tuple #[.slice a' 0 c', .bool false]) ∧ Below u.heap.size u w') := fun g m c' k u hk hw hu =>
    sTourOf_ring (fE ls lv) nn m k (some ⟨g, 0, none⟩) c' hn1 hn12 (by have := hu.1; have := fE_len ls lv; omega) hk (fun e he => gB_eB hG (fE_g he)) hw u hu
  clear h hG HI1
  go_enter Tryz.func82, Tryz.ntmps82
  go_wp2_with (go_at_call 170; refine HT.out.mono ?_; rintro e w2 ⟨g, mE, cE, rfl, hoE, hb2⟩; refine Hid.out ?_)
  refine (show ∀ {p : Prop}, p → Hid p from fun h => h) ?_
  rw [wf3_size] at hoE hb2
  have z2 := hb2.size
  rw [wf3_size] at z2
  have hL0 := LowS.start hb2
  have HOE := hideIt hoE
  have k0 := hL0.inn.cell0
  have HL0 := hideIt (hL0.up z2 ((Below.refl _ _).alloc (Nat.le_refl _) (.cells #[] 3)))
  have HD0 : Hid ((w2.alloc (.cells #[] 3)).ownsRow w2.heap.size 3 1 (.slice (some ⟨w2.heap.size, 0, none⟩) 0 0) 0 (ic [])) := by
    show World.ownsRow _ _ _ _ _ _ _
    have h0 := World.ownsRow_lit (base := w2.heap.size) (e := 3) (size := 1) w2 #[] 0 (Nat.le_refl _) (by unfold maxLen; omega) (by simp)
    simpa [ic] using h0
  have HF0 : Hid (FB (w2.alloc (.cells #[] 3)) w2.heap.size (w2.alloc (.cells #[] 3)).heap.size none 0 0 []) := FB.nil _ _
  clear HT hoE hb2 hL0
  go_wp2_with (go_at_call 81; refine (HIn.out _).mono ?_; rintro e w1 ⟨rfl, hw⟩; have hw' := hw.symm; subst hw'; clear hw)
  go_loopw [8, 9] (fun d i wr => ∃ (k m c' md cd : Nat) (a' ad : Option Addr) (R : List Rw), k ≤ nn ∧ m ≤ k ∧ md ≤ 23 * k ∧ i = .int .i64 (k : Int) ∧ d = .slice ad md cd ∧ Hid (ftK (fE ls lv) nn k = some (rts R)) ∧ LowS w (nn : Int) a n c w2 (.slice a' m c') wr ∧ FB wr w2.heap.size wr.heap.size a' m c' R ∧ wr.ownsRow w2.heap.size 3 1 (.slice ad md cd) md (ic (rts R).flatten) ∧ Hid (∀ x ∈ R, (Value.slice ad md cd).ownBlock ≠ some x.g)) (fun _ i _ => nn - (intOf i).toNat)
  case atStart => exact ⟨0, 0, 0, 0, 0, none, _, [], by omega, by omega, by omega, rfl, rfl, rfl, HL0.out, HF0.out, HD0.out, fun x hx => by simp at hx⟩
  case round =>
    obtain ⟨k, m, c', md, cd, a', ad, R, hk, hm, hmd, rfl, rfl, HK, hL, hfb, hd, HAp⟩ := hrel
    clear HL0 HD0 HF0 k0
    have k0 := hL.inn.cell0
    have hz := hL.size
    by_cases hlt : k < nn
    · have HIn2 := hideIt (l05In_any (rts R).flatten (k : Int) md ad cd (by omega) wr (Is_of_own hd))
      by_cases hin : (k : Int) ∈ (rts R).flatten
      · rw [decide_eq_true hin] at HIn2
        have HK2 := hideIt (ftK_there HK.out hin)
        have HL := hideIt hL
        have HFB := hideIt hfb
        have HD := hideIt hd
        clear hin hL hfb hd HK
        go_wp2_with (go_at_call 171; refine HIn2.out.mono ?_; rintro e w1 ⟨rfl, hw⟩; have hw' := hw.symm; subst hw'; clear hw)
        exact ⟨⟨k + 1, m, c', md, cd, a', ad, R, by omega, by omega, by omega, by go_num, rfl, HK2, HL.out, HFB.out, HD.out, HAp⟩, by simp [intOf]; omega⟩
      · rw [decide_eq_false hin] at HIn2
        cases hw : wk (fE ls lv) nn nn (k : Int) (-1) [] with
        | none =>
          have HN := hideIt (ftK_none (ftK_ring HK.out hin hw) nn (by omega))
          have HT2 := hideIt (HTr.out g mE cE k wr hlt hw (hL.edges HOE.out))
          have HL := hideIt hL
          clear hin hw hL hfb hd HK
          go_wp2_with (first | (go_at_call 171; refine HIn2.out.mono ?_; rintro e w1 ⟨rfl, hw⟩; have hw' := hw.symm; subst hw'; clear hw) | (go_at_call 172; refine HT2.out.mono ?_; rintro e w4 ⟨a4, c4, rfl, hb4⟩; refine Hid.out ?_))
          refine (show ∀ {p : Prop}, p → Hid p from fun h => h) ?_
          have hL4 := HL.out.up z2 (hb4.mono hz)
          have r0 := hL4.out.cell0
          have r1 := hL4.out.cell1
          have q0 := hL4.out.frozen 0
          have q1 := hL4.out.frozen 1
          have HOl := hideIt hL4.old
          clear HT2 hb4 hL4
          go_wp2
          rw [HN.out]
          refine bodyPost_ret (v := .tuple #[.agg #[.int .i64 0, .slice none 0 0], .bool false]) (by simp [results, Tryz.results82, go_sem, r0, r1]) rfl ⟨none, 0, 0, [], rfl, FB.nil _ _, rfl, ?_⟩
          exact (HOl.out.setCell (p := ⟨w.heap.size + 1, 0, none⟩) (by show _ ≤ w.heap.size + 1; omega) _).setCell (p := ⟨w.heap.size + 1, 1, none⟩) (by show _ ≤ w.heap.size + 1; omega) _
        | some p =>
          obtain ⟨t, sn⟩ := p
          have htl := tB_len (wk_tree HE.out hn12 (by omega) (by omega) hw).1
          have HK2 : Hid (∀ r : Rw, r.t = t → ftK (fE ls lv) nn (k + 1) = some (rts (R ++ [r]))) := fun r hr => by rw [ftK_new HK.out hin hw, rts_snoc, hr]
          have HT2 := hideIt (HTo.out g mE cE k t sn wr hlt hw (by omega) (hL.edges HOE.out))
          have HL := hideIt hL
          have HFB := hideIt hfb
          have HD := hideIt hd
          clear hin hw hL hfb hd HK
          go_wp2_with (first | (go_at_call 171; refine HIn2.out.mono ?_; rintro e w1 ⟨rfl, hw⟩; have hw' := hw.symm; subst hw'; clear hw) | (go_at_call 172; refine HT2.out.mono ?_; rintro e w4 ⟨a4, m4, c4, rfl, ho4, hb4⟩; refine Hid.out ?_))
          refine (show ∀ {p : Prop}, p → Hid p from fun h => h) ?_
          have hm4 : t.length = m4 := by have := ho4.1; rw [ic_len] at this; omega
          subst hm4
          obtain ⟨g4, c4', hform, _⟩ := ho4.form (by omega)
          simp at hform
          obtain ⟨rfl, rfl⟩ := hform
          have hgl := (ho4.lt g4 rfl).1
          have HRw := hideIt (RwB.of_own ho4)
          have HL4 := hideIt (HL.out.up z2 (hb4.mono hz))
          have HFB4 := hideIt (HFB.out.keep hb4)
          have HD4 := hideIt (own_up HD.out hb4)
          have HFr : Hid (∀ x ∈ R, x.g ≠ g4) := fun x hx e => by have := (HFB.out.ins x hx).2.2; omega
          have HDg : Hid ((Value.slice ad md cd).ownBlock ≠ some g4) := fun e => by have := (HD.out.lt g4 e).2; omega
          have z4 := HL4.out.size
          have e0 := HL4.out.box.cell1
          have e1 := HL4.out.box.frozen 1
          clear HT2 ho4 hb4 HL HFB HD k0 HIn2
          go_wp2_with (at_builtin; refine wpList_append_own _ rfl _ _ 69 rfl w2.heap.size 44 i0 _ 1 24 Tryz.underlying69 hi hz0 hz1 hz2 rfl (by decide) _ _ _ rfl (HFB4.out.own.alloc _) ⟨w4.heap.size, 0, none⟩ 1 1 [.slice (some ⟨g4, 0, none⟩) t.length c4] rfl rfl (newsV9 w4 _) (by intro y hy; simp at hy; subst hy; rfl) (by unfold maxLen; omega) (by omega) (by simp; omega) ?_)
          intro v5 w5 hown5 hg5 _
          obtain ⟨a5, c5, rfl, F5⟩ := HFB4.out.app (r := ⟨g4, c4, t⟩) HRw.out (by show w2.heap.size ≤ g4; omega) HFr.out hown5 hg5
          have hbl5 := own_grown HFB4.out.own hg5 z4
          have HL5 := hideIt (HL4.out.up z2 hbl5)
          have hd5 := World.ownsRow.kept (HD4.out.alloc (.cells #[.slice (some ⟨g4, 0, none⟩) t.length c4] 44)) hg5 (by
            rcases own_kind HD4.out HFB4.out.own (by decide) with h1 | h1
            · exact .inl h1
            · exact .inr h1)
          have HD5 := hideIt hd5
          have HF5 := hideIt F5
          have x0 := HL5.out.box.cell1
          have x1 := HL5.out.box.frozen 1
          clear hown5 hg5 F5 HFB4 HL4 HD4 hbl5 hd5 e0 e1
          have HL6 := hideIt (HL5.out.set (.slice a5 (m + 1) c5))
          have HF6 := hideIt ((HF5.out.setLow (x := w.heap.size + 2) (by omega) 1 (.slice a5 (m + 1) c5)).hi (hi' := (w5.setCell ⟨w.heap.size + 2, 1, none⟩ (.slice a5 (m + 1) c5)).heap.size) (by simp [World.setCell]) (Nat.le_refl _))
          have HD6 := hideIt (own_setLow HD5.out (w.heap.size + 2) 1 (.slice a5 (m + 1) c5) (by omega))
          refine Hid.out ?_
          refine (show ∀ {p : Prop}, p → Hid p from fun h => h) ?_
          have hIs : Is (w5.setCell ⟨w.heap.size + 2, 1, none⟩ (.slice a5 (m + 1) c5)) (w5.setCell ⟨w.heap.size + 2, 1, none⟩ (.slice a5 (m + 1) c5)).heap.size (some ⟨g4, 0, none⟩) t.length t := (HF6.out.ins ⟨g4, c4, t⟩ (by simp)).1.is
          have HN6 := hideIt hIs.news
          have HN6l : Hid ((ic t).length = t.length * 1) := by show _ = _; rw [ic_len]; omega
          have z6 := HL6.out.size
          have hmdl : md ≤ 300 := by omega
          clear hIs HL5 HF5 HD5
          go_wp2_with (at_builtin; refine wpList_append_lies _ rfl _ _ 44 rfl w2.heap.size 3 j0 _ 1 8 Tryz.underlying44 hj hy0 hy1 hy2 rfl (by decide) _ _ _ rfl HD6.out ⟨g4, 0, none⟩ t.length c4 (ic t) rfl HN6l.out HN6.out ic_one (by omega) (by unfold maxLen; omega) (by omega) z6 _ rfl ?_)
          intro g7 c7 w7 hown7 hg7 hnew7 _
          have HB7 := own_grown' HD6.out hg7 z6
          have HL7 := hideIt (HL6.out.up z2 HB7)
          have HF7 := hideIt (HF6.out.other HD6.out (by decide) (fun r hr => by
            rcases List.mem_append.1 hr with h1 | h1
            · exact HAp.out r h1
            · simp at h1; subst h1; exact HDg.out) hg7)
          have HD7 : Hid (w7.ownsRow w2.heap.size 3 1 (.slice (some ⟨g7, 0, none⟩) (md + t.length) c7) (md + t.length) (ic (rts (R ++ [⟨g4, c4, t⟩])).flatten)) := by
            show World.ownsRow _ _ _ _ _ _ _
            rw [rts_snoc, flat_snoc, ic_app]
            exact hown7
          have HAp7 : Hid (∀ x ∈ R ++ [⟨g4, c4, t⟩], (Value.slice (some ⟨g7, 0, none⟩) (md + t.length) c7).ownBlock ≠ some x.g) := fun x hx e => by
            have e2 : g7 = x.g := by simpa [Value.ownBlock] using e
            have hx6 := (HF6.out.ins x hx).2.2
            rcases hnew7 with h1 | h1
            · rcases List.mem_append.1 hx with h2 | h2
              · exact HAp.out x h2 (by rw [h1, e2])
              · simp at h2
                subst h2
                exact HDg.out (by rw [h1, e2])
            · have h3 : (w5.setCell ⟨w.heap.size + 2, 1, none⟩ (.slice a5 (m + 1) c5)).heap.size = w5.heap.size := by simp [World.setCell]
              rw [h3] at hx6
              have h4 : g7 = w5.heap.size := by rw [h1]
              omega
          clear hown7 hg7 hnew7 HB7 HL6 HF6 HD6 HN6 HN6l x0 x1
          go_wp2
          exact ⟨⟨k + 1, m + 1, c5, md + t.length, c7, a5, some ⟨g7, 0, none⟩, R ++ [⟨g4, c4, t⟩], by omega, by omega, by omega, by go_num, rfl, HK2.out _ rfl, HL7.out, HF7.out, HD7.out, HAp7⟩, by simp [intOf]; omega⟩
    · obtain rfl : k = nn := by omega
      have r0 := hL.out.cell0
      have r1 := hL.out.cell1
      have q0 := hL.out.frozen 0
      have q1 := hL.out.frozen 1
      have e0 := hL.box.cell0
      have e1 := hL.box.cell1
      have HFB := hideIt hfb
      have HOl := hideIt hL.old
      clear hfb hd hL
      go_wp2
      rw [HK.out]
      refine bodyPost_ret (v := .tuple #[.agg #[.int .i64 (k : Int), .slice a' m c'], .bool true]) (by simp [results, Tryz.results82, go_sem, r0, r1]) rfl ⟨a', m, c', R, rfl, ?_, rfl, ?_⟩
      · exact ((HFB.out.setLow (x := w.heap.size + 1) (by omega) 0 (.int .i64 (k : Int))).setLow (x := w.heap.size + 1) (by omega) 1 (.slice a' m c')).lo (by omega) |>.hi (by simp [World.setCell]) (Nat.le_refl _)
      · exact (HOl.out.setCell (p := ⟨w.heap.size + 1, 0, none⟩) (by show _ ≤ w.heap.size + 1; omega) _).setCell (p := ⟨w.heap.size + 1, 1, none⟩) (by show _ ≤ w.heap.size + 1; omega) _
end Go.Proofs.YtkkplppcgnikoaaGreat
namespace Go.Proofs.YtkkplppcgnikoaaGreat
open Go.RowKit

theorem ic_set (L : List Int) (v : Nat) (x : Int) : (ic L).set v (.int .i64 x) = ic (L.set v x) := by unfold ic; rw [List.map_set]
set_option maxRecDepth 100000 in
set_option maxHeartbeats 4000000 in
theorem rootsOf_any (nn : Nat) (ts : List (List Int)) (n : Nat) (a : Option Addr) (c : Nat) (hnn : nn ≤ 12) (hn : n ≤ 12) (hr : ∀ t ∈ ts, 0 < t.length ∧ t.length ≤ 23 ∧ ∀ x ∈ t, 0 ≤ x ∧ x < (nn : Int)) (hap : ts.Pairwise Apart) (w : World) (h : Ts w w.heap.size a n ts) :
    Calls Tryz.prog 85 #[.agg #[.int .i64 (nn : Int), .slice a n c]] w fun e w' => ∃ g L, e = .returned (.slice (some ⟨g, 0, none⟩) nn nn) ∧ w'.ownsRow w.heap.size 3 1 (.slice (some ⟨g, 0, none⟩) nn nn) nn (ic L) ∧ (∀ t ∈ ts, ∀ v : Nat, (v : Int) ∈ t → L[v]? = t[0]?) ∧ Below w.heap.size w w' := by
  obtain ⟨i0, hi, hz0, hz1, hz2⟩ := info_parts info3i
  have hmk : ∀ u : World, (Instr.makeSlice 44 (.int .i64 (nn : Int)) (.int .i64 (nn : Int))).run Tryz.prog u =
      .ok (.slice (some ⟨u.heap.size, 0, none⟩) nn nn) (u.alloc (.cells (madeCells #[.int .i64 0] nn) 3)) := fun u => by
    have h := run_make (P := Tryz.prog) u 44 3 i0 _ Tryz.underlying44 hi hz0 .i64 .i64 (nn : Int) (nn : Int) (by omega) (by omega) (by rw [hz2]; omega) (by omega)
    rw [Int.toNat_natCast] at h
    simpa [hz1, Value.cells] using h
  have b0 : Good w (w.alloc (.cells #[.int .i64 (nn : Int), .slice a n c] 127)) := (Good.refl w).alloc _
  have hlen := h.1
  have HA := hideIt h
  have HRg := hideIt hr
  have HAp := hideIt hap
  have o0 := World.ownsRow_lit (base := w.heap.size + 1) (e := 3) (size := 1) (w.alloc (.cells #[.int .i64 (nn : Int), .slice a n c] 127)) (madeCells #[.int .i64 0] nn) nn (by simp) (by unfold maxLen; omega) (by simp [madeCells])
  have eL : (madeCells #[.int .i64 0] nn).toList = ic (List.replicate nn 0) := by
    apply List.ext_getElem?
    intro j
    by_cases hj : j < nn
    · simp [madeCells, ic, hj, Nat.mod_one]
    · simp [madeCells, ic, hj]
  rw [eL] at o0
  have HO0 : Hid (((w.alloc (.cells #[.int .i64 (nn : Int), .slice a n c] 127)).alloc (.cells (madeCells #[.int .i64 0] nn) 3)).ownsRow (w.heap.size + 1) 3 1 (.slice (some ⟨w.heap.size + 1, 0, none⟩) nn nn) nn (ic (List.replicate nn 0))) := by show World.ownsRow _ _ _ _ _ _ _; simpa using o0
  have HB0 : Hid (Below (w.heap.size + 1) (w.alloc (.cells #[.int .i64 (nn : Int), .slice a n c] 127)) ((w.alloc (.cells #[.int .i64 (nn : Int), .slice a n c] 127)).alloc (.cells (madeCells #[.int .i64 0] nn) 3))) := (Below.refl _ _).alloc (by simp) _
  have HGd : Hid (∀ u, Below (w.heap.size + 1) (w.alloc (.cells #[.int .i64 (nn : Int), .slice a n c] 127)) u → Good w u) := fun u hu => b0.trans (hu.mono (by omega))
  clear h hr hap o0 eL b0
  go_enter Tryz.func85, Tryz.ntmps85
  go_wp2
  go_loopw [14] (fun i wr => ∃ (k : Nat) (L : List Int), k ≤ n ∧ i = .int .i64 (k : Int) ∧ Hid (∀ j t, j < k → ts[j]? = some t → ∀ v : Nat, (v : Int) ∈ t → L[v]? = t[0]?) ∧ wr.ownsRow (w.heap.size + 1) 3 1 (.slice (some ⟨w.heap.size + 1, 0, none⟩) nn nn) nn (ic L) ∧ Below (w.heap.size + 1) (w.alloc (.cells #[.int .i64 (nn : Int), .slice a n c] 127)) wr) (fun i _ => n - (intOf i).toNat)
  case atStart => exact ⟨0, _, by omega, rfl, fun j t hj => by omega, HO0.out, HB0.out⟩
  case round =>
    obtain ⟨k, L, hk, rfl, HK, hown, hb⟩ := hrel
    clear HO0 HB0
    by_cases hlt : k < n
    · rcases (HA.out.up (HGd.out _ hb)).2 with hz | ⟨b, off, rfl, hbl, hc⟩
      · omega
      · obtain ⟨t, ht⟩ : ∃ t, ts[k]? = some t := ⟨ts[k]'(by omega), List.getElem?_eq_getElem (by omega)⟩
        obtain ⟨x, cx, e0, iI, _⟩ := hc k t ht
        obtain ⟨ht0, ht23, htr⟩ := HRg.out t (List.mem_of_getElem? ht)
        have b1 : (0 : Int) ≤ (k : Int) := by omega
        have b2 : (k : Int) < (n : Int) := by omega
        rcases (HA.out.below (HGd.out _ hb) (Nat.le_refl _)).2 with hz | ⟨b', off', hbe, hbl', hc'⟩
        · omega
        simp at hbe
        obtain ⟨rfl, rfl⟩ := hbe
        obtain ⟨x', cx', e0', iI', _⟩ := hc' k t ht
        rw [e0'] at e0
        simp at e0
        obtain ⟨rfl, rfl⟩ := e0
        have HIs : Hid (Is w w.heap.size x' t.length t) := by
          rcases HA.out.2 with hz | ⟨b2, off2, hbe, _, hc2⟩
          · omega
          simp at hbe
          obtain ⟨rfl, rfl⟩ := hbe
          obtain ⟨x2, cx2, e2, iI2, _⟩ := hc2 k t ht
          have e3 : wr.cell? ⟨b, off + k, none⟩ = w.cell? ⟨b, off + k, none⟩ := (HGd.out _ hb).cell hbl'
          rw [e0', e2] at e3
          simp at e3
          obtain ⟨rfl, rfl⟩ := e3
          exact iI2
        have HTk := hideIt ht
        have HTr := hideIt htr
        have HApk : Hid (∀ j s, j < k → ts[j]? = some s → ∀ y ∈ s, y ∉ t) := fun j s hj hs y hy hyt => by
          obtain ⟨h1, e1⟩ := List.getElem?_eq_some_iff.1 hs
          obtain ⟨h2, e2⟩ := List.getElem?_eq_some_iff.1 ht
          have := List.pairwise_iff_getElem.1 HAp.out j k h1 h2 hj
          rw [e1, e2] at this
          exact this y hy hyt
        clear hc hc' ht iI iI' htr
        go_wp2
        go_loopw [20] (fun i wr => ∃ (q : Nat) (L : List Int), q ≤ t.length ∧ i = .int .i64 (q : Int) ∧ Hid (∀ j t, j < k → ts[j]? = some t → ∀ v : Nat, (v : Int) ∈ t → L[v]? = t[0]?) ∧ Hid (∀ p (v : Nat), p < q → t[p]? = some (v : Int) → L[v]? = t[0]?) ∧ wr.ownsRow (w.heap.size + 1) 3 1 (.slice (some ⟨w.heap.size + 1, 0, none⟩) nn nn) nn (ic L) ∧ Below (w.heap.size + 1) (w.alloc (.cells #[.int .i64 (nn : Int), .slice (some ⟨b, off, none⟩) n c] 127)) wr) (fun i _ => t.length - (intOf i).toNat)
        case atStart => exact ⟨0, L, by omega, rfl, HK, fun p v hp => by omega, hown, hb⟩
        case round =>
          obtain ⟨q, L2, hq, rfl, HK2, HQ, hown2, hb2⟩ := hrel
          clear HK hown hb e0'
          have hlL : L2.length = nn := by have := hown2.1; rw [ic_len] at this; omega
          by_cases hlt2 : q < t.length
          · rcases (HIs.out.below (HGd.out _ hb2) (Nat.le_refl _)).2 with hz | ⟨b3, off3, rfl, hbl3, hc3⟩
            · omega
            · obtain ⟨y, hy⟩ : ∃ y, t[q]? = some y := ⟨t[q], List.getElem?_eq_getElem hlt2⟩
              obtain ⟨y0, hy0⟩ : ∃ y, t[0]? = some y := ⟨t[0], List.getElem?_eq_getElem ht0⟩
              have hyr := HTr.out y (List.mem_of_getElem? hy)
              obtain ⟨v, rfl⟩ : ∃ v : Nat, y = (v : Int) := ⟨y.toNat, by omega⟩
              have f0 := hc3 q _ hy
              have f1 := hc3 0 _ hy0
              rw [Nat.add_zero] at f1
              have b3' : (0 : Int) ≤ (q : Int) := by omega
              have b4 : (q : Int) < (t.length : Int) := by omega
              have b5 : (0 : Int) < (t.length : Int) := by omega
              have b6 : (0 : Int) ≤ (v : Int) := by omega
              have b7 : (v : Int) < (nn : Int) := hyr.2
              have hvn : v < nn := by omega
              have fz := hown2.frozenAt v
              obtain ⟨o, x0⟩ : ∃ o, wr.cell? ⟨w.heap.size + 1, v, none⟩ = some o := ⟨_, by rw [hown2.cellAt v (by omega)]; exact List.getElem?_eq_getElem (by rw [ic_len]; omega)⟩
              have hst := (hown2.stored v (.int .i64 y0)).1
              rw [ic_set] at hst
              have HO := hideIt hst
              have HB := hideIt (hb2.setCell (p := ⟨w.heap.size + 1, v, none⟩) (Nat.le_refl _) (.int .i64 y0))
              have HK3 : Hid (∀ j s, j < k → ts[j]? = some s → ∀ u : Nat, (u : Int) ∈ s → (L2.set v y0)[u]? = s[0]?) := fun j s hj hs u hu => by
                have hne : v ≠ u := fun e => HApk.out j s hj hs (u : Int) hu (by rw [← e]; exact List.mem_of_getElem? hy)
                rw [List.getElem?_set_ne hne]
                exact HK2.out j s hj hs u hu
              have HQ3 : Hid (∀ p (u : Nat), p < q + 1 → t[p]? = some (u : Int) → (L2.set v y0)[u]? = t[0]?) := fun p u hp hu => by
                by_cases e : v = u
                · subst e
                  rw [List.getElem?_set_self (by omega), hy0]
                · rw [List.getElem?_set_ne e]
                  by_cases hpq : p = q
                  · subst hpq
                    rw [hy] at hu
                    simp at hu
                    omega
                  · exact HQ.out p u (by omega) hu
              clear hc3 hy hy0 hyr hown2 hb2 hst HK2 HQ
              go_wp2
              exact ⟨⟨q + 1, _, by omega, by go_num, HK3, HQ3, HO.out, HB.out⟩, by simp [intOf]; omega⟩
          · obtain rfl : q = t.length := by omega
            have HK3 : Hid (∀ j s, j < k + 1 → ts[j]? = some s → ∀ u : Nat, (u : Int) ∈ s → L2[u]? = s[0]?) := fun j s hj hs u hu => by
              by_cases e : j = k
              · subst e
                rw [HTk.out] at hs
                obtain rfl := Option.some.inj hs
                obtain ⟨p, hp⟩ := List.mem_iff_getElem?.1 hu
                exact HQ.out p u (List.getElem?_eq_some_iff.1 hp).1 hp
              · exact HK2.out j s (by omega) hs u hu
            have HO := hideIt hown2
            have HB := hideIt hb2
            clear hown2 hb2 HK2 HQ
            go_wp2
            exact ⟨⟨k + 1, L2, by omega, by go_num, HK3, HO.out, HB.out⟩, by simp [intOf]; omega⟩
    · obtain rfl : k = n := by omega
      have HF : Hid (∀ t ∈ ts, ∀ v : Nat, (v : Int) ∈ t → L[v]? = t[0]?) := fun t ht v hv => by
        obtain ⟨j, hj⟩ := List.mem_iff_getElem?.1 ht
        exact HK.out j t (by have := (List.getElem?_eq_some_iff.1 hj).1; omega) hj v hv
      have HO := hideIt hown
      have HB := hideIt hb
      clear hown hb HK
      go_wp2
      go_ret
      exact ⟨w.heap.size + 1, L, rfl, own_mono HO.out (by omega), HF.out, HGd.out _ HB.out⟩
end Go.Proofs.YtkkplppcgnikoaaGreat
