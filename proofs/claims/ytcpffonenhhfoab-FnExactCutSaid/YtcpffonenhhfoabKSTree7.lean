/- The program's EdgeOk. The program's shareOut and ForestOk. The program's placeTold, TreeOf and SizeOf. The program's replanted. Where a law stands that looks at fresh memory: forests in ranges of blocks of their own. The specification's TreeOf and SizeOf. -/
import Derived.Test.YtcpffonenhhfoabKE6
import Derived.Test.YtcpffonenhhfoabKSh7
import Derived.Test.YtcpffonenhhfoabKToInt6
import Derived.Test.YtcpffonenhhfoabKSWith7
import Derived.Test.YtcpffonenhhfoabKLc7
import Derived.Test.YtcpffonenhhfoabKSplit
namespace Go.Proofs.Ytcpffonenhhfoab
open Go.RowKit

theorem vertsOk_any (x : Int) (w : World) : Calls Try.prog 51 #[.int .i64 x] w fun e w' => e = .returned (.bool (decide (1 ≤ x ∧ x ≤ 12))) ∧ w' = w := by
  by_cases h1 : 1 ≤ x
  · by_cases h2 : x ≤ 12
    · have d1 : decide (1 ≤ x) = true := by simpa using h1
      have d2 : decide (x ≤ 12) = true := by simpa using h2
      go_enter Try.func51, Try.ntmps51
      go_wp2
      go_ret
      exact ⟨by simp [h1, h2], rfl⟩
    · have d1 : decide (1 ≤ x) = true := by simpa using h1
      have d2 : decide (x ≤ 12) = false := by simpa using h2
      go_enter Try.func51, Try.ntmps51
      go_wp2
      go_ret
      exact ⟨by simp, rfl⟩
  · have d1 : decide (1 ≤ x) = false := by simpa using h1
    go_enter Try.func51, Try.ntmps51
    go_wp2
    go_ret
    exact ⟨by simp, rfl⟩

theorem iEdgeOk_any (n : Int) (e : EdgeV) (w : World) :
    Calls Try.prog 28 #[.int .i64 n, .agg #[.int .i64 e.1, .int .i64 e.2]] w fun x w' => x = .returned (.bool (eB n e)) ∧ Below w.heap.size w w' := by
  obtain ⟨a, b⟩ := e
  dsimp only
  have HI := hideIt vertsOk_any
  by_cases h1 : 1 ≤ n ∧ n ≤ 12
  · have r1 : decide (1 ≤ n ∧ n ≤ 12) = true := by simpa using h1
    by_cases h2 : 0 ≤ a
    · have r2 : decide (0 ≤ a) = true := by simpa using h2
      by_cases h3 : a < b
      · have r3 : decide (a < b) = true := by simpa using h3
        go_enter Try.func28, Try.ntmps28
        go_wp2_with (go_at_call 51; refine (HI.out _ _).mono ?_; rintro e w1 ⟨rfl, rfl⟩)
        go_ret
        exact ⟨bret (by dsimp only; omega), (Below.refl _ _).alloc (Nat.le_refl _) _⟩
      · have r3 : decide (a < b) = false := by simpa using h3
        go_enter Try.func28, Try.ntmps28
        go_wp2_with (go_at_call 51; refine (HI.out _ _).mono ?_; rintro e w1 ⟨rfl, rfl⟩)
        go_ret
        exact ⟨by simp [eB]; omega, (Below.refl _ _).alloc (Nat.le_refl _) _⟩
    · have r2 : decide (0 ≤ a) = false := by simpa using h2
      go_enter Try.func28, Try.ntmps28
      go_wp2_with (go_at_call 51; refine (HI.out _ _).mono ?_; rintro e w1 ⟨rfl, rfl⟩)
      go_ret
      exact ⟨by simp [eB]; omega, (Below.refl _ _).alloc (Nat.le_refl _) _⟩
  · have r1 : decide (1 ≤ n ∧ n ≤ 12) = false := by simpa using h1
    go_enter Try.func28, Try.ntmps28
    go_wp2_with (go_at_call 51; refine (HI.out _ _).mono ?_; rintro e w1 ⟨rfl, rfl⟩)
    go_ret
    exact ⟨by simp [eB]; omega, (Below.refl _ _).alloc (Nat.le_refl _) _⟩

end Go.Proofs.Ytcpffonenhhfoab
namespace Go.Proofs.Ytcpffonenhhfoab
open Go.RowKit Go.Sort Go.Lib

/-- a whole list laid behind -/
theorem ISt.appL7 {wb : World} {a : Option Addr} {m c k : Nat} {ls xs : List Int} {u : World} (h : ISt wb a m c ls u) {v : Value} {u' : World}
    (ho : u'.ownsRow wb.heap.size 3 1 v (m + k) (ic ls ++ ic xs)) (hg : u.grownBy u' (Value.slice a m c).ownBlock) :
    ∃ a' c', v = .slice a' (m + k) c' ∧ ISt wb a' (m + k) c' (ls ++ xs) u' := by
  obtain ⟨a', c', rfl⟩ := own_form ho
  rw [show ic ls ++ ic xs = ic (ls ++ xs) by simp [ic]] at ho
  refine ⟨a', c', rfl, ho, ?_⟩
  exact h.bel.grown hg h.size (fun j hj => (h.own.lt j hj).1)

set_option maxRecDepth 100000 in
set_option maxHeartbeats 2000000 in
theorem shareOut_any (N : Int) (ts : List (List Int)) (hA : asP ts) (n : Nat) (a : Option Addr) (c : Nat) (w : World) (h : Ts w w.heap.size a n ts) :
    Calls Try.prog 67 #[.int .i64 N, .slice a n c] w fun e w' => ∃ b, e = .returned (.bool b) ∧ (b = true ↔ (srtI (allV ts) = rangeI (srtI (allV ts)).length ∧ ((srtI (allV ts)).length : Int) = N)) ∧ Below w.heap.size w w' := by
  obtain ⟨i0, hi, hz0, hz1, hz2⟩ := info_parts info3i
  have hlen := h.1
  have hn12 := asP_len hA
  have HA := hideIt h
  have HAS := hideIt hA
  have S0 := ISt.start w
  clear h hA
  go_enter Try.func67, Try.ntmps67
  go_wp2
  go_loopw [5, 11] (fun r i wr => ∃ (k m c1 : Nat) (a1 : Option Addr), k ≤ n ∧ m ≤ 12 * k ∧ i = .int .i64 (k : Int) ∧ r = .slice a1 m c1 ∧ Hid (a1 ≠ none) ∧ ISt w a1 m c1 (allV (ts.take k)) wr) (fun _ i _ => n - (intOf i).toNat)
  case atStart => exact ⟨0, 0, 0, _, by omega, by omega, rfl, rfl, by simp [Hid], by rw [List.take_zero]; exact S0⟩
  case round =>
    obtain ⟨k, m, c1, a1, hk, hmk, rfl, rfl, HN1, hst⟩ := hrel
    clear S0
    by_cases hlt : k < n
    · obtain ⟨t, ht⟩ : ∃ t, ts[k]? = some t := ⟨ts[k]'(by omega), List.getElem?_eq_getElem (by omega)⟩
      rcases (HA.out.up hst.bel).2 with hz | ⟨b, off, rfl, hbl, hc⟩
      · omega
      · obtain ⟨x, cx, e0, iI, _⟩ := hc k t ht
        have hB := asP_B HAS.out t (List.mem_of_getElem? ht)
        have hl := tB_len hB
        have b1 : (0 : Int) ≤ (k : Int) := by omega
        have b2 : (k : Int) < (n : Int) := by omega
        have HV := hideIt (iVertsOf_any t t.length x cx (by omega) wr iI)
        have HST := hideIt hst
        have HT2 : Hid (allV (ts.take k) ++ vsL t = allV (ts.take (k + 1))) := by show _ = _; rw [take_snocF ts k t ht, allV_snoc]
        have HPos := hideIt (vs_pos hB)
        have HLen := hideIt (vsL_len t)
        clear hc ht iI hst hB
        go_wp2_with (go_at_call 35; refine HV.out.mono ?_; rintro e w1 ⟨a2, m2, c2, rfl, ho, hb⟩; refine Hid.out ?_)
        refine (show ∀ {p : Prop}, p → Hid p from fun h => h) ?_
        have hm2 : (vsL t).length = m2 := by have := ho.1; rw [ic_len] at this; omega
        have hp2 : 0 < m2 := by have := HPos.out; omega
        have hl2 : m2 ≤ 12 := by have := HLen.out; omega
        rcases ho.2 with ⟨_, h0⟩ | ⟨g, cap, cur, hv, hrest⟩
        · omega
        · simp at hv
          obtain ⟨rfl, rfl⟩ := hv
          have HST2 := hideIt (HST.out.up hb)
          have hsz := HST2.out.size
          have HNews : Hid (∀ j u, (ic (vsL t))[j]? = some u → w1.cell? ((⟨g, 0, none⟩ : Addr).add j) = some u) := fun j u hj => by
            have hj2 := (List.getElem?_eq_some_iff.1 hj).1
            rw [ic_len] at hj2
            have := ho.cellAt j (by omega)
            rw [show (⟨g, 0, none⟩ : Addr).add j = ⟨g, j, none⟩ by by_cases h0 : j = 0 <;> simp [Addr.add, h0], this]
            exact hj
          have HL := hideIt (show (ic (vsL t)).length = m2 * 1 by rw [ic_len]; omega)
          clear HST hb hrest ho HV hm2
          go_wp2_with (at_builtin; refine wpList_append_own _ rfl _ _ 45 rfl w.heap.size 3 i0 _ 1 8 Try.underlying45 hi hz0 hz1 hz2 rfl (by decide) _ _ _ rfl HST2.out.own ⟨g, 0, none⟩ m2 c2 (ic (vsL t)) rfl HL.out HNews.out (by intro u hu; simp [ic] at hu; obtain ⟨q, _, rfl⟩ := hu; rfl) (by unfold maxLen; omega) (by omega) (by omega) ?_)
          intro v5 w5 hown5 hg5 hnil
          obtain ⟨a5, c5, rfl, S5⟩ := HST2.out.appL7 hown5 hg5
          have HN5 : Hid (a5 ≠ none) := fun e => by
            subst e
            rcases hown5.2 with ⟨_, h0⟩ | ⟨g6, _, _, hv6, _⟩
            · omega
            · simp at hv6
          clear hown5 hg5 HST2 HNews hnil
          go_wp2
          exact ⟨⟨k + 1, m + m2, c5, a5, by omega, by omega, by go_num, rfl, HN5, by rw [← HT2.out]; exact S5⟩, by simp [intOf]; omega⟩
    · obtain rfl : k = n := by omega
      have hm : (allV ts).length = m := by
        have := hst.len
        rw [List.take_of_length_le (by omega)] at this
        exact this
      rw [List.take_of_length_le (by omega)] at hst
      rcases hst.own.2 with ⟨hv, _⟩ | ⟨g, cap, cur, hv, hg, hgb, r1, r2, r3, r4⟩
      · simp at hv
        exact absurd hv.1 HN1.out
      · have hv' := hv
        simp at hv'
        obtain ⟨rfl, rfl⟩ := hv'
        have hgl : g < wr.heap.size := (Array.getElem?_eq_some_iff.1 hgb).1
        have HS := Try.slices_Sort_int g 0 c1 (allV ts) wr (holds_of_blockI hgb (by rw [hm]; rw [Nat.mul_one] at r4; exact r4)) hgl (by omega)
        rw [hm] at HS
        have HO : Hid (∀ q os, ISt w (some ⟨g, 0, none⟩) m c1 (srtI (allV ts)) (grow (putRow (Value.int .i64) (Sort.ahead wr q) g 0 (srtI (allV ts)).toArray) os)) := fun q os => by
          have h1 := ownsRow_sortedI (n := q) (os := os) (ss := allV ts) (ts := srtI (allV ts)) (by unfold srtI; rw [List.length_mergeSort]) hg hgb (by rw [hm]; exact r1) r2 r3
          rw [hm] at h1
          exact ⟨h1, hst.bel.grown (grownBy_sortedI _) hst.size (fun j e => by cases e; exact hg)⟩
        have HL : Hid ((srtI (allV ts)).length = m) := by show _ = _; rw [(srtI_perm (allV ts)).length_eq]; exact hm
        have HSo : Hid (Calls Try.prog 78 #[.slice (some ⟨g, 0, none⟩) m c1] wr fun e w' => e = .returned (.tuple #[]) ∧ ISt w (some ⟨g, 0, none⟩) m c1 (srtI (allV ts)) w') :=
          HS.mono (by
            rintro e w2 ⟨rfl, q, os, rfl⟩
            exact ⟨rfl, HO.out q os⟩)
        clear HS HO hgb r1 r2 r3 r4 hst hv hm
        obtain ⟨S, hSe⟩ : ∃ S, srtI (allV ts) = S := ⟨_, rfl⟩
        rw [hSe] at HL HSo
        have HSe := hideIt hSe
        clear hSe
        have hm12 : m ≤ 144 := by omega
        go_wp2_with (go_at_call 78; refine HSo.out.mono ?_; rintro e w2 ⟨rfl, hS⟩; refine Hid.out ?_)
        refine (show ∀ {p : Prop}, p → Hid p from fun h => h) ?_
        have HSt := hideIt hS
        clear hS HSo
        go_wp2
        go_loopw [26] (fun i wq => ∃ j : Nat, j ≤ m ∧ i = .int .i64 (j : Int) ∧ Hid (∀ p, p < j → S[p]? = some (p : Int)) ∧ wq = w2) (fun i _ => m - (intOf i).toNat)
        case atStart => exact ⟨0, by omega, rfl, fun p hp => by omega, rfl⟩
        case round =>
          obtain ⟨j, hj, rfl, HJ, hw⟩ := hrel
          have hw' := hw.symm
          subst hw'
          clear hw
          by_cases hjl : j < m
          · obtain ⟨f, hf⟩ : ∃ f, S[j]? = some f := ⟨S[j]'(by have := HL.out; omega), List.getElem?_eq_getElem _⟩
            have e0 : w2.cell? ⟨g, j, none⟩ = some (.int .i64 f) := by rw [HSt.out.own.cellAt j (by omega)]; exact ic_at hf
            have q1 : (0 : Int) ≤ (j : Int) := by omega
            have q2 : (j : Int) < (m : Int) := by omega
            by_cases hfj : f = (j : Int)
            · have d1 : (f != (j : Int)) = false := by simpa using hfj
              have HJ2 : Hid (∀ p, p < j + 1 → S[p]? = some (p : Int)) := fun p hp => by
                by_cases hpj : p = j
                · rw [hpj, hf, hfj]
                · exact HJ.out p (by omega)
              clear hf HJ hfj
              go_wp2
              exact ⟨⟨j + 1, by omega, by go_num, HJ2, by first | trivial | rfl⟩, by simp [intOf]; omega⟩
            · have d1 : (f != (j : Int)) = true := by simpa using hfj
              have HNo : Hid (¬ (S = rangeI S.length)) := fun he => by
                have h1 := rangeI_at (n := S.length) (k := j) (by have := HL.out; omega)
                rw [← he, hf] at h1
                exact hfj (Option.some.inj h1)
              clear hf HJ hfj
              go_wp2
              go_ret
              exact ⟨false, rfl, by rw [HSe.out]; exact ⟨fun h => (by cases h), fun h => absurd h.1 HNo.out⟩, HSt.out.bel⟩
          · obtain rfl : j = m := by omega
            have HY : Hid (S = rangeI S.length) := by
              show _ = _
              apply List.ext_getElem?
              intro p
              have := HL.out
              by_cases hp : p < j
              · rw [HJ.out p hp, rangeI_at (by omega)]
              · rw [List.getElem?_eq_none (by omega), List.getElem?_eq_none (by rw [rangeI_len]; omega)]
            have HE : Hid (((j : Int) == N) = true ↔ ((S.length : Int) = N)) := by
              show _ ↔ _
              rw [HL.out]
              simp
            clear HJ
            go_wp2
            go_ret
            exact ⟨_, rfl, by rw [HSe.out]; exact ⟨fun h => ⟨HY.out, HE.out.1 h⟩, fun h => HE.out.2 h.2⟩, HSt.out.bel⟩

set_option maxHeartbeats 1000000 in
theorem iForestOk_any (N : Int) (ts : List (List Int)) (n : Nat) (a : Option Addr) (c : Nat) (hn : n + lnS ts ≤ 1048576) (w : World) (h : Ts w w.heap.size a n ts) :
    Calls Try.prog 38 #[.agg #[.int .i64 N, .slice a n c]] w fun e w' => ∃ b, e = .returned (.bool b) ∧ (b = true ↔ FP N ts) ∧ Below w.heap.size w w' := by
  have b0 : Below w.heap.size w (w.alloc (.cells #[.int .i64 N, .slice a n c] 28)) := (Below.refl _ _).alloc (Nat.le_refl _) _
  have HI := hideIt vertsOk_any
  have HP := hideIt (FP_prog N ts)
  have HT := hideIt (treesAscend_any ts n a c (by omega) (fun t ht => by have := lnS_mem ht; omega) _ (h.up b0))
  have HB0 := hideIt b0
  by_cases h1 : 1 ≤ N ∧ N ≤ 12
  · have r1 : decide (1 ≤ N ∧ N ≤ 12) = true := decide_eq_true h1
    by_cases hA : asP ts
    · have HT2 : Hid (Calls Try.prog 66 #[.slice a n c] (w.alloc (.cells #[.int .i64 N, .slice a n c] 28)) fun e w' => e = .returned (.bool true) ∧ Below (w.alloc (.cells #[.int .i64 N, .slice a n c] 28)).heap.size (w.alloc (.cells #[.int .i64 N, .slice a n c] 28)) w') :=
        HT.out.mono fun e v ⟨b, he, hb, hbl⟩ => ⟨by rw [he, hb.2 hA], hbl⟩
      have HSh := hideIt (fun u (hu : Below (w.alloc (.cells #[.int .i64 N, .slice a n c] 28)).heap.size (w.alloc (.cells #[.int .i64 N, .slice a n c] 28)) u) => shareOut_any N ts hA n a c u ((h.up b0).up hu))
      have HPA := hideIt (show FP N ts ↔ (srtI (allV ts) = rangeI (srtI (allV ts)).length ∧ ((srtI (allV ts)).length : Int) = N) from HP.out.trans ⟨fun h => h.2.2, fun h => ⟨h1, hA, h⟩⟩)
      clear h b0 HT HP hA
      go_enter Try.func38, Try.ntmps38
      go_wp2_with (first | (go_at_call 51; refine (HI.out _ _).mono ?_; rintro e w1 ⟨rfl, rfl⟩) | (go_at_call 66; refine HT2.out.mono ?_; rintro e w2 ⟨rfl, hb2⟩; refine Hid.out ?_))
      refine (show ∀ {p : Prop}, p → Hid p from fun h => h) ?_
      obtain ⟨hc, hf⟩ := bcell hb2
      have HS2 := hideIt (HSh.out w2 hb2)
      go_wp2_with (go_at_call 67; refine HS2.out.mono ?_; rintro e w3 ⟨b, rfl, hbi, hb3⟩)
      go_ret
      exact ⟨b, rfl, hbi.trans HPA.out.symm, HB0.out.trans ((hb2.trans (hb3.mono hb2.size)).mono (by simp))⟩
    · have HT2 : Hid (Calls Try.prog 66 #[.slice a n c] (w.alloc (.cells #[.int .i64 N, .slice a n c] 28)) fun e w' => e = .returned (.bool false) ∧ Below (w.alloc (.cells #[.int .i64 N, .slice a n c] 28)).heap.size (w.alloc (.cells #[.int .i64 N, .slice a n c] 28)) w') :=
        HT.out.mono fun e v ⟨b, he, hb, hbl⟩ => ⟨by
          have : b = false := by
            cases b with
            | false => rfl
            | true => exact absurd (hb.1 rfl) hA
          rw [he, this], hbl⟩
      have HN : Hid (¬ FP N ts) := fun hf => hA (HP.out.1 hf).2.1
      clear h b0 HT HP hA
      go_enter Try.func38, Try.ntmps38
      go_wp2_with (first | (go_at_call 51; refine (HI.out _ _).mono ?_; rintro e w1 ⟨rfl, rfl⟩) | (go_at_call 66; refine HT2.out.mono ?_; rintro e w2 ⟨rfl, hb2⟩))
      go_ret
      exact ⟨false, rfl, ⟨fun h => (by cases h), fun h => absurd h HN.out⟩, HB0.out.trans (hb2.mono (by simp))⟩
  · have r1 : decide (1 ≤ N ∧ N ≤ 12) = false := decide_eq_false h1
    have HN : Hid (¬ FP N ts) := fun hf => h1 (HP.out.1 hf).1
    clear HT h HP b0
    go_enter Try.func38, Try.ntmps38
    go_wp2_with (go_at_call 51; refine (HI.out _ _).mono ?_; rintro e w1 ⟨rfl, rfl⟩)
    go_ret
    exact ⟨false, rfl, ⟨fun h => (by cases h), fun h => absurd h HN.out⟩, HB0.out⟩
end Go.Proofs.Ytcpffonenhhfoab
namespace Go.Proofs.Ytcpffonenhhfoab
open Go.RowKit

theorem someIn_any (us vs : List Int) (n : Nat) (a : Option Addr) (c : Nat) (hn : n ≤ 3000000) (nb : Nat) (b : Option Addr) (cb : Nat) (hnb : nb ≤ 3000000) (w : World) (h : Is w w.heap.size a n us) (hb : Is w w.heap.size b nb vs) :
    Calls Try.prog 50 #[.slice b nb cb, .slice a n c] w fun e w' => e = .returned (.bool (comB us vs)) ∧ Below w.heap.size w w' := by
  have HC := hideIt (haveCommon_any us vs n a c hn nb b cb hnb w h hb)
  clear h hb
  go_enter Try.func50, Try.ntmps50
  go_wp2_with (go_at_call 73; refine HC.out.mono ?_; rintro e w1 ⟨rfl, hb1⟩)
  go_ret
  exact ⟨rfl, hb1⟩
theorem comB_one (t : List Int) (v : Int) : comB t [v] = decide (v ∈ t) := by
  unfold comB
  rw [Bool.eq_iff_iff]
  simp

set_option maxHeartbeats 1000000 in
theorem placeTold_any (ts : List (List Int)) (v : Int) (hm : ∀ t ∈ ts, t.length ≤ 3000000) (n : Nat) (a : Option Addr) (c : Nat) (hn : n ≤ 3000000) (b : Option Addr) (cb : Nat) (w : World) (h : Ts w w.heap.size a n ts) (hb : Is w w.heap.size b 1 [v]) :
    Calls Try.prog 49 #[.slice a n c, .func (.func 50) #[.slice b 1 cb] #[]] w fun e w' => e = .returned (.int .i64 (trI ts v)) ∧ Below w.heap.size w w' := by
  have hlen := h.1
  have HA := hideIt h
  have HB := hideIt hb
  clear h hb
  go_enter Try.func49, Try.ntmps49
  go_wp2
  go_loopw [8] (fun i wr => ∃ k : Nat, k ≤ n ∧ i = .int .i64 (k : Int) ∧ Hid (∀ j, j < k → trP ts v j = false) ∧ Good w wr) (fun i _ => n - (intOf i).toNat)
  case atStart => exact ⟨0, by omega, rfl, fun j hj => by omega, Good.refl _⟩
  case round =>
    obtain ⟨k, hk, rfl, HK, hg⟩ := hrel
    by_cases hlt : k < n
    · rcases (HA.out.up hg).2 with hz | ⟨bb, off, rfl, hbl, hc⟩
      · omega
      · obtain ⟨t, ht⟩ : ∃ t, ts[k]? = some t := ⟨ts[k]'(by omega), List.getElem?_eq_getElem (by omega)⟩
        obtain ⟨x, cx, e0, iI, _⟩ := hc k t ht
        have b1 : (0 : Int) ≤ (k : Int) := by omega
        have b2 : (k : Int) < (n : Int) := by omega
        have HC := hideIt (someIn_any t [v] t.length x cx (hm t (List.mem_of_getElem? ht)) 1 b cb (by omega) wr iI (HB.out.up hg))
        rw [comB_one, ← trP_at (v := v) ht] at HC
        have HG := hideIt hg
        cases hp : trP ts v k with
        | true =>
          rw [hp] at HC
          have HV : Hid (trI ts v = (k : Int)) := firstN_yes (by omega) hp HK.out
          clear hc ht iI hp HK
          go_wp2_with (go_at_call 50; refine HC.out.mono ?_; rintro e w1 ⟨rfl, hb1⟩)
          go_ret
          exact ⟨by rw [HV.out]; rfl, HG.out.up hb1⟩
        | false =>
          rw [hp] at HC
          have HK2 : Hid (∀ j, j < k + 1 → trP ts v j = false) := fun j hj => by
            by_cases h7 : j = k
            · rw [h7]; exact hp
            · exact HK.out j (by omega)
          clear hc ht iI hp HK
          go_wp2_with (go_at_call 50; refine HC.out.mono ?_; rintro e w1 ⟨rfl, hb1⟩)
          exact ⟨⟨k + 1, by omega, by go_num, HK2, HG.out.up hb1⟩, by simp [intOf]; omega⟩
    · obtain rfl : k = n := by omega
      have HV : Hid (trI ts v = -1) := firstN_no (fun j hj => HK.out j (by omega))
      clear HK
      go_wp2
      go_ret
      exact ⟨by rw [HV.out]; rfl, hg⟩

set_option maxHeartbeats 1000000 in
theorem iTreeOf_any (N : Int) (ts : List (List Int)) (v : Int) (n : Nat) (a : Option Addr) (c : Nat) (hn : n + lnS ts ≤ 1048576) (w : World) (h : Ts w w.heap.size a n ts) :
    Calls Try.prog 27 #[.agg #[.int .i64 N, .slice a n c], .int .i64 v] w fun e w' => e = .returned (.int .i64 (treeO N ts v)) ∧ Below w.heap.size w w' := by
  have b0 : Good w (w.alloc (.cells #[.int .i64 N, .slice a n c] 28)) := (Good.refl w).alloc _
  have HF := iForestOk_any N ts n a c hn _ (h.up b0)
  have HB0 := hideIt b0
  by_cases hP : FP N ts
  · have HF2 := hideIt (HF.mono fun e u ⟨b, he, hb, hbl⟩ => (show e = Ending.returned (.bool true) ∧ Good (w.alloc (.cells #[.int .i64 N, .slice a n c] 28)) u from ⟨by rw [he, hb.2 hP], hbl⟩))
    have HT := hideIt (fun u (hu : Good (w.alloc (.cells #[.int .i64 N, .slice a n c] 28)) u) => placeTold_any ts v (fun t ht => by have := lnS_mem ht; omega) n a c (by omega) (some ⟨u.heap.size, 0, none⟩) 1 (u.alloc (.cells #[.int .i64 v] 3)) ((h.up b0).up (hu.alloc (.cells #[.int .i64 v] 3))) ⟨rfl, .inr ⟨u.heap.size, 0, rfl, by simp, fun j x hx => by
      rcases j with _ | j
      · simp at hx; subst hx; simp
      · simp at hx⟩⟩)
    have HV := hideIt (treeO_yes hP v)
    clear h b0 HF hP
    go_enter Try.func27, Try.ntmps27
    go_wp2_with (go_at_call 38; refine HF2.out.mono ?_; rintro e w1 ⟨rfl, hg1⟩; refine Hid.out ?_)
    refine (show ∀ {p : Prop}, p → Hid p from fun h => h) ?_
    have cB : w1.cell? ⟨w.heap.size, 1, none⟩ = some (.slice a n c) := by rw [hg1.cell (by simp)]; simp
    have HT2 := hideIt (HT.out w1 hg1)
    have HG1 := hideIt hg1
    clear hg1 HT HF2
    go_wp2_with (go_at_call 49; refine HT2.out.mono ?_; rintro e w2 ⟨rfl, hb2⟩)
    go_ret
    exact ⟨by rw [HV.out]; rfl, HB0.out.up ((HG1.out.alloc _).up hb2)⟩
  · have HF2 := hideIt (HF.mono fun e u ⟨b, he, hb, hbl⟩ => (show e = Ending.returned (.bool false) ∧ Good (w.alloc (.cells #[.int .i64 N, .slice a n c] 28)) u from ⟨by
      have : b = false := by
        cases b with
        | false => rfl
        | true => exact absurd (hb.1 rfl) hP
      rw [he, this], hbl⟩))
    have HV := hideIt (treeO_no hP v)
    clear h b0 HF hP
    go_enter Try.func27, Try.ntmps27
    go_wp2_with (go_at_call 38; refine HF2.out.mono ?_; rintro e w1 ⟨rfl, hg1⟩)
    go_ret
    exact ⟨by rw [HV.out]; rfl, HB0.out.up hg1⟩

set_option maxHeartbeats 1000000 in
theorem iSizeOf_any (N : Int) (ts : List (List Int)) (v : Int) (n : Nat) (a : Option Addr) (c : Nat) (hn : n + lnS ts ≤ 1048576) (w : World) (h : Ts w w.heap.size a n ts) :
    Calls Try.prog 15 #[.agg #[.int .i64 N, .slice a n c], .int .i64 v] w fun e w' => e = .returned (.int .i64 (sizeO N ts v)) ∧ Below w.heap.size w w' := by
  have b0 : Good w (w.alloc (.cells #[.int .i64 N, .slice a n c] 28)) := (Good.refl w).alloc _
  have HF := hideIt (iTreeOf_any N ts v n a c hn _ (h.up b0))
  have HB0 := hideIt b0
  rcases treeO_cases N ts v with ⟨k, t, hP, hk, hv, e⟩ | ⟨_, e⟩
  · rw [e] at HF
    have HV := hideIt (sizeO_yes e hk)
    have hkl := (List.getElem?_eq_some_iff.1 hk).1
    have hlen := h.1
    rcases (h.up b0).2 with hz | ⟨b, off, rfl, hbl, hc⟩
    · omega
    · obtain ⟨x, cx, e0, iI, _⟩ := hc k t hk
      have hfit := lnS_mem (List.mem_of_getElem? hk)
      have HVe := hideIt (fun u (hu : Good (w.alloc (.cells #[.int .i64 N, .slice (some ⟨b, off, none⟩) n c] 28)) u) => iVertsOf_any t t.length x cx (by omega) u (iI.up hu))
      have d1 : decide ((k : Int) < 0) = false := decide_eq_false (by omega)
      have b1 : (0 : Int) ≤ (k : Int) := by omega
      have b2 : (k : Int) < (n : Int) := by omega
      clear h b0 hc iI hP hv
      go_enter Try.func15, Try.ntmps15
      go_wp2_with (go_at_call 27; refine HF.out.mono ?_; rintro e w1 ⟨rfl, hg1⟩; refine Hid.out ?_)
      refine (show ∀ {p : Prop}, p → Hid p from fun h => h) ?_
      have hg1 : Good (w.alloc (.cells #[.int .i64 N, .slice (some ⟨b, off, none⟩) n c] 28)) w1 := hg1
      have cB : w1.cell? ⟨w.heap.size, 1, none⟩ = some (.slice (some ⟨b, off, none⟩) n c) := by rw [hg1.cell (by simp)]; simp
      have cE : w1.cell? ⟨b, off + k, none⟩ = some (.slice x t.length cx) := by rw [hg1.cell hbl]; exact e0
      have HT2 := hideIt (HVe.out w1 hg1)
      have HG1 := hideIt hg1
      clear hg1 HVe HF e0
      go_wp2_with (go_at_call 35; refine HT2.out.mono ?_; rintro e w2 ⟨a2, m2, c2, rfl, ho, hb2⟩)
      have hm2 : (vsL t).length = m2 := by have := ho.1; rw [ic_len] at this; omega
      go_ret
      exact ⟨by rw [HV.out, hm2]; rfl, HB0.out.up (HG1.out.up hb2)⟩
  · rw [e] at HF
    have HV := hideIt (sizeO_no e)
    clear h b0
    go_enter Try.func15, Try.ntmps15
    go_wp2_with (go_at_call 27; refine HF.out.mono ?_; rintro e w1 ⟨rfl, hg1⟩)
    go_ret
    exact ⟨by rw [HV.out]; rfl, HB0.out.up hg1⟩
end Go.Proofs.Ytcpffonenhhfoab
namespace Go.Proofs.Ytcpffonenhhfoab
open Go.RowKit Go.Sort Go.Lib

theorem FB.setTyped {u : World} {lo hi : Nat} {a : Option Addr} {n c : Nat} {R : List Rw} (h : FB u lo hi a n c R) {x : Nat} {cs : Array Value} {fr : Nat × Nat} (hx : u.heap[x]? = some (.cells cs 28 fr)) (j : Nat) (v : Value) : FB (u.setCell ⟨x, j, none⟩ v) lo hi a n c R := by
  have hr : ∀ r, RwB u r → x ≠ r.g := fun r hr e => by
    obtain ⟨c2, h2⟩ := hr.blk
    rw [← e, hx] at h2
    simp at h2
  refine ⟨h.len, h.own.kept (grownSet u x j v) (.inr fun e => ?_), h.row, by simp [World.setCell]; exact h.there, fun r hr2 => ⟨(h.ins r hr2).1.grown (grownSet u x j v) (by simpa using hr r (h.ins r hr2).1), (h.ins r hr2).2⟩, h.nod⟩
  rcases h.own.2 with ⟨hv, _⟩ | ⟨g, cap, cur, hv, _, hg, _⟩
  · rw [hv] at e; simp [Value.ownBlock] at e
  · rw [hv] at e
    simp [Value.ownBlock] at e
    rw [e, hx] at hg
    simp at hg

/-- the world behind replanted's boxes -/
def rw4 (w : World) (N : Int) (a : Option Addr) (n c : Nat) (u v : Int) : World := (((w.alloc (.cells #[.int .i64 N, .slice a n c] 28)).alloc (.cells #[.int .i64 u, .int .i64 v] 32)).alloc (.cells #[.int .i64 0, .slice none 0 0] 28)).alloc (.cells #[.int .i64 u, .int .i64 v] 3)
theorem rw4_size (w : World) (N : Int) (a : Option Addr) (n c : Nat) (u v : Int) : (rw4 w N a n c u v).heap.size = w.heap.size + 4 := by simp [rw4]
theorem rw4_bel (w : World) (N : Int) (a : Option Addr) (n c : Nat) (u v : Int) : Good w (rw4 w N a n c u v) := ((((Good.refl w).alloc _).alloc _).alloc _).alloc _
theorem rw4_third (w : World) (N : Int) (a : Option Addr) (n c : Nat) (u v : Int) : (rw4 w N a n c u v).heap[w.heap.size + 2]? = some (.cells #[.int .i64 0, .slice none 0 0] 28 (0, 0)) := by
  unfold rw4
  rw [Below.heap_alloc _ _ _ (by simp)]
  have h := heap_alloc_new ((w.alloc (.cells #[.int .i64 N, .slice a n c] 28)).alloc (.cells #[.int .i64 u, .int .i64 v] 32)) (.cells #[.int .i64 0, .slice none 0 0] 28)
  rw [show ((w.alloc (.cells #[.int .i64 N, .slice a n c] 28)).alloc (.cells #[.int .i64 u, .int .i64 v] 32)).heap.size = w.heap.size + 2 by simp] at h
  exact h
/-- tours in the making behind these boxes -/
structure RSt (w W4 : World) (lo : Nat) (a : Option Addr) (m c : Nat) (R : List Rw) (u : World) : Prop where
  fb : FB u lo u.heap.size a m c R
  bel : Below lo w u
  low : ∀ g, (Value.slice a m c).ownBlock = some g → g < w.heap.size ∨ w.heap.size + 4 ≤ g
  box : ∀ k, w.heap.size ≤ k → k < w.heap.size + 4 → u.heap[k]? = W4.heap[k]?
  size : w.heap.size + 4 ≤ u.heap.size
theorem RSt.up {w W4 : World} {lo : Nat} {a : Option Addr} {m c : Nat} {R : List Rw} {u v : World} (h : RSt w W4 lo a m c R u) (hlo : lo ≤ w.heap.size) (hb : Below u.heap.size u v) : RSt w W4 lo a m c R v :=
  ⟨h.fb.keep hb, h.bel.trans (hb.mono (by have := h.size; omega)), h.low, fun k h1 h2 => (hb.block k (by have := h.size; omega)).trans (h.box k h1 h2), Nat.le_trans h.size hb.size⟩
theorem RSt.cell {w W4 : World} {lo : Nat} {a : Option Addr} {m c : Nat} {R : List Rw} {u : World} (h : RSt w W4 lo a m c R u) {k o : Nat} (h1 : w.heap.size ≤ k) (h2 : k < w.heap.size + 4) : u.cell? ⟨k, o, none⟩ = W4.cell? ⟨k, o, none⟩ := World.cell?_of_block (w := W4) (a := ⟨k, o, none⟩) (h.box k h1 h2)
theorem RSt.app {w W4 : World} {lo : Nat} {a : Option Addr} {m c : Nat} {R : List Rw} {u u' : World} (h : RSt w W4 lo a m c R u) (hlo : lo ≤ w.heap.size) {r : Rw} (hr : RwB u r) (hl : lo ≤ r.g) (hne : ∀ x ∈ R, x.g ≠ r.g) {o : Obj} {G cap : Nat}
    (ho : u'.ownsRow lo 45 1 (.slice (some ⟨G, 0, none⟩) (m + 1) cap) (m + 1) (rhs R ++ [r.hdr])) (hg : (u.alloc o).grownBy u' (Value.slice a m c).ownBlock) (hG : (Value.slice a m c).ownBlock = some G ∨ G = u.heap.size + 1) :
    RSt w W4 lo (some ⟨G, 0, none⟩) (m + 1) cap (R ++ [r]) u' := by
  obtain ⟨a', c', e, hF⟩ := h.fb.app hr hl hne ho hg
  simp at e
  obtain ⟨rfl, rfl⟩ := e
  have hs := h.size
  have hgs := hg.size
  simp at hgs
  refine ⟨hF, ?_, fun g e => ?_, fun k h1 h2 => ?_, by omega⟩
  · have hb0 : Below lo w (u.alloc o) := h.bel.alloc (by omega) o
    exact hb0.grown hg (by simp; omega) (fun j hj => (h.fb.own.lt j hj).1)
  · simp [Value.ownBlock] at e
    subst e
    rcases hG with hG | hG
    · exact h.low G hG
    · omega
  · rw [hg.block k (by simp; omega) (fun e => by have := h.low k e.symm; omega), Below.heap_alloc u o k (by omega)]
    exact h.box k h1 h2

theorem Ts.parts {w : World} {B b off n : Nat} {ts : List (List Int)} (h : Ts w B (some ⟨b, off, none⟩) n ts) (hn : 0 < n) : b < B := by
  rcases h.2 with h0 | ⟨b', off', hb, hl, _⟩
  · omega
  · simp at hb
    omega
/-- the tours that stay -/
def stay (ts : List (List Int)) (u v : Int) : List (List Int) := ts.filter fun t => !comB t [u, v]
theorem stay_take {ts : List (List Int)} {u v : Int} {k : Nat} {t : List Int} (h : ts[k]? = some t) : stay (ts.take (k + 1)) u v = stay (ts.take k) u v ++ if comB t [u, v] = true then [] else [t] := by
  unfold stay
  rw [take_snocF ts k t h, List.filter_append]
  cases hc : comB t [u, v] <;> simp [hc]

theorem newsV (w : World) (x : Value) : ∀ j u, ([x] : List Value)[j]? = some u → (w.alloc (.cells #[x] 45)).cell? ((⟨w.heap.size, 0, none⟩ : Addr).add j) = some u := by
  intro j u hj
  rcases j with _ | j
  · simp at hj; subst hj; simp [Addr.add]
  · simp at hj
/-- one list, laid anew -/
theorem laidOne7 {t : List Int} {x : Option Addr} {cx : Nat} (ht : t.length ≤ 3000000) {w : World} (h : Is w w.heap.size x t.length t) :
    Calls Try.prog 54 #[.slice (some ⟨w.heap.size, 0, none⟩) 1 1] (w.alloc (.cells #[.slice x t.length cx] 45)) fun e w' => ∃ g, e = .returned (.slice (some ⟨g, 0, none⟩) t.length t.length) ∧ w'.ownsRow (w.heap.size + 1) 3 1 (.slice (some ⟨g, 0, none⟩) t.length t.length) t.length (ic t) ∧ Below (w.heap.size + 1) (w.alloc (.cells #[.slice x t.length cx] 45)) w' := by
  have hb : Good w (w.alloc (.cells #[.slice x t.length cx] 45)) := (Good.refl w).alloc _
  have hP : PartsI (w.alloc (.cells #[.slice x t.length cx] 45)) w.heap.size [⟨x, t.length, cx, t⟩] := ⟨by simp, fun j p hp => by
    rcases j with _ | j
    · simp at hp
      subst hp
      exact ⟨by simp, h.up hb⟩
    · simp at hp⟩
  refine (laid_any _ _ 1 rfl (by omega) _ hP (by simp [qLen]; omega)).mono ?_
  rintro e w' ⟨g, m, he, ho, hb2⟩
  have hq : qAll [⟨x, t.length, cx, t⟩] = t := by simp [qAll]
  rw [hq] at ho
  have hm : m = t.length := by have := ho.1; rw [ic_len] at this; omega
  subst hm
  exact ⟨g, he, by simpa using ho, by simpa using hb2⟩

set_option maxRecDepth 100000 in
set_option maxHeartbeats 4000000 in
theorem replanted_any (N : Int) (ts : List (List Int)) (u v : Int) (n : Nat) (a : Option Addr) (c : Nat) (lo : Nat) (R0 : List Rw) (m : Nat) (a1 : Option Addr) (c1 : Nat) (hP : FP N ts) (hm0 : 0 < m) (hm : m ≤ 2)
    (hQ : FQ N (rts R0 ++ stay ts u v)) (w : World) (hlo : lo ≤ w.heap.size) (h : Ts w lo a n ts) (hR : FB w lo w.heap.size a1 m c1 R0) :
    Calls Try.prog 30 #[.agg #[.int .i64 N, .slice a n c], .agg #[.int .i64 u, .int .i64 v], .slice a1 m c1] w fun e w' => ∃ a' m' c' R, e = .returned (.agg #[.int .i64 N, .slice a' m' c']) ∧ FB w' lo w'.heap.size a' m' c' R ∧
      (rts R).Perm (rts R0 ++ stay ts u v) ∧ (rts R).Pairwise (fun s t => mnV s < mnV t) ∧ Below lo w w' := by
  obtain ⟨i0, hi, hz0, hz1, hz2⟩ := info_parts infoIT
  have hlen := h.1
  have hn12 : n ≤ 12 := by have := hP.2.2.1; omega
  have HB : Hid (∀ t ∈ ts, tB t = true) := fun t ht => (hP.q.1 t ht).1
  have HA := hideIt h
  have HW4 := hideIt (rw4_size w N a n c u v)
  have S0 : RSt w (rw4 w N a n c u v) lo a1 m c1 R0 (rw4 w N a n c u v) := ⟨hR.keep (rw4_bel w N a n c u v), (rw4_bel w N a n c u v).mono hlo, fun g hg => .inl (hR.row g hg), fun _ _ _ => rfl, by rw [rw4_size]; exact Nat.le_refl _⟩
  have HQ := hideIt hQ
  have HC : Hid (∀ {a' m' c' R x}, RSt w (rw4 w N a n c u v) lo a' m' c' R x → (x.cell? ⟨w.heap.size, 0, none⟩ = some (.int .i64 N) ∧ x.cell? ⟨w.heap.size, 1, none⟩ = some (.slice a n c)) ∧ Is x x.heap.size (some ⟨w.heap.size + 3, 0, none⟩) 2 [u, v]) := fun {a' m' c' R x} hx => by
    have hsz := hx.size
    refine ⟨⟨by rw [hx.cell (Nat.le_refl _) (by omega)]; simp [rw4, go_sem], by rw [hx.cell (Nat.le_refl _) (by omega)]; simp [rw4, go_sem]⟩, rfl, .inr ⟨w.heap.size + 3, 0, rfl, by omega, fun j y hy => ?_⟩⟩
    rw [hx.cell (by omega) (by omega)]
    rcases j with _ | _ | j
    · simp at hy; subst hy; simp [rw4, go_sem]
    · simp at hy; subst hy; simp [rw4, go_sem]
    · simp at hy
  clear h hR hQ hP
  go_enter Try.func30, Try.ntmps30
  go_wp2
  go_loopw [2, 18] (fun r i wr => ∃ (k m' c' : Nat) (a' : Option Addr) (R : List Rw), k ≤ n ∧ 0 < m' ∧ m' ≤ 2 + k ∧ i = .int .i64 (k : Int) ∧ r = .slice a' m' c' ∧ Hid (rts R = rts R0 ++ stay (ts.take k) u v) ∧ RSt w (rw4 w N a n c u v) lo a' m' c' R wr) (fun _ i _ => n - (intOf i).toNat)
  case atStart => exact ⟨0, m, c1, a1, R0, by omega, hm0, by omega, rfl, rfl, by show _ = _; simp [stay], S0⟩
  case round =>
    obtain ⟨k, m', c', a', R, hk, hm0', hmk, rfl, rfl, HR, hst⟩ := hrel
    clear S0
    obtain ⟨⟨q0, q1⟩, q2⟩ := HC.out hst
    by_cases hlt : k < n
    · obtain ⟨t, ht⟩ : ∃ t, ts[k]? = some t := ⟨ts[k]'(by omega), List.getElem?_eq_getElem (by omega)⟩
      rcases (HA.out.below hst.bel (Nat.le_refl _)).2 with hz | ⟨b, off, rfl, hbl, hc⟩
      · omega
      · obtain ⟨x, cx, e0, iI, _⟩ := hc k t ht
        have hsz := hst.size
        have hlo2 : lo ≤ wr.heap.size := by omega
        have hI := iI.mono hlo2
        have hl := tB_len (HB.out t (List.mem_of_getElem? ht))
        have b1 : (0 : Int) ≤ (k : Int) := by omega
        have b2 : (k : Int) < (n : Int) := by omega
        have HG := hideIt (someIn_any t [u, v] t.length x cx (by omega) 2 (some ⟨w.heap.size + 3, 0, none⟩) 2 (by omega) wr hI q2)
        have HST := hideIt hst
        have HTk := hideIt (stay_take (u := u) (v := v) ht)
        cases hcm : comB t [u, v] with
        | true =>
          rw [hcm] at HG
          have HR2 : Hid (rts R = rts R0 ++ stay (ts.take (k + 1)) u v) := by show _ = _; rw [HTk.out, HR.out, hcm]; simp
          clear hc ht iI hI hst hcm q2 HTk
          go_wp2_with (go_at_call 50; refine HG.out.mono ?_; rintro e w1 ⟨rfl, hb1⟩)
          exact ⟨⟨k + 1, m', c', a', R, by omega, by omega, by omega, by go_num, rfl, HR2, HST.out.up hlo hb1⟩, by simp [intOf]; omega⟩
        | false =>
          rw [hcm] at HG
          have HR2 : Hid (∀ r : Rw, r.t = t → rts (R ++ [r]) = rts R0 ++ stay (ts.take (k + 1)) u v) := fun r hr => by rw [rts_snoc, HTk.out, HR.out, hcm, hr]; simp
          have HII := hideIt hI
          have HCc : Hid (∀ x', Below wr.heap.size wr x' → x'.cell? ⟨b, off + k, none⟩ = some (.slice x t.length cx)) := fun x' hx' => by rw [hx'.cell (by show b < _; omega)]; exact e0
          clear hc ht iI hI hst hcm q2 HTk
          go_wp2_with (go_at_call 50; refine HG.out.mono ?_; rintro e w1 ⟨rfl, hb1⟩; refine Hid.out ?_)
          refine (show ∀ {p : Prop}, p → Hid p from fun h => h) ?_
          have HS1 := hideIt (HST.out.up hlo hb1)
          obtain ⟨⟨q3, q4⟩, _⟩ := HC.out HS1.out
          have e1 := HCc.out w1 hb1
          have HL := hideIt (laidOne7 (cx := cx) (by omega : t.length ≤ 3000000) (HII.out.up hb1))
          have hsz1 := HS1.out.size
          clear HST hb1 HCc HG q0 q1 e0
          go_wp2_with (go_at_call 54; refine HL.out.mono ?_; rintro e w3 ⟨g, rfl, ho, hb3⟩; refine Hid.out ?_)
          refine (show ∀ {p : Prop}, p → Hid p from fun h => h) ?_
          have hb3' : Below w1.heap.size w1 w3 := ((Below.refl _ _).alloc (Nat.le_refl _) _).trans (hb3.mono (by omega))
          have HS3 := hideIt (HS1.out.up hlo hb3')
          have HRw := hideIt (RwB.of_own ho)
          have hgl := (ho.lt g rfl).1
          have hsz3 := HS3.out.size
          have HFr : Hid (∀ x ∈ R, x.g ≠ g) := fun x hx e => by have := (HS1.out.fb.ins x hx).2.2; omega
          clear ho hb3 hb3' HS1 HL q3 q4 e1
          go_wp2_with (at_builtin; refine wpList_append_lies _ rfl _ _ 22 rfl lo 45 i0 _ 1 24 Try.underlying22 hi hz0 hz1 hz2 rfl (by decide) _ _ _ rfl (HS3.out.fb.own.alloc _) ⟨w3.heap.size, 0, none⟩ 1 1 [.slice (some ⟨g, 0, none⟩) t.length t.length] rfl rfl (newsV w3 _) (by intro y hy; simp at hy; subst hy; rfl) (by omega) (by unfold maxLen; omega) (by omega) (by simp; omega) (w3.heap.size + 1) (by simp) ?_)
          intro g5 c5 w5 hown5 hg5 hG5 _
          have S5 := HS3.out.app hlo (r := ⟨g, t.length, t⟩) HRw.out (by show lo ≤ g; omega) HFr.out hown5 hg5 hG5
          clear hown5 hg5 hG5 HS3
          go_wp2
          exact ⟨⟨k + 1, m' + 1, c5, some ⟨g5, 0, none⟩, R ++ [⟨g, t.length, t⟩], by omega, by omega, by omega, by go_num, rfl, HR2.out _ rfl, S5⟩, by simp [intOf]; omega⟩
    · obtain rfl : k = n := by omega
      have HR2 : Hid (rts R = rts R0 ++ stay ts u v) := by show _ = _; rw [HR.out, List.take_of_length_le (by omega)]
      have hq := HQ.out
      rw [← HR2.out] at hq
      have HSo := hideIt (sortFT_any R (fun r hr => (hq.1 r.t (List.mem_map.2 ⟨r, hr, rfl⟩)).1) (by
        have h1 : (rts R).Pairwise fun s t => mnV s ≠ mnV t := hq.2.1.imp_of_mem fun hs ht hap => mn_apart (hq.1 _ hs).1 (hq.1 _ ht).1 hap
        unfold rts at h1
        rw [List.pairwise_map] at h1
        exact h1) lo m' a' c' hm0' (by omega) wr hst.fb)
      have HST := hideIt hst
      clear hq hst q2
      go_wp2_with (go_at_call 55; refine HSo.out.mono ?_; rintro e w2 ⟨rfl, R2, hF2, hp2, hs2, hg2⟩; refine Hid.out ?_)
      refine (show ∀ {p : Prop}, p → Hid p from fun h => h) ?_
      have hsz := HST.out.size
      have S2 : RSt w (rw4 w N a k c u v) lo a' m' c' R2 w2 := ⟨hF2, HST.out.bel.grown hg2 (by omega) (fun j hj => (HST.out.fb.own.lt j hj).1), HST.out.low, fun j h1 h2 => by
        rw [hg2.block j (by omega) (fun e => by have := HST.out.low j e.symm; omega)]
        exact HST.out.box j h1 h2, Nat.le_trans hsz hg2.size⟩
      obtain ⟨⟨q3, q4⟩, _⟩ := HC.out S2
      have f6 : w2.heap[w.heap.size + 2]? = some (.cells #[.int .i64 0, .slice none 0 0] 28 (0, 0)) := by
        rw [S2.box _ (by omega) (by omega)]
        exact rw4_third w N a k c u v
      have f7 := frozen_of_row w2 (w.heap.size + 2) 0 _ _ f6
      have f8 := frozen_of_row w2 (w.heap.size + 2) 1 _ _ f6
      have f9 := cell_of_row w2 (w.heap.size + 2) 0 _ _ _ f6
      have f10 := cell_of_row w2 (w.heap.size + 2) 1 _ _ _ f6
      have HF6 := hideIt f6
      have HS2 := hideIt S2
      have HP2 := hideIt hp2
      have HA2 := hideIt hs2
      clear HST hF2 hp2 hs2 hg2 S2 f6 HSo q0 q1
      simp at f9 f10
      go_wp2
      refine bodyPost_ret (v := .agg #[.int .i64 N, .slice a' m' c']) (by simp [results, Try.results30, go_sem, f9, f10]) rfl ⟨a', m', c', R2, rfl, ?_, ?_, HA2.out, ?_⟩
      · have h1 := HS2.out.fb.setTyped HF6.out 0 (.int .i64 N)
        have h2 := h1.setTyped (x := w.heap.size + 2) (cs := #[.int .i64 N, .slice none 0 0]) (fr := (0, 0)) (by rw [heap_setCell_same w2 (w.heap.size + 2) 0 _ 28 _ HF6.out]; rfl) 1 (.slice a' m' c')
        exact h2.hi (by simp [World.setCell]) (by simp [World.setCell])
      · have h1 := HP2.out.map Rw.t
        show (R2.map Rw.t).Perm _
        rw [← HR2.out]
        exact h1
      · exact (HS2.out.bel.setCell (p := ⟨w.heap.size + 2, 0, none⟩) (by show lo ≤ w.heap.size + 2; omega) _).setCell (p := ⟨w.heap.size + 2, 1, none⟩) (by show lo ≤ w.heap.size + 2; omega) _
end Go.Proofs.Ytcpffonenhhfoab
namespace Go.Proofs.Ytcpffonenhhfoab
open Go.RowKit

theorem Good.set {w u : World} (h : Good w u) (b j : Nat) (v : Value) (hb : w.heap.size ≤ b) : Good w (u.setCell ⟨b, j, none⟩ v) := Below.setCell h (p := ⟨b, j, none⟩) hb v
theorem Box7.set {w : World} {b : Nat} {t : TypeId} {v0 v1 : Value} (h : Box7 w b t v0 v1) (u0 u1 : Value) : Box7 ((w.setCell ⟨b, 0, none⟩ u0).setCell ⟨b, 1, none⟩ u1) b t u0 u1 := by
  have h1 : Box7 (w.setCell ⟨b, 0, none⟩ u0) b t u0 v1 := by
    unfold Box7
    rw [heap_setCell_same w b 0 _ t u0 h]; rfl
  exact h1.set1 u1
theorem Box7.rng {u v : World} {b lo hi : Nat} {t : TypeId} {v0 v1 : Value} (h : Box7 u b t v0 v1) (hr : Rng lo hi u v) (ho : b < lo ∨ hi ≤ b) : Box7 v b t v0 v1 := by
  unfold Box7; rw [hr.block b h.lt ho]; exact h

/-- a forest that is ours: its box and its rows lie in blocks lo .. hi -/
structure OBox (u : World) (lo hi b : Nat) (M : Int) (a : Option Addr) (m c : Nat) (R : List Rw) : Prop where
  box : Box7 u b 28 (.int .i64 M) (.slice a m c)
  fb : FB u lo hi a m c R
  least : lo ≤ b
  most : b < hi
theorem OBox.rng {u v : World} {lo hi b l2 h2 : Nat} {M : Int} {a : Option Addr} {m c : Nat} {R : List Rw} (h : OBox u lo hi b M a m c R) (hr : Rng l2 h2 u v) (ho : hi ≤ l2 ∨ h2 ≤ lo) : OBox v lo hi b M a m c R :=
  ⟨h.box.rng hr (by have := h.least; have := h.most; omega), h.fb.rng hr ho, h.least, h.most⟩
theorem OBox.up {u v : World} {lo hi b : Nat} {M : Int} {a : Option Addr} {m c : Nat} {R : List Rw} (h : OBox u lo hi b M a m c R) (hb : Below u.heap.size u v) : OBox v lo hi b M a m c R :=
  ⟨h.box.up hb, h.fb.up hb, h.least, h.most⟩
theorem OBox.cells {u : World} {lo hi b : Nat} {M : Int} {a : Option Addr} {m c : Nat} {R : List Rw} (h : OBox u lo hi b M a m c R) : u.cell? ⟨b, 0, none⟩ = some (.int .i64 M) ∧ u.cell? ⟨b, 1, none⟩ = some (.slice a m c) := ⟨h.box.cell0, h.box.cell1⟩
theorem OBox.stored {u : World} {lo b : Nat} {M : Int} {a : Option Addr} {m c : Nat} {R : List Rw} {v0 v1 : Value} (hb : Box7 u b 28 v0 v1) (hl : lo ≤ b) (ho : FB u lo u.heap.size a m c R) :
    OBox ((u.setCell ⟨b, 0, none⟩ (.int .i64 M)).setCell ⟨b, 1, none⟩ (.slice a m c)) lo ((u.setCell ⟨b, 0, none⟩ (.int .i64 M)).setCell ⟨b, 1, none⟩ (.slice a m c)).heap.size b M a m c R := by
  have hb' := hb.set (.int .i64 M) (.slice a m c)
  have h1 := ho.setTyped hb 0 (.int .i64 M)
  have h2 := h1.setTyped (x := b) (cs := #[.int .i64 M, v1]) (fr := (0, 0)) (by rw [heap_setCell_same u b 0 _ 28 _ hb]; rfl) 1 (.slice a m c)
  exact ⟨hb', h2.hi (by simp [World.setCell]) (by simp [World.setCell]), hl, hb'.lt⟩
theorem OBox.laid {u : World} {lo : Nat} {M : Int} {a : Option Addr} {m c : Nat} {R : List Rw} (hl : lo ≤ u.heap.size) (ho : FB u lo u.heap.size a m c R) :
    OBox (u.alloc (.cells #[.int .i64 M, .slice a m c] 28)) lo (u.alloc (.cells #[.int .i64 M, .slice a m c] 28)).heap.size u.heap.size M a m c R :=
  ⟨Box7.new _ _ _ _ _ rfl, ho.keep ((Below.refl _ _).alloc (Nat.le_refl _) _), hl, by simp⟩
theorem OBox.mark {u v : World} {lo hi b : Nat} {M : Int} {a : Option Addr} {m c : Nat} {R R' : List Rw} (h : OBox u lo hi b M a m c R) (hF : FB v lo hi a m c R') (ht : Tur R u v) : OBox v lo hi b M a m c R' ∧ Rng lo hi u v := by
  refine ⟨⟨?_, hF, h.least, h.most⟩, ht.rng fun r hr => (h.fb.ins r hr).2⟩
  have hbx := h.box
  unfold Box7 at hbx ⊢
  rw [ht.block b h.box.lt (fun r hr e => by
    obtain ⟨c2, h2⟩ := ((h.fb.ins r hr).1).blk
    rw [← e, hbx] at h2
    simp at h2)]
  exact hbx

/-- a forest that is only read, below hi -/
structure TBox (u : World) (hi b : Nat) (M : Int) (a : Option Addr) (m c : Nat) (ts : List (List Int)) : Prop where
  box : Box7 u b 28 (.int .i64 M) (.slice a m c)
  ts : Ts u hi a m ts
  most : b < hi
  there : hi ≤ u.heap.size
theorem Is.rng {u v : World} {B lo hi n : Nat} {a : Option Addr} {ls : List Int} (h : Is u B a n ls) (hr : Rng lo hi u v) (hB : B ≤ lo) (hs : B ≤ u.heap.size) : Is v B a n ls := h.below (hr.below (B := B) hB hs) (Nat.le_refl _)
theorem TBox.rng {u v : World} {hi b l2 h2 : Nat} {M : Int} {a : Option Addr} {m c : Nat} {ts : List (List Int)} (h : TBox u hi b M a m c ts) (hr : Rng l2 h2 u v) (ho : hi ≤ l2) : TBox v hi b M a m c ts :=
  ⟨h.box.rng hr (by have := h.most; omega), h.ts.below (hr.below (B := hi) ho h.there) (Nat.le_refl _), h.most, Nat.le_trans h.there hr.size⟩
theorem TBox.up {u v : World} {hi b : Nat} {M : Int} {a : Option Addr} {m c : Nat} {ts : List (List Int)} (h : TBox u hi b M a m c ts) (hb : Below u.heap.size u v) : TBox v hi b M a m c ts :=
  ⟨h.box.up hb, h.ts.below hb h.there, h.most, Nat.le_trans h.there hb.size⟩
theorem TBox.cells {u : World} {hi b : Nat} {M : Int} {a : Option Addr} {m c : Nat} {ts : List (List Int)} (h : TBox u hi b M a m c ts) : u.cell? ⟨b, 0, none⟩ = some (.int .i64 M) ∧ u.cell? ⟨b, 1, none⟩ = some (.slice a m c) := ⟨h.box.cell0, h.box.cell1⟩
theorem own_typed {u : World} {lo b j n : Nat} {v x : Value} {xs : List Value} {cs : Array Value} {fr : Nat × Nat} (h : u.ownsRow lo 45 1 v n xs) (hb : u.heap[b]? = some (.cells cs 28 fr)) : (u.setCell ⟨b, j, none⟩ x).ownsRow lo 45 1 v n xs := by
  refine World.ownsRow.kept h (grownSet u b j x) (.inr fun e => ?_)
  rcases h.2 with ⟨rfl, _⟩ | ⟨g, cap, cur, rfl, _, hg, _⟩
  · simp [Value.ownBlock] at e
  · simp [Value.ownBlock] at e
    rw [e, hb] at hg
    simp at hg
theorem TBox.stored {u : World} {lo b : Nat} {M : Int} {a : Option Addr} {m c : Nat} {hs : List Value} {ts : List (List Int)} {v0 v1 : Value} (hb : Box7 u b 28 v0 v1) (ho : u.ownsRow lo 45 1 (.slice a m c) m hs) (hd : HdT u u.heap.size hs ts) (hn : ∀ v ∈ hs, HdN b v) :
    TBox ((u.setCell ⟨b, 0, none⟩ (.int .i64 M)).setCell ⟨b, 1, none⟩ (.slice a m c)) ((u.setCell ⟨b, 0, none⟩ (.int .i64 M)).setCell ⟨b, 1, none⟩ (.slice a m c)).heap.size b M a m c ts := by
  have hb' := hb.set (.int .i64 M) (.slice a m c)
  have h1 := own_typed (j := 0) (x := .int .i64 M) ho hb
  have h2 := own_typed (j := 1) (x := .slice a m c) h1 (b := b) (cs := #[.int .i64 M, v1]) (fr := (0, 0)) (by rw [heap_setCell_same u b 0 _ 28 _ hb]; rfl)
  have h3 := ((hd.set hn (.int .i64 M) (j := 0)).set hn (.slice a m c) (j := 1)).mono (C := ((u.setCell ⟨b, 0, none⟩ (.int .i64 M)).setCell ⟨b, 1, none⟩ (.slice a m c)).heap.size) (by simp [World.setCell])
  exact ⟨hb', h3.ts h2, hb'.lt, Nat.le_refl _⟩
theorem TBox.laid {u : World} {lo : Nat} {M : Int} {a : Option Addr} {m c : Nat} {hs : List Value} {ts : List (List Int)} (ho : u.ownsRow lo 45 1 (.slice a m c) m hs) (hd : HdT u u.heap.size hs ts) :
    TBox (u.alloc (.cells #[.int .i64 M, .slice a m c] 28)) (u.alloc (.cells #[.int .i64 M, .slice a m c] 28)).heap.size u.heap.size M a m c ts :=
  ⟨Box7.new _ _ _ _ _ rfl, (hd.ts ho).up ((Below.refl _ _).alloc (Nat.le_refl _) _), by simp, Nat.le_refl _⟩
theorem eqOT {u : World} {lo hi b hi' b' : Nat} {M : Int} {a a' : Option Addr} {m c m' c' : Nat} {R : List Rw} {ts : List (List Int)} (h : OBox u lo hi b M a m c R) (h' : TBox u hi' b' M a' m' c' ts) (hR : rts R = ts) (hm : m + lnS ts ≤ 1048576) :
    Calls Try.prog 11 #[.agg #[.int .i64 M, .slice a m c], .agg #[.int .i64 M, .slice a' m' c']] u fun e v => e = .returned (.bool true) ∧ Below u.heap.size u v := by
  have h1 := h.fb.ts
  rw [hR] at h1
  have e : m' = m := by rw [← h1.1, ← h'.ts.1]
  subst e
  exact eqForest_same M ts m' a a' c c' hm u h1 (h'.ts.mono h'.there)
theorem markOB {u : World} {lo hi b : Nat} {M : Int} {a : Option Addr} {m c : Nat} {R : List Rw} (h : OBox u lo hi b M a m c R) (k0 : Nat) (hm : m + rn R ≤ 1048576) (h1 : k0 ≤ 1000000) :
    Calls Try.prog 12 #[.agg #[.int .i64 M, .slice a m c], .int .i64 (k0 : Int)] u fun e v => e = .returned (.int .i64 ((k0 : Int) + (rn R : Int))) ∧ OBox v lo hi b M a m c (mkR k0 R) ∧ Rng lo hi u v :=
  (markForest_any M R lo hi m k0 a c hm h1 u h.fb).mono fun _ _ ⟨he, hF, ht⟩ => ⟨he, (h.mark hF ht).1, (h.mark hF ht).2⟩
theorem heldOB {u : World} {lo hi b : Nat} {M : Int} {a : Option Addr} {m c : Nat} {R : List Rw} (k0 : Nat) (h : OBox u lo hi b M a m c (mkR k0 R)) (hm : m + rn R ≤ 1048576) (h1 : k0 ≤ 1000000) :
    Calls Try.prog 13 #[.agg #[.int .i64 M, .slice a m c], .int .i64 (k0 : Int)] u fun e v => e = .returned (.int .i64 ((k0 : Int) + (rn R : Int))) ∧ Below u.heap.size u v :=
  heldForest_any M R lo hi m k0 a c hm h1 u h.fb

/-- any box stands behind a call -/
def Keep7 (u v : World) : Prop := ∀ b t x y, Box7 u b t x y → Box7 v b t x y
theorem Keep7.of {u v : World} (h : Below u.heap.size u v) : Keep7 u v := fun _ _ _ _ hb => hb.up h
theorem Keep7.nil {u v : World} (h : Keep7 u v) {b : Nat} (hb : Box7 u b 28 (.int .i64 0) (.slice none 0 0)) : Box7 v b 28 (.int .i64 0) (.slice none 0 0) := h _ _ _ _ hb
/-- none of the rows lies in a box that was there -/
def Away (u : World) (hs : List Value) : Prop := ∀ b, Box7 u b 28 (.int .i64 0) (.slice none 0 0) → ∀ v ∈ hs, HdN b v

theorem toEdge7_any (f : EdgeV) (w : World) :
    Calls Try.prog 9 #[.agg #[.int .i64 f.1, .int .i64 f.2]] w fun e w' => e = .returned (.agg #[.int .i64 f.1, .int .i64 f.2]) ∧ Below w.heap.size w w' := by
  go_enter Try.func9, Try.ntmps9
  go_wp2
  exact bodyPost_ret (v := .agg #[.int .i64 f.1, .int .i64 f.2]) (by simp [results, Try.results9, go_sem]) rfl ⟨rfl, (((Below.refl _ _).alloc (Nat.le_refl _) _).alloc (by simp) _).alloc (by simp; omega) _⟩
/-- a forest is made of what came in -/
theorem toForest_G (N : Int) (ts : List (List Int)) (n : Nat) (a : Option Addr) (c : Nat) (hn : n + lnS ts ≤ 1048576) {u0 u : World} (hf : Ts u0 u0.heap.size a n ts) (h : Good u0 u) :
    Calls Try.prog 8 #[.agg #[.int .i64 N, .slice a n c]] u fun e v => ∃ g R, e = .returned (.agg #[.int .i64 N, .slice (some ⟨g, 0, none⟩) n n]) ∧ FB v u0.heap.size v.heap.size (some ⟨g, 0, none⟩) n n R ∧ Hid (rts R = ts) ∧ Good u0 v ∧ Keep7 u v :=
  (toForest_any N ts n a c hn u (hf.up h)).mono fun _ _ ⟨g, R, he, ho, hr, hb⟩ => ⟨g, R, he, ho.lo h.size, hr, h.up hb, Keep7.of hb⟩
theorem toEdge_G7 (x : EdgeV) {u0 u : World} (h : Good u0 u) {B n : Nat} {aa : Option Addr} {R : List Rw} (ho : FB u B u.heap.size aa n n R) :
    Calls Try.prog 9 #[.agg #[.int .i64 x.1, .int .i64 x.2]] u fun e v => e = .returned (.agg #[.int .i64 x.1, .int .i64 x.2]) ∧ FB v B v.heap.size aa n n R ∧ Good u0 v ∧ Keep7 u v :=
  (toEdge7_any x u).mono fun _ _ ⟨he, hb⟩ => ⟨he, ho.keep hb, h.up hb, Keep7.of hb⟩
/-- what is asked of the specification -/
theorem ans_S {F : Nat} {N : Int} {ts : List (List Int)} {n : Nat} {x : EdgeV} {o : Option (List (List Int))}
    (H : ∀ (g : Nat) (w : World) (_ : Ts w w.heap.size (some ⟨g, 0, none⟩) n ts), Calls Try.prog F #[.agg #[.int .i64 N, .slice (some ⟨g, 0, none⟩) n n], .agg #[.int .i64 x.1, .int .i64 x.2]] w (RAns w N o))
    {u0 u : World} (h : Good u0 u) {B g : Nat} {R : List Rw} (ho : FB u B u.heap.size (some ⟨g, 0, none⟩) n n R) (hR : rts R = ts) :
    Calls Try.prog F #[.agg #[.int .i64 N, .slice (some ⟨g, 0, none⟩) n n], .agg #[.int .i64 x.1, .int .i64 x.2]] u fun e v => ∃ aw mw cw hs, e = .returned (.tuple #[.agg #[.int .i64 (if o.isSome then N else 0), .slice aw mw cw], .bool o.isSome]) ∧ (v.ownsRow u0.heap.size 45 1 (.slice aw mw cw) mw hs ∧ HdT v v.heap.size hs (o.getD [])) ∧ Good u0 v ∧ Keep7 u v ∧ Away u hs :=
  (H g u (hR ▸ ho.ts)).mono fun _ _ ⟨aw, mw, cw, hs, he, hw, hb⟩ => ⟨aw, mw, cw, hs, he, ⟨own_mono hw.1 h.size, hw.2.1⟩, h.up hb, Keep7.of hb, fun _ hbx v hv => (hw.2.2 v hv).ne hbx.lt⟩
/-- .. and of the program -/
theorem ans_I {F : Nat} {N : Int} {ts : List (List Int)} {n : Nat} {x : EdgeV} {o : Option (List (List Int))}
    (H : ∀ (g : Nat) (w : World) (_ : Ts w w.heap.size (some ⟨g, 0, none⟩) n ts), Calls Try.prog F #[.agg #[.int .i64 N, .slice (some ⟨g, 0, none⟩) n n], .agg #[.int .i64 x.1, .int .i64 x.2]] w (FAns w N o))
    {u0 u : World} (h : Good u0 u) {B g : Nat} {R : List Rw} (ho : FB u B u.heap.size (some ⟨g, 0, none⟩) n n R) (hR : rts R = ts) :
    Calls Try.prog F #[.agg #[.int .i64 N, .slice (some ⟨g, 0, none⟩) n n], .agg #[.int .i64 x.1, .int .i64 x.2]] u fun e v => ∃ aw mw cw R', e = .returned (.tuple #[.agg #[.int .i64 (if o.isSome then N else 0), .slice aw mw cw], .bool o.isSome]) ∧ FB v u0.heap.size v.heap.size aw mw cw R' ∧ Hid (rts R' = o.getD []) ∧ Good u0 v ∧ Keep7 u v :=
  (H g u (hR ▸ ho.ts)).mono fun _ _ ⟨aw, mw, cw, R', he, hw, hr, hb⟩ => ⟨aw, mw, cw, R', he, hw.lo h.size, hr, h.up hb, Keep7.of hb⟩

/-- the world behind the law's two boxes -/
def lw7 (w : World) (N : Int) (a : Option Addr) (n c : Nat) (x : EdgeV) : World := (w.alloc (.cells #[.int .i64 N, .slice a n c] 24)).alloc (.cells #[.int .i64 x.1, .int .i64 x.2] 26)
theorem lw7_size (w : World) (N : Int) (a : Option Addr) (n c : Nat) (x : EdgeV) : (lw7 w N a n c x).heap.size = w.heap.size + 2 := by simp [lw7]
/-- nothing of these has turned -/
def LG7 (w : World) (N : Int) (a : Option Addr) (n c : Nat) (x : EdgeV) (u : World) : Prop := Below (w.heap.size + 2) (lw7 w N a n c x) u
theorem LG7.start (w : World) (N : Int) (a : Option Addr) (n c : Nat) (x : EdgeV) : LG7 w N a n c x (lw7 w N a n c x) := Below.refl _ _
theorem LG7.size {w : World} {N : Int} {a : Option Addr} {n c : Nat} {x : EdgeV} {u : World} (h : LG7 w N a n c x u) : w.heap.size + 2 ≤ u.heap.size := by have := Below.size h; rw [lw7_size] at this; exact this
theorem LG7.up {w : World} {N : Int} {a : Option Addr} {n c : Nat} {x : EdgeV} {u v : World} (h : LG7 w N a n c x u) (hb : Below u.heap.size u v) : LG7 w N a n c x v := Below.trans h (hb.mono h.size)
theorem LG7.good {w : World} {N : Int} {a : Option Addr} {n c : Nat} {x : EdgeV} {u v : World} (h : LG7 w N a n c x u) (hb : Good u v) : LG7 w N a n c x v := h.up hb
theorem LG7.rng {w : World} {N : Int} {a : Option Addr} {n c : Nat} {x : EdgeV} {u v : World} {lo hi : Nat} (h : LG7 w N a n c x u) (hr : Rng lo hi u v) (hl : w.heap.size + 2 ≤ lo) : LG7 w N a n c x v := Below.trans h (hr.below hl h.size)
theorem LG7.below {w : World} {N : Int} {a : Option Addr} {n c : Nat} {x : EdgeV} {u : World} (h : LG7 w N a n c x u) : Below w.heap.size w u :=
  (((Below.refl w.heap.size w).alloc (Nat.le_refl _) _).alloc (by simp) _).trans (Below.mono h (by omega))
theorem LG7.ts {w : World} {N : Int} {a : Option Addr} {n c : Nat} {x : EdgeV} {u : World} {ts : List (List Int)} (h : LG7 w N a n c x u) (hf : Ts w w.heap.size a n ts) : Ts u u.heap.size a n ts := hf.up h.below
theorem LG7.cells {w : World} {N : Int} {a : Option Addr} {n c : Nat} {x : EdgeV} {u : World} (h : LG7 w N a n c x u) :
    (u.cell? ⟨w.heap.size, 0, none⟩ = some (.int .i64 N) ∧ u.cell? ⟨w.heap.size, 1, none⟩ = some (.slice a n c)) ∧ u.cell? ⟨w.heap.size + 1, 0, none⟩ = some (.int .i64 x.1) ∧ u.cell? ⟨w.heap.size + 1, 1, none⟩ = some (.int .i64 x.2) := by
  refine ⟨⟨?_, ?_⟩, ?_, ?_⟩
  · rw [Below.cell h (by show w.heap.size < _; omega)]; simp [lw7, go_sem]
  · rw [Below.cell h (by show w.heap.size < _; omega)]; simp [lw7, go_sem]
  · rw [Below.cell h (by show w.heap.size + 1 < _; omega)]; simp [lw7, go_sem]
  · rw [Below.cell h (by show w.heap.size + 1 < _; omega)]; simp [lw7, go_sem]
end Go.Proofs.Ytcpffonenhhfoab
namespace Go.Proofs.Ytcpffonenhhfoab
open Go.RowKit

theorem sForestOk_yes {N : Int} {ts : List (List Int)} (hP : FP N ts) {n : Nat} {a : Option Addr} (c : Nat) (hn : n + lnS ts ≤ 1048576) {w : World} (h : Ts w w.heap.size a n ts) :
    Calls Try.prog 36 #[.agg #[.int .i64 N, .slice a n c]] w fun e w' => e = .returned (.bool true) ∧ Good w w' :=
  (sForestOk_any N ts n a c hn w h).mono fun e u ⟨b, he, hb, hbl⟩ => ⟨by rw [he, hb.2 hP], hbl⟩
theorem sForestOk_no {N : Int} {ts : List (List Int)} (hP : ¬ FP N ts) {n : Nat} {a : Option Addr} (c : Nat) (hn : n + lnS ts ≤ 1048576) {w : World} (h : Ts w w.heap.size a n ts) :
    Calls Try.prog 36 #[.agg #[.int .i64 N, .slice a n c]] w fun e w' => e = .returned (.bool false) ∧ Good w w' :=
  (sForestOk_any N ts n a c hn w h).mono fun e u ⟨b, he, hb, hbl⟩ => ⟨by
      have : b = false := by
        cases b with
        | false => rfl
        | true => exact absurd (hb.1 rfl) hP
      rw [he, this], hbl⟩

set_option maxHeartbeats 1000000 in
theorem sTreeOf_any (N : Int) (ts : List (List Int)) (v : Int) (n : Nat) (a : Option Addr) (c : Nat) (hn : n + lnS ts ≤ 1048576) (w : World) (h : Ts w w.heap.size a n ts) :
    Calls Try.prog 22 #[.agg #[.int .i64 N, .slice a n c], .int .i64 v] w fun e w' => e = .returned (.int .i64 (treeO N ts v)) ∧ Below w.heap.size w w' := by
  have b0 : Good w (w.alloc (.cells #[.int .i64 N, .slice a n c] 28)) := (Good.refl w).alloc _
  have HB0 := hideIt b0
  have HC0 : Hid (∀ u, Good (w.alloc (.cells #[.int .i64 N, .slice a n c] 28)) u → u.cell? ⟨w.heap.size, 1, none⟩ = some (.slice a n c)) := fun u hu => by rw [hu.cell (by simp)]; simp
  by_cases hP : FP N ts
  · have HF2 := hideIt (sForestOk_yes hP c hn (h.up b0))
    have HA := hideIt (h.up b0)
    have HV := hideIt (treeO_yes hP v)
    have hlen := h.1
    clear h b0 hP
    go_enter Try.func22, Try.ntmps22
    go_wp2_with (go_at_call 36; refine HF2.out.mono ?_; rintro e w1 ⟨rfl, hg1⟩; refine Hid.out ?_)
    refine (show ∀ {p : Prop}, p → Hid p from fun h => h) ?_
    have HG1 := hideIt hg1
    clear HF2 hg1
    go_wp2
    go_loopw [5] (fun i wr => ∃ k : Nat, k ≤ n ∧ i = .int .i64 (k : Int) ∧ Hid (∀ j, j < k → trP ts v j = false) ∧ wr = w1) (fun i _ => n - (intOf i).toNat)
    case atStart => exact ⟨0, by omega, rfl, fun j hj => by omega, rfl⟩
    case round =>
      obtain ⟨k, hk, rfl, HK, hw⟩ := hrel
      have hw' := hw.symm
      subst hw'
      clear hw
      have k1 := HC0.out _ HG1.out
      by_cases hlt : k < n
      · rcases (HA.out.up HG1.out).2 with hz | ⟨bb, off, rfl, hbl, hc⟩
        · omega
        · obtain ⟨t, ht⟩ : ∃ t, ts[k]? = some t := ⟨ts[k]'(by omega), List.getElem?_eq_getElem (by omega)⟩
          obtain ⟨x, cx, e0, iI, _⟩ := hc k t ht
          have b1 : (0 : Int) ≤ (k : Int) := by omega
          have b2 : (k : Int) < (n : Int) := by omega
          have HC := hideIt (l05In_any t v t.length x cx (by have := lnS_mem (List.mem_of_getElem? ht); omega) w1 iI)
          rw [← trP_at (v := v) ht] at HC
          cases hp : trP ts v k with
          | true =>
            rw [hp] at HC
            have HV2 : Hid (trI ts v = (k : Int)) := firstN_yes (by omega) hp HK.out
            clear hc ht iI hp HK
            go_wp2_with (go_at_call 44; refine HC.out.mono ?_; rintro e w2 ⟨rfl, hw⟩; have hw' := hw.symm; subst hw'; clear hw)
            go_ret
            exact ⟨by rw [HV.out, HV2.out]; rfl, HB0.out.up HG1.out⟩
          | false =>
            rw [hp] at HC
            have HK2 : Hid (∀ j, j < k + 1 → trP ts v j = false) := fun j hj => by
              by_cases h7 : j = k
              · rw [h7]; exact hp
              · exact HK.out j (by omega)
            clear hc ht iI hp HK
            go_wp2_with (go_at_call 44; refine HC.out.mono ?_; rintro e w2 ⟨rfl, hw⟩; have hw' := hw.symm; subst hw'; clear hw)
            exact ⟨⟨k + 1, by omega, by go_num, HK2, by first | trivial | rfl⟩, by simp [intOf]; omega⟩
      · obtain rfl : k = n := by omega
        have HV2 : Hid (trI ts v = -1) := firstN_no (fun j hj => HK.out j (by omega))
        clear HK
        go_wp2
        go_ret
        exact ⟨by rw [HV.out, HV2.out]; rfl, HB0.out.up HG1.out⟩
  · have HF2 := hideIt (sForestOk_no hP c hn (h.up b0))
    have HV := hideIt (treeO_no hP v)
    clear h b0 hP
    go_enter Try.func22, Try.ntmps22
    go_wp2_with (go_at_call 36; refine HF2.out.mono ?_; rintro e w1 ⟨rfl, hg1⟩)
    go_ret
    exact ⟨by rw [HV.out]; rfl, HB0.out.up hg1⟩

set_option maxHeartbeats 1000000 in
theorem sSizeOf_any (N : Int) (ts : List (List Int)) (v : Int) (n : Nat) (a : Option Addr) (c : Nat) (hn : n + lnS ts ≤ 1048576) (w : World) (h : Ts w w.heap.size a n ts) :
    Calls Try.prog 14 #[.agg #[.int .i64 N, .slice a n c], .int .i64 v] w fun e w' => e = .returned (.int .i64 (sizeO N ts v)) ∧ Below w.heap.size w w' := by
  have b0 : Good w (w.alloc (.cells #[.int .i64 N, .slice a n c] 28)) := (Good.refl w).alloc _
  have HF := hideIt (sTreeOf_any N ts v n a c hn _ (h.up b0))
  have HB0 := hideIt b0
  rcases treeO_cases N ts v with ⟨k, t, hP, hk, hv, e⟩ | ⟨_, e⟩
  · rw [e] at HF
    have HV := hideIt (sizeO_yes e hk)
    have hkl := (List.getElem?_eq_some_iff.1 hk).1
    have hlen := h.1
    rcases (h.up b0).2 with hz | ⟨b, off, rfl, hbl, hc⟩
    · omega
    · obtain ⟨x, cx, e0, iI, _⟩ := hc k t hk
      have hfit := lnS_mem (List.mem_of_getElem? hk)
      have HVe := hideIt (fun u (hu : Good (w.alloc (.cells #[.int .i64 N, .slice (some ⟨b, off, none⟩) n c] 28)) u) => sVertsOf_any t t.length x cx (by omega) u (iI.up hu))
      have d1 : decide ((k : Int) < 0) = false := decide_eq_false (by omega)
      have b1 : (0 : Int) ≤ (k : Int) := by omega
      have b2 : (k : Int) < (n : Int) := by omega
      clear h b0 hc iI hP hv
      go_enter Try.func14, Try.ntmps14
      go_wp2_with (go_at_call 22; refine HF.out.mono ?_; rintro e w1 ⟨rfl, hg1⟩; refine Hid.out ?_)
      refine (show ∀ {p : Prop}, p → Hid p from fun h => h) ?_
      have hg1 : Good (w.alloc (.cells #[.int .i64 N, .slice (some ⟨b, off, none⟩) n c] 28)) w1 := hg1
      have cB : w1.cell? ⟨w.heap.size, 1, none⟩ = some (.slice (some ⟨b, off, none⟩) n c) := by rw [hg1.cell (by simp)]; simp
      have cE : w1.cell? ⟨b, off + k, none⟩ = some (.slice x t.length cx) := by rw [hg1.cell hbl]; exact e0
      have HT2 := hideIt (HVe.out w1 hg1)
      have HG1 := hideIt hg1
      clear hg1 HVe HF e0
      go_wp2_with (go_at_call 34; refine HT2.out.mono ?_; rintro e w2 ⟨a2, m2, c2, rfl, ho, hb2⟩)
      have hm2 : (vsL t).length = m2 := by have := ho.1; rw [ic_len] at this; omega
      go_ret
      exact ⟨by rw [HV.out, hm2]; rfl, HB0.out.up (HG1.out.up hb2)⟩
  · rw [e] at HF
    have HV := hideIt (sizeO_no e)
    clear h b0
    go_enter Try.func14, Try.ntmps14
    go_wp2_with (go_at_call 22; refine HF.out.mono ?_; rintro e w1 ⟨rfl, hg1⟩)
    go_ret
    exact ⟨by rw [HV.out]; rfl, HB0.out.up hg1⟩
end Go.Proofs.Ytcpffonenhhfoab
