/- The program's shareOut and ForestOk. -/
import Derived.Test.YtcpffonenhhfoabSh7
import Derived.Test.YtcpffonenhhfoabIVerts
import Derived.Test.YtcpffonenhhfoabEdgeI6
import Derived.Test.YtcpffonenhhfoabLawF7
namespace Go.Proofs.Ytcpffonenhhfoab
open Go.RowKit Go.Sort Go.Lib

/-- a whole list laid behind -/
theorem ISt.appL {wb : World} {a : Option Addr} {m c k : Nat} {ls xs : List Int} {u : World} (h : ISt wb a m c ls u) {v : Value} {u' : World}
    (ho : u'.ownsRow wb.heap.size 3 1 v (m + k) (ic ls ++ ic xs)) (hg : u.grownBy u' (Value.slice a m c).ownBlock) :
    ∃ a' c', v = .slice a' (m + k) c' ∧ ISt wb a' (m + k) c' (ls ++ xs) u' := by
  obtain ⟨a', c', rfl⟩ := own_form ho
  rw [show ic ls ++ ic xs = ic (ls ++ xs) by simp [ic]] at ho
  refine ⟨a', c', rfl, ho, ?_⟩
  exact h.bel.grown hg h.size (fun j hj => (h.own.lt j hj).1)

set_option maxRecDepth 100000 in
set_option maxHeartbeats 2000000 in
theorem shareOut_any (N : Int) (ts : List (List Int)) (hA : asP ts) (n : Nat) (a : Option Addr) (c : Nat) (w : World) (h : Ts w w.heap.size a n ts) :
    Calls Try.prog 67 #[.int .i64 N, .slice a n c] w fun e w' => ∃ b, e = .returned (.bool b) ∧ (b = true ↔ (srtI (allV ts) = rangeI (srtI (allV ts)).length ∧ ((srtI (allV ts)).length : Int) = N)) ∧ Below w.heap.size w w' := by
  obtain ⟨i0, hi, hz0, hz1, hz2⟩ := info_parts info3i
  have hlen := h.1
  have hn12 := asP_len hA
  have HA := hideIt h
  have HAS := hideIt hA
  have S0 := ISt.start w
  clear h hA
  go_enter Try.func67, Try.ntmps67
  go_wp2
  go_loopw [5, 11] (fun r i wr => ∃ (k m c1 : Nat) (a1 : Option Addr), k ≤ n ∧ m ≤ 12 * k ∧ i = .int .i64 (k : Int) ∧ r = .slice a1 m c1 ∧ Hid (a1 ≠ none) ∧ ISt w a1 m c1 (allV (ts.take k)) wr) (fun _ i _ => n - (intOf i).toNat)
  case atStart => exact ⟨0, 0, 0, _, by omega, by omega, rfl, rfl, by simp [Hid], by rw [List.take_zero]; exact S0⟩
  case round =>
    obtain ⟨k, m, c1, a1, hk, hmk, rfl, rfl, HN1, hst⟩ := hrel
    clear S0
    by_cases hlt : k < n
    · obtain ⟨t, ht⟩ : ∃ t, ts[k]? = some t := ⟨ts[k]'(by omega), List.getElem?_eq_getElem (by omega)⟩
      rcases (HA.out.up hst.bel).2 with hz | ⟨b, off, rfl, hbl, hc⟩
      · omega
      · obtain ⟨x, cx, e0, iI, _⟩ := hc k t ht
        have hB := asP_B HAS.out t (List.mem_of_getElem? ht)
        have hl := tB_len hB
        have b1 : (0 : Int) ≤ (k : Int) := by omega
        have b2 : (k : Int) < (n : Int) := by omega
        have HV := hideIt (iVertsOf_any t t.length x cx (by omega) wr iI)
        have HST := hideIt hst
        have HT2 : Hid (allV (ts.take k) ++ vsL t = allV (ts.take (k + 1))) := by show _ = _; rw [take_snocF ts k t ht, allV_snoc]
        have HPos := hideIt (vs_pos hB)
        have HLen := hideIt (vsL_len t)
        clear hc ht iI hst hB
        go_wp2_with (go_at_call 35; refine HV.out.mono ?_; rintro e w1 ⟨a2, m2, c2, rfl, ho, hb⟩; refine Hid.out ?_)
        refine (show ∀ {p : Prop}, p → Hid p from fun h => h) ?_
        have hm2 : (vsL t).length = m2 := by have := ho.1; rw [ic_len] at this; omega
        have hp2 : 0 < m2 := by have := HPos.out; omega
        have hl2 : m2 ≤ 12 := by have := HLen.out; omega
        rcases ho.2 with ⟨_, h0⟩ | ⟨g, cap, cur, hv, hrest⟩
        · omega
        · simp at hv
          obtain ⟨rfl, rfl⟩ := hv
          have HST2 := hideIt (HST.out.up hb)
          have hsz := HST2.out.size
          have HNews : Hid (∀ j u, (ic (vsL t))[j]? = some u → w1.cell? ((⟨g, 0, none⟩ : Addr).add j) = some u) := fun j u hj => by
            have hj2 := (List.getElem?_eq_some_iff.1 hj).1
            rw [ic_len] at hj2
            have := ho.cellAt j (by omega)
            rw [show (⟨g, 0, none⟩ : Addr).add j = ⟨g, j, none⟩ by by_cases h0 : j = 0 <;> simp [Addr.add, h0], this]
            exact hj
          have HL := hideIt (show (ic (vsL t)).length = m2 * 1 by rw [ic_len]; omega)
          clear HST hb hrest ho HV hm2
          go_wp2_with (at_builtin; refine wpList_append_own _ rfl _ _ 45 rfl w.heap.size 3 i0 _ 1 8 Try.underlying45 hi hz0 hz1 hz2 rfl (by decide) _ _ _ rfl HST2.out.own ⟨g, 0, none⟩ m2 c2 (ic (vsL t)) rfl HL.out HNews.out (by intro u hu; simp [ic] at hu; obtain ⟨q, _, rfl⟩ := hu; rfl) (by unfold maxLen; omega) (by omega) (by omega) ?_)
          intro v5 w5 hown5 hg5 hnil
          obtain ⟨a5, c5, rfl, S5⟩ := HST2.out.appL hown5 hg5
          have HN5 : Hid (a5 ≠ none) := fun e => by
            subst e
            rcases hown5.2 with ⟨_, h0⟩ | ⟨g6, _, _, hv6, _⟩
            · omega
            · simp at hv6
          clear hown5 hg5 HST2 HNews hnil
          go_wp2
          exact ⟨⟨k + 1, m + m2, c5, a5, by omega, by omega, by go_num, rfl, HN5, by rw [← HT2.out]; exact S5⟩, by simp [intOf]; omega⟩
    · obtain rfl : k = n := by omega
      have hm : (allV ts).length = m := by
        have := hst.len
        rw [List.take_of_length_le (by omega)] at this
        exact this
      rw [List.take_of_length_le (by omega)] at hst
      rcases hst.own.2 with ⟨hv, _⟩ | ⟨g, cap, cur, hv, hg, hgb, r1, r2, r3, r4⟩
      · simp at hv
        exact absurd hv.1 HN1.out
      · have hv' := hv
        simp at hv'
        obtain ⟨rfl, rfl⟩ := hv'
        have hgl : g < wr.heap.size := (Array.getElem?_eq_some_iff.1 hgb).1
        have HS := Try.slices_Sort_int g 0 c1 (allV ts) wr (holds_of_blockI hgb (by rw [hm]; rw [Nat.mul_one] at r4; exact r4)) hgl (by omega)
        rw [hm] at HS
        have HO : Hid (∀ q os, ISt w (some ⟨g, 0, none⟩) m c1 (srtI (allV ts)) (grow (putRow (Value.int .i64) (Sort.ahead wr q) g 0 (srtI (allV ts)).toArray) os)) := fun q os => by
          have h1 := ownsRow_sortedI (n := q) (os := os) (ss := allV ts) (ts := srtI (allV ts)) (by unfold srtI; rw [List.length_mergeSort]) hg hgb (by rw [hm]; exact r1) r2 r3
          rw [hm] at h1
          exact ⟨h1, hst.bel.grown (grownBy_sortedI _) hst.size (fun j e => by cases e; exact hg)⟩
        have HL : Hid ((srtI (allV ts)).length = m) := by show _ = _; rw [(srtI_perm (allV ts)).length_eq]; exact hm
        have HSo : Hid (Calls Try.prog 78 #[.slice (some ⟨g, 0, none⟩) m c1] wr fun e w' => e = .returned (.tuple #[]) ∧ ISt w (some ⟨g, 0, none⟩) m c1 (srtI (allV ts)) w') :=
          HS.mono (by
            rintro e w2 ⟨rfl, q, os, rfl⟩
            exact ⟨rfl, HO.out q os⟩)
        clear HS HO hgb r1 r2 r3 r4 hst hv hm
        obtain ⟨S, hSe⟩ : ∃ S, srtI (allV ts) = S := ⟨_, rfl⟩
        rw [hSe] at HL HSo
        have HSe := hideIt hSe
        clear hSe
        have hm12 : m ≤ 144 := by omega
        go_wp2_with (go_at_call 78; refine HSo.out.mono ?_; rintro e w2 ⟨rfl, hS⟩; refine Hid.out ?_)
        refine (show ∀ {p : Prop}, p → Hid p from fun h => h) ?_
        have HSt := hideIt hS
        clear hS HSo
        go_wp2
        go_loopw [26] (fun i wq => ∃ j : Nat, j ≤ m ∧ i = .int .i64 (j : Int) ∧ Hid (∀ p, p < j → S[p]? = some (p : Int)) ∧ wq = w2) (fun i _ => m - (intOf i).toNat)
        case atStart => exact ⟨0, by omega, rfl, fun p hp => by omega, rfl⟩
        case round =>
          obtain ⟨j, hj, rfl, HJ, hw⟩ := hrel
          have hw' := hw.symm
          subst hw'
          clear hw
          by_cases hjl : j < m
          · obtain ⟨f, hf⟩ : ∃ f, S[j]? = some f := ⟨S[j]'(by have := HL.out; omega), List.getElem?_eq_getElem _⟩
            have e0 : w2.cell? ⟨g, j, none⟩ = some (.int .i64 f) := by rw [HSt.out.own.cellAt j (by omega)]; exact ic_at hf
            have q1 : (0 : Int) ≤ (j : Int) := by omega
            have q2 : (j : Int) < (m : Int) := by omega
            by_cases hfj : f = (j : Int)
            · have d1 : (f != (j : Int)) = false := by simpa using hfj
              have HJ2 : Hid (∀ p, p < j + 1 → S[p]? = some (p : Int)) := fun p hp => by
                by_cases hpj : p = j
                · rw [hpj, hf, hfj]
                · exact HJ.out p (by omega)
              clear hf HJ hfj
              go_wp2
              exact ⟨⟨j + 1, by omega, by go_num, HJ2, by first | trivial | rfl⟩, by simp [intOf]; omega⟩
            · have d1 : (f != (j : Int)) = true := by simpa using hfj
              have HNo : Hid (¬ (S = rangeI S.length)) := fun he => by
                have h1 := rangeI_at (n := S.length) (k := j) (by have := HL.out; omega)
                rw [← he, hf] at h1
                exact hfj (Option.some.inj h1)
              clear hf HJ hfj
              go_wp2
              go_ret
              exact ⟨false, rfl, by rw [HSe.out]; exact ⟨fun h => (by cases h), fun h => absurd h.1 HNo.out⟩, HSt.out.bel⟩
          · obtain rfl : j = m := by omega
            have HY : Hid (S = rangeI S.length) := by
              show _ = _
              apply List.ext_getElem?
              intro p
              have := HL.out
              by_cases hp : p < j
              · rw [HJ.out p hp, rangeI_at (by omega)]
              · rw [List.getElem?_eq_none (by omega), List.getElem?_eq_none (by rw [rangeI_len]; omega)]
            have HE : Hid (((j : Int) == N) = true ↔ ((S.length : Int) = N)) := by
              show _ ↔ _
              rw [HL.out]
              simp
            clear HJ
            go_wp2
            go_ret
            exact ⟨_, rfl, by rw [HSe.out]; exact ⟨fun h => ⟨HY.out, HE.out.1 h⟩, fun h => HE.out.2 h.2⟩, HSt.out.bel⟩

set_option maxHeartbeats 1000000 in
theorem iForestOk_any (N : Int) (ts : List (List Int)) (n : Nat) (a : Option Addr) (c : Nat) (hn : n + lnS ts ≤ 1048576) (w : World) (h : Ts w w.heap.size a n ts) :
    Calls Try.prog 38 #[.agg #[.int .i64 N, .slice a n c]] w fun e w' => ∃ b, e = .returned (.bool b) ∧ (b = true ↔ FP N ts) ∧ Below w.heap.size w w' := by
  have b0 : Below w.heap.size w (w.alloc (.cells #[.int .i64 N, .slice a n c] 28)) := (Below.refl _ _).alloc (Nat.le_refl _) _
  have HI := hideIt vertsOk_any
  have HP := hideIt (FP_prog N ts)
  have HT := hideIt (treesAscend_any ts n a c (by omega) (fun t ht => by have := lnS_mem ht; omega) _ (h.up b0))
  have HB0 := hideIt b0
  by_cases h1 : 1 ≤ N ∧ N ≤ 12
  · have r1 : decide (1 ≤ N ∧ N ≤ 12) = true := decide_eq_true h1
    by_cases hA : asP ts
    · have HT2 : Hid (Calls Try.prog 66 #[.slice a n c] (w.alloc (.cells #[.int .i64 N, .slice a n c] 28)) fun e w' => e = .returned (.bool true) ∧ Below (w.alloc (.cells #[.int .i64 N, .slice a n c] 28)).heap.size (w.alloc (.cells #[.int .i64 N, .slice a n c] 28)) w') :=
        HT.out.mono fun e v ⟨b, he, hb, hbl⟩ => ⟨by rw [he, hb.2 hA], hbl⟩
      have HSh := hideIt (fun u (hu : Below (w.alloc (.cells #[.int .i64 N, .slice a n c] 28)).heap.size (w.alloc (.cells #[.int .i64 N, .slice a n c] 28)) u) => shareOut_any N ts hA n a c u ((h.up b0).up hu))
      have HPA := hideIt (show FP N ts ↔ (srtI (allV ts) = rangeI (srtI (allV ts)).length ∧ ((srtI (allV ts)).length : Int) = N) from HP.out.trans ⟨fun h => h.2.2, fun h => ⟨h1, hA, h⟩⟩)
      clear h b0 HT HP hA
      go_enter Try.func38, Try.ntmps38
      go_wp2_with (first | (go_at_call 51; refine (HI.out _ _).mono ?_; rintro e w1 ⟨rfl, rfl⟩) | (go_at_call 66; refine HT2.out.mono ?_; rintro e w2 ⟨rfl, hb2⟩; refine Hid.out ?_))
      refine (show ∀ {p : Prop}, p → Hid p from fun h => h) ?_
      obtain ⟨hc, hf⟩ := bcell hb2
      have HS2 := hideIt (HSh.out w2 hb2)
      go_wp2_with (go_at_call 67; refine HS2.out.mono ?_; rintro e w3 ⟨b, rfl, hbi, hb3⟩)
      go_ret
      exact ⟨b, rfl, hbi.trans HPA.out.symm, HB0.out.trans ((hb2.trans (hb3.mono hb2.size)).mono (by simp))⟩
    · have HT2 : Hid (Calls Try.prog 66 #[.slice a n c] (w.alloc (.cells #[.int .i64 N, .slice a n c] 28)) fun e w' => e = .returned (.bool false) ∧ Below (w.alloc (.cells #[.int .i64 N, .slice a n c] 28)).heap.size (w.alloc (.cells #[.int .i64 N, .slice a n c] 28)) w') :=
        HT.out.mono fun e v ⟨b, he, hb, hbl⟩ => ⟨by
          have : b = false := by
            cases b with
            | false => rfl
            | true => exact absurd (hb.1 rfl) hA
          rw [he, this], hbl⟩
      have HN : Hid (¬ FP N ts) := fun hf => hA (HP.out.1 hf).2.1
      clear h b0 HT HP hA
      go_enter Try.func38, Try.ntmps38
      go_wp2_with (first | (go_at_call 51; refine (HI.out _ _).mono ?_; rintro e w1 ⟨rfl, rfl⟩) | (go_at_call 66; refine HT2.out.mono ?_; rintro e w2 ⟨rfl, hb2⟩))
      go_ret
      exact ⟨false, rfl, ⟨fun h => (by cases h), fun h => absurd h HN.out⟩, HB0.out.trans (hb2.mono (by simp))⟩
  · have r1 : decide (1 ≤ N ∧ N ≤ 12) = false := decide_eq_false h1
    have HN : Hid (¬ FP N ts) := fun hf => h1 (HP.out.1 hf).1
    clear HT h HP b0
    go_enter Try.func38, Try.ntmps38
    go_wp2_with (go_at_call 51; refine (HI.out _ _).mono ?_; rintro e w1 ⟨rfl, rfl⟩)
    go_ret
    exact ⟨false, rfl, ⟨fun h => (by cases h), fun h => absurd h HN.out⟩, HB0.out⟩
end Go.Proofs.Ytcpffonenhhfoab
