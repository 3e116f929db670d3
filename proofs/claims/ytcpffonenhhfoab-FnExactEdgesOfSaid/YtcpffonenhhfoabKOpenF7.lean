/- The program's stepsUp and EdgesOf. The walk of FnExactEdgesOf. A forest that comes in. -/
import Derived.Test.YtcpffonenhhfoabKSEd7
import Derived.Test.YtcpffonenhhfoabKValsE
import Derived.Test.YtcpffonenhhfoabKRer
import Derived.WalkKit
import Derived.ProofKit
import Derived.OpenShut
import Derived.ChangeOld
import Derived.ChangeArms
import Derived.Below
import Derived.ChangeSlices
namespace Go.Proofs.Ytcpffonenhhfoab
open Go.RowKit

/-- edges in the making: nothing of wb has turned -/
structure USt (wb : World) (g m c : Nat) (es : List EdgeV) (u : World) : Prop where
  own : u.ownsRow wb.heap.size 32 2 (.slice (some ⟨g, 0, none⟩) m c) m (ecells es)
  bel : Below wb.heap.size wb u
theorem USt.size {wb : World} {g m c : Nat} {es : List EdgeV} {u : World} (h : USt wb g m c es u) : wb.heap.size ≤ u.heap.size := h.bel.size
theorem USt.len {wb : World} {g m c : Nat} {es : List EdgeV} {u : World} (h : USt wb g m c es u) : es.length = m := by have := h.own.1; rw [ecells_length] at this; omega
theorem USt.up {wb : World} {g m c : Nat} {es : List EdgeV} {u v : World} (h : USt wb g m c es u) (hb : Below u.heap.size u v) : USt wb g m c es v := ⟨own_up h.own hb, h.bel.trans (hb.mono h.size)⟩
theorem USt.start (wb : World) : USt wb wb.heap.size 0 0 [] (wb.alloc (.cells #[] 32)) := by
  refine ⟨?_, (Below.refl _ _).alloc (Nat.le_refl _) _⟩
  have h0 := World.ownsRow_lit (base := wb.heap.size) (e := 32) (size := 2) wb #[] 0 (Nat.le_refl _) (by unfold maxLen; omega) (by simp)
  simpa [ecells] using h0
theorem ecells_app (a b : List EdgeV) : ecells (a ++ b) = ecells a ++ ecells b := by simp [ecells]

set_option maxRecDepth 100000 in
set_option maxHeartbeats 4000000 in
theorem stepsUp_any (t : List Int) (hB : tB t = true) (a : Option Addr) (c : Nat) (w : World) (h : Is w w.heap.size a t.length t) :
    Calls Try.prog 39 #[.slice a t.length c] w fun e w' => ∃ g m c', e = .returned (.slice (some ⟨g, 0, none⟩) m c') ∧ USt w g m c' (up t) w' := by
  obtain ⟨i0, hi, hz0, hz1, hz2⟩ := info_parts infoIE
  have hl := tB_len hB
  rcases h.2 with h0 | ⟨b, off, rfl, hbl, hc⟩
  · omega
  · have HC := hideIt hc
    have S0 := USt.start w
    have x1 : (1 : Int) ≤ (t.length : Int) := by omega
    clear h hc hB
    go_enter Try.func39, Try.ntmps39
    go_wp2
    go_loopw [3, 9] (fun r i wr => ∃ (k g m c1 : Nat), k + 1 ≤ t.length ∧ m ≤ k ∧ i = .int .i64 (k : Int) ∧ r = .slice (some ⟨g, 0, none⟩) m c1 ∧ USt w g m c1 (upK t k) wr) (fun _ i _ => t.length - (intOf i).toNat)
    case atStart => exact ⟨0, _, 0, 0, by omega, by omega, rfl, rfl, S0⟩
    case round =>
      obtain ⟨k, g, m, c1, hk, hm, rfl, rfl, hst⟩ := hrel
      clear S0
      by_cases hlt : k + 1 < t.length
      · have h1 : t[k]? = some t[k] := List.getElem?_eq_getElem (by omega)
        have h2 : t[k + 1]? = some t[k + 1] := List.getElem?_eq_getElem (by omega)
        obtain ⟨p, hp⟩ : ∃ p, t[k] = p := ⟨_, rfl⟩
        obtain ⟨q, hq⟩ : ∃ q, t[k + 1] = q := ⟨_, rfl⟩
        rw [hp] at h1
        rw [hq] at h2
        have e0 : wr.cell? ⟨b, off + k, none⟩ = some (.int .i64 p) := by rw [hst.bel.cell hbl]; exact HC.out k p h1
        have e1 : wr.cell? ⟨b, off + (k + 1), none⟩ = some (.int .i64 q) := by rw [hst.bel.cell hbl]; exact HC.out (k + 1) q h2
        have b1 : (0 : Int) ≤ (k : Int) := by omega
        have b2 : (k : Int) < (t.length : Int) := by omega
        have b3 : (0 : Int) ≤ (k : Int) + 1 := by omega
        have b4 : (k : Int) + 1 < (t.length : Int) := by omega
        have b5 : ((k : Int) + 1).toNat = k + 1 := by omega
        have b6 : decide ((k : Int) < (t.length : Int) - 1) = true := decide_eq_true (by omega)
        have hw1 : IntKind.i64.wrap ((k : Int) + 1) = (k : Int) + 1 := by rw [IntKind.wrap_i64]; omega
        have hsz := hst.size
        have hmt : m ≤ 23 := by omega
        by_cases hpq : p < q
        · have d1 : decide (p < q) = true := decide_eq_true hpq
          have HU := hideIt (upK_yes h1 h2 hpq)
          have HST := hideIt hst
          have HA : Hid (∀ G cap u', u'.ownsRow w.heap.size 32 2 (.slice (some ⟨G, 0, none⟩) (m + 1) cap) (m + 1) (ecells (upK t k) ++ [.int .i64 p, .int .i64 q]) → (wr.alloc (.cells #[.int .i64 p, .int .i64 q] 32)).grownBy u' (some g) → USt w G (m + 1) cap (upK t (k + 1)) u') := fun G cap u' ho hg => by
            rw [HU.out]
            refine ⟨by rw [ecells_snoc]; exact ho, ?_⟩
            exact (HST.out.bel.alloc hsz _).grown hg (by simp; omega) (fun j hj => by cases hj; exact (HST.out.own.lt g rfl).1)
          clear hst h1 h2 hp hq
          go_wp2
          go_quiet (fail)
          go_wp2
          go_region_law (refine step_append_lies _ (by rfl) _ _ _ (by rfl) w.heap.size 32 i0 _ 2 16 Try.underlying38 hi hz0 hz1 hz2 rfl (by omega) _ m _ (by rfl) (((HST.out.up (below_drewN (Below.refl _ _) _)).own.alloc _).drew) ⟨wr.heap.size, 0, none⟩ 1 1 [.int .i64 p, .int .i64 q] (by rfl) (by rfl) (World.news_of_block (cs := #[.int .i64 p, .int .i64 q]) (t := 32) (fr := (0, 0)) (heap_alloc_new wr _)) (by simp [Value.oneCell']) (by omega) (by unfold maxLen; omega) (by omega) (by simp; omega) (wr.heap.size + 1) (by simp) ?_; intro g1 cap1 w1 hown1 hg1 hat1 hlt1; have S1 := HA.out g1 cap1 w1 hown1 ⟨hg1.os, hg1.tape, hg1.output, hg1.size, hg1.block⟩)
          all_goals
            clear hown1 hg1
            go_wp2
            exact ⟨⟨k + 1, g1, m + 1, cap1, by omega, by omega, by go_num, rfl, S1⟩, by simp [intOf]; omega⟩
        · have d1 : decide (p < q) = false := decide_eq_false hpq
          have HU := hideIt (upK_no h1 h2 hpq)
          have HST := hideIt hst
          clear hst h1 h2 hp hq
          go_wp2
          go_quiet (fail)
          go_wp2
          exact ⟨⟨k + 1, g, m, c1, by omega, by omega, by go_num, rfl, by rw [HU.out]; exact HST.out.up (below_drewN (Below.refl _ _) _)⟩, by simp [intOf]; omega⟩
      · have b6 : decide ((k : Int) < (t.length : Int) - 1) = false := decide_eq_false (by omega)
        have HST := hideIt hst
        have HU : Hid (upK t k = up t) := by show _ = _; unfold up; rw [show t.length - 1 = k by omega]
        clear hst
        go_wp2
        go_ret
        exact ⟨g, m, c1, rfl, by rw [← HU.out]; exact HST.out⟩
set_option maxRecDepth 100000 in
set_option maxHeartbeats 2000000 in
theorem iEdgesOf_any (N : Int) (ts : List (List Int)) (n : Nat) (a : Option Addr) (c : Nat) (hn : n + lnS ts ≤ 1048576) (w : World) (h : Ts w w.heap.size a n ts) :
    Calls Try.prog 17 #[.agg #[.int .i64 N, .slice a n c]] w fun e w' => ∃ a' m' c', e = .returned (.slice a' m' c') ∧ w'.ownsRow w.heap.size 32 2 (.slice a' m' c') m' (ecells (edgesO N ts)) ∧ Below w.heap.size w w' := by
  obtain ⟨i0, hi, hz0, hz1, hz2⟩ := info_parts infoIE
  have b0 : Good w (w.alloc (.cells #[.int .i64 N, .slice a n c] 28)) := (Good.refl w).alloc _
  have HF := iForestOk_any N ts n a c hn _ (h.up b0)
  have HB0 := hideIt b0
  have hlen := h.1
  by_cases hP : FP N ts
  · have HF2 := hideIt (HF.mono fun e u ⟨b, he, hb, hbl⟩ => (show e = Ending.returned (.bool true) ∧ Good (w.alloc (.cells #[.int .i64 N, .slice a n c] 28)) u from ⟨by rw [he, hb.2 hP], hbl⟩))
    have HA := hideIt (h.up b0)
    have HV := hideIt (edgesO_yes hP)
    have hn12 : n ≤ 12 := by have := hP.2.2.1; omega
    have HBt : Hid (∀ t ∈ ts, tB t = true) := fun t ht => (hP.q.1 t ht).1
    clear h b0 HF hP
    go_enter Try.func17, Try.ntmps17
    go_wp2_with (go_at_call 38; refine HF2.out.mono ?_; rintro e w1 ⟨rfl, hg1⟩; refine Hid.out ?_)
    refine (show ∀ {p : Prop}, p → Hid p from fun h => h) ?_
    have cB : Hid (∀ u, Below w1.heap.size w1 u → u.cell? ⟨w.heap.size, 1, none⟩ = some (.slice a n c)) := fun u hu => by rw [(hg1.up hu).cell (by simp)]; simp
    have c0 := cB.out _ ((Below.refl _ w1).alloc (Nat.le_refl _) (.cells #[] 32))
    have S0 := USt.start w1
    have HG1 := hideIt hg1
    clear HF2 hg1
    go_wp2
    go_loopw [3, 12] (fun r i wr => ∃ (k g m c1 : Nat), k ≤ n ∧ m ≤ 23 * k ∧ i = .int .i64 (k : Int) ∧ r = .slice (some ⟨g, 0, none⟩) m c1 ∧ USt w1 g m c1 (allU (ts.take k)) wr) (fun _ i _ => n - (intOf i).toNat)
    case atStart => exact ⟨0, _, 0, 0, by omega, by omega, rfl, rfl, by rw [List.take_zero]; exact S0⟩
    case round =>
      obtain ⟨k, g, m, c1, hk, hm, rfl, rfl, hst⟩ := hrel
      clear S0 c0
      have c0 := cB.out _ hst.bel
      by_cases hlt : k < n
      · obtain ⟨t, ht⟩ : ∃ t, ts[k]? = some t := ⟨ts[k]'(by omega), List.getElem?_eq_getElem (by omega)⟩
        rcases ((HA.out.up HG1.out).up hst.bel).2 with hz | ⟨b, off, rfl, hbl, hc⟩
        · omega
        · obtain ⟨x, cx, e0, iI, _⟩ := hc k t ht
          have hBt := HBt.out t (List.mem_of_getElem? ht)
          have hl := tB_len hBt
          have b1 : (0 : Int) ≤ (k : Int) := by omega
          have b2 : (k : Int) < (n : Int) := by omega
          have HS := hideIt (stepsUp_any t hBt x cx wr iI)
          have HST := hideIt hst
          have HT2 : Hid (allU (ts.take k) ++ up t = allU (ts.take (k + 1))) := by show _ = _; rw [take_snocF ts k t ht, allU_snoc]
          have HLen : Hid ((up t).length ≤ 23) := by
            have h1 := (up_perm hBt).length_eq
            have h2 := tE_count hBt
            show (up t).length ≤ 23
            omega
          clear hc ht iI hst hBt
          go_wp2_with (go_at_call 39; refine HS.out.mono ?_; rintro e w2 ⟨g2, m2, c2, rfl, hu2⟩; refine Hid.out ?_)
          refine (show ∀ {p : Prop}, p → Hid p from fun h => h) ?_
          have hm2 := hu2.len
          have hl2 : m2 ≤ 23 := by have := HLen.out; omega
          have HST2 := hideIt (HST.out.up hu2.bel)
          have hsz := HST2.out.size
          have HNews : Hid (∀ j u, (ecells (up t))[j]? = some u → w2.cell? ((⟨g2, 0, none⟩ : Addr).add j) = some u) := fun j u hj => by
            have hj2 := (List.getElem?_eq_some_iff.1 hj).1
            rw [ecells_length] at hj2
            rw [show ((⟨g2, 0, none⟩ : Addr).add j) = ⟨g2, j, none⟩ by by_cases h0 : j = 0 <;> simp [Addr.add, h0], hu2.own.cellAt j (by omega)]
            exact hj
          have HL := hideIt (show (ecells (up t)).length = m2 * 2 by rw [ecells_length]; omega)
          have HOne : Hid (∀ u ∈ ecells (up t), u.oneCell' = true) := fun u hu => by
            simp only [ecells, List.mem_flatMap, ecell, List.mem_cons, List.not_mem_nil, or_false] at hu
            obtain ⟨f, _, rfl | rfl⟩ := hu <;> rfl
          clear HST hu2 HS hm2
          go_wp2_with (at_builtin; refine wpList_append_own _ rfl _ _ 38 rfl w1.heap.size 32 i0 _ 2 16 Try.underlying38 hi hz0 hz1 hz2 rfl (by decide) _ _ _ rfl HST2.out.own ⟨g2, 0, none⟩ m2 c2 (ecells (up t)) rfl HL.out HNews.out HOne.out (by unfold maxLen; omega) (by omega) (by omega) ?_)
          intro v5 w5 hown5 hg5 hnil
          obtain ⟨g5, c5, rfl⟩ : ∃ g5 c5, v5 = .slice (some ⟨g5, 0, none⟩) (m + m2) c5 := by
            rcases hown5.2 with ⟨h0, _⟩ | ⟨g5, cap5, _, hv5, _⟩
            · exact absurd h0 hnil
            · exact ⟨g5, cap5, hv5⟩
          have S5 : USt w1 g5 (m + m2) c5 (allU (ts.take (k + 1))) w5 := by
            rw [← HT2.out]
            exact ⟨by rw [ecells_app]; exact hown5, HST2.out.bel.grown hg5 HST2.out.size (fun j hj => (HST2.out.own.lt j hj).1)⟩
          clear hown5 hg5 HST2 HNews hnil
          go_wp2
          exact ⟨⟨k + 1, g5, m + m2, c5, by omega, by omega, by go_num, rfl, S5⟩, by simp [intOf]; omega⟩
      · obtain rfl : k = n := by omega
        rw [List.take_of_length_le (by omega)] at hst
        have HSo := hideIt (sortFE_any (allU ts) m _ w1.heap.size (by omega) wr hst.own)
        have HST := hideIt hst
        clear hst
        go_wp2_with (go_at_call 40; refine HSo.out.mono ?_; rintro e w2 ⟨rfl, ho2, hb2⟩)
        go_ret
        exact ⟨_, m, c1, rfl, by rw [HV.out]; exact own_mono ho2 (by have := HG1.out.size; simp at this; omega), HB0.out.up (HG1.out.up (HST.out.bel.trans (hb2 HST.out.size)))⟩
  · have HF2 := hideIt (HF.mono fun e u ⟨b, he, hb, hbl⟩ => (show e = Ending.returned (.bool false) ∧ Good (w.alloc (.cells #[.int .i64 N, .slice a n c] 28)) u from ⟨by
      have : b = false := by
        cases b with
        | false => rfl
        | true => exact absurd (hb.1 rfl) hP
      rw [he, this], hbl⟩))
    have HV := hideIt (edgesO_no hP)
    clear h b0 HF hP
    go_enter Try.func17, Try.ntmps17
    go_wp2_with (go_at_call 38; refine HF2.out.mono ?_; rintro e w1 ⟨rfl, hg1⟩)
    go_ret
    exact ⟨none, 0, 0, rfl, by rw [HV.out]; exact World.ownsRow_nil _ _ _ _, HB0.out.up hg1⟩
end Go.Proofs.Ytcpffonenhhfoab
namespace Go.Proofs.Ytcpffonenhhfoab
open Go.RowKit

theorem edgesO_len (N : Int) (ts : List (List Int)) : (edgesO N ts).length ≤ 1000 := by
  by_cases h : FP N ts
  · rw [edgesO_yes h, srtE_len]
    have hl : ∀ l : List (List Int), (∀ t ∈ l, tB t = true) → (allU l).length ≤ 23 * l.length := fun l hl => by
      induction l with
      | nil => simp [allU]
      | cons t r ih =>
        have h3 := tB_len (hl t (by simp))
        have h4 := ih fun s hs => hl s (by simp [hs])
        have h5 := (up_perm (hl t (by simp))).length_eq
        have h6 := tE_count (hl t (by simp))
        have h7 : (allU (t :: r)).length = (up t).length + (allU r).length := by
          show (up t ++ allU r).length = _
          rw [List.length_append]
        simp only [List.length_cons]
        omega
    have h1 := hl ts fun t ht => (h.q.1 t ht).1
    have h2 := h.2.2.1
    omega
  · rw [edgesO_no h]
    simp
theorem Good.rng7 {w u v : World} {lo hi : Nat} (h : Good w u) (hr : Rng lo hi u v) (hl : w.heap.size ≤ lo) : Good w v := Below.trans h (hr.below hl h.size)

set_option maxRecDepth 100000 in
set_option maxHeartbeats 8000000 in
theorem fnExactEdgesOf.walk (N : Int) (_hN : (Lit.int .i64 N).wf = true) (ts : List (List Int)) (hm : ∀ t ∈ ts, t.length ≤ maxLen) (n : Nat) (a : Option Addr) (c : Nat) (hn : n ≤ maxLen) (w : World) (h : Ts w w.heap.size a n ts) :
    Calls Try.prog 5 #[.agg #[.int .i64 N, .slice a n c]] w fun e w' => e = .returned (.bool true) ∧ Below w.heap.size w w' := by
  have b0 : Good w (w.alloc (.cells #[.int .i64 N, .slice a n c] 24)) := (Good.refl w).alloc _
  have HS := hideIt (szForest_any N ts n a c hn hm (w.alloc (.cells #[.int .i64 N, .slice a n c] 24)) (h.up b0))
  have HB0 := hideIt b0
  have HA := hideIt (h.up b0)
  have hz0 : (w.alloc (.cells #[.int .i64 N, .slice a n c] 24)).heap.size = w.heap.size + 1 := by simp
  have HC0 : Hid (∀ u, Good (w.alloc (.cells #[.int .i64 N, .slice a n c] 24)) u → u.cell? ⟨w.heap.size, 0, none⟩ = some (.int .i64 N) ∧ u.cell? ⟨w.heap.size, 1, none⟩ = some (.slice a n c)) := fun u hu => ⟨by rw [hu.cell (by simp)]; simp, by rw [hu.cell (by simp)]; simp⟩
  clear h b0
  by_cases g1 : n + lnS ts ≤ 1048576
  · have d1 : decide (szv n ts < 0) = false := decide_eq_false (by unfold szv; rw [if_pos g1]; omega)
    have HT := hideIt (fun u (hu : Good (w.alloc (.cells #[.int .i64 N, .slice a n c] 24)) u) => toForest_any N ts n a c g1 u (HA.out.up hu))
    have HRs := hideIt (fun u g (hT : Ts u u.heap.size (some ⟨g, 0, none⟩) n ts) => (sEdgesOf_any N ts n _ n g1 u hT).mono fun e v ⟨a', m', c', he, ho, hb⟩ => (show ∃ a' m' c', e = Ending.returned (.slice a' m' c') ∧ EBox v u.heap.size v.heap.size a' m' c' (edgesO N ts) ∧ Good u v from ⟨a', m', c', he, EBox.laid ho, hb⟩))
    have HRi := hideIt (fun u g (hT : Ts u u.heap.size (some ⟨g, 0, none⟩) n ts) => (iEdgesOf_any N ts n _ n g1 u hT).mono fun e v ⟨a', m', c', he, ho, hb⟩ => (show ∃ a' m' c', e = Ending.returned (.slice a' m' c') ∧ EBox v u.heap.size v.heap.size a' m' c' (edgesO N ts) ∧ Good u v from ⟨a', m', c', he, EBox.laid ho, hb⟩))
    have hgl := edgesO_len N ts
    generalize edgesO N ts = es at *
    generalize szv n ts = z at *
    go_enter Try.func5, Try.ntmps5
    go_wp2_with (go_at_call 6; refine HS.out.mono ?_; rintro e w2 ⟨rfl, hg2⟩; refine Hid.out ?_)
    refine (show ∀ {p : Prop}, p → Hid p from fun h => h) ?_
    have G2 : Good (w.alloc (.cells #[.int .i64 N, .slice a n c] 24)) w2 := hg2
    obtain ⟨k0, k1⟩ := HC0.out w2 G2
    have HT2 := hideIt (HT.out w2 G2)
    clear HS hg2
    go_wp2_with (go_at_call 8; refine HT2.out.mono ?_; rintro e w3 ⟨g3, R3, rfl, F3, r3, hb3⟩; refine Hid.out ?_)
    refine (show ∀ {p : Prop}, p → Hid p from fun h => h) ?_
    have G3 := G2.up hb3
    have HS3 := hideIt (HRs.out w3 g3 (by rw [← r3]; exact F3.ts))
    clear HT2 F3 r3 hb3 k0 k1 G2
    go_wp2_with (go_at_call 16; refine HS3.out.mono ?_; rintro e w4 ⟨aw, mw, cw, rfl, RW, hg4⟩; refine Hid.out ?_)
    refine (show ∀ {p : Prop}, p → Hid p from fun h => h) ?_
    have G4 := G3.up hg4
    have hmw : mw ≤ 1000 := by rw [← RW.len]; exact hgl
    obtain ⟨k0, k1⟩ := HC0.out w4 G4
    have HT4 := hideIt (HT.out w4 G4)
    clear HS3 hg4 G3
    go_wp2_with (go_at_call 8; refine HT4.out.mono ?_; rintro e w5 ⟨g5, R5, rfl, F5, r5, hb5⟩; refine Hid.out ?_)
    refine (show ∀ {p : Prop}, p → Hid p from fun h => h) ?_
    have G5 := (G4.up hb5).alloc (.cells #[.int .i64 N, .slice (some ⟨g5, 0, none⟩) n n] 28)
    have RW5 := (RW.up hb5).up ((Below.refl _ w5).alloc (Nat.le_refl _) (.cells #[.int .i64 N, .slice (some ⟨g5, 0, none⟩) n n] 28))
    have DX := OBox.laid (M := N) hb5.size F5
    have hr5 := hideIt r5
    have z4 := G4.size
    have z45 : w4.heap.size ≤ (w5.alloc (.cells #[.int .i64 N, .slice (some ⟨g5, 0, none⟩) n n] 28)).heap.size := by have := hb5.size; simp; omega
    obtain ⟨u5, b5, e1, e2⟩ : ∃ u5 b5, u5 = w5.alloc (.cells #[.int .i64 N, .slice (some ⟨g5, 0, none⟩) n n] 28) ∧ b5 = w5.heap.size := ⟨_, _, rfl, rfl⟩
    have HI5 := hideIt (HRi.out u5 g5 (by rw [e1, ← r5]; exact DX.fb.ts))
    have q0 := DX.cells.1
    have q1 := DX.cells.2
    clear HT4 F5 r5 hb5 k0 k1 G4 RW
    go_upto_region 7 with fail
    rw [← e1] at G5 RW5 DX z45 q0 q1 ⊢
    rw [← e2] at DX q0 q1 ⊢
    clear e1 e2
    go_wp2_with (go_at_call 17; refine HI5.out.mono ?_; rintro e w6 ⟨ag, mg, cg, rfl, RG, hg6⟩; refine Hid.out ?_)
    refine (show ∀ {p : Prop}, p → Hid p from fun h => h) ?_
    have G6 := G5.up hg6
    have RW6 := RW5.up hg6
    have DX6 := DX.up hg6
    have hmg : mg ≤ 1000 := by rw [← RG.len]; exact hgl
    have HE6 := hideIt (eqEB RG RW6 (by omega))
    clear HI5 q0 q1 G5 RW5 DX hg6
    go_wp2_with (go_at_call 18; refine HE6.out.mono ?_; rintro e w7 ⟨rfl, hb7⟩; refine Hid.out ?_)
    refine (show ∀ {p : Prop}, p → Hid p from fun h => h) ?_
    have G7 := G6.up hb7
    have RW7 := RW6.up hb7
    have DX7 := DX6.up hb7
    have RG7 := RG.up hb7
    clear HE6 hb7 G6 RW6 DX6 RG
    have HC7 : Hid (∀ u, Good w7 u → (u.cell? ⟨b5, 0, none⟩ = some (.int .i64 N) ∧ u.cell? ⟨b5, 1, none⟩ = some (.slice (some ⟨g5, 0, none⟩) n n)) ∧ u.cell? ⟨w.heap.size, 0, none⟩ = some (.int .i64 N) ∧ u.cell? ⟨w.heap.size, 1, none⟩ = some (.slice a n c)) := fun u hu => ⟨(DX7.up hu).cells, HC0.out u (G7.up hu)⟩
    have HT7 := hideIt (fun u (hu : Good w7 u) => (HT.out u (G7.up hu)).mono fun e v ⟨g8, R8, he, F8, r8, hb8⟩ => (show ∃ g, e = Ending.returned (.agg #[.int .i64 N, .slice (some ⟨g, 0, none⟩) n n]) ∧ Ts v v.heap.size (some ⟨g, 0, none⟩) n ts ∧ Good w7 v from ⟨g8, he, by rw [← r8]; exact F8.ts, hu.up hb8⟩))
    have HE7 := hideIt (fun u g' (hu : Good w7 u) (hT : Ts u u.heap.size (some ⟨g', 0, none⟩) n ts) => (eqForest_same N ts n _ _ n n g1 u (hr5.out ▸ (DX7.up hu).fb.ts) hT).mono fun e v ⟨he, hb⟩ => (show e = Ending.returned (.bool true) ∧ Good w7 v from ⟨he, hu.up hb⟩))
    have S7 := (Good.refl w7).drew
    have hS7 := HC7.out _ S7
    go_upto_region 10 with fail
    go_region_held3 (fun u => (u.cell? ⟨b5, 0, none⟩ = some (.int .i64 N) ∧ u.cell? ⟨b5, 1, none⟩ = some (.slice (some ⟨g5, 0, none⟩) n n)) ∧ u.cell? ⟨w.heap.size, 0, none⟩ = some (.int .i64 N) ∧ u.cell? ⟨w.heap.size, 1, none⟩ = some (.slice a n c))
      (first | assumption)
      (first
      | (go_at_call 8; refine (HT7.out _ S7).mono ?_; rintro e w8 ⟨g8, rfl, f8, S8⟩; have hS8 := HC7.out _ S8)
      | (go_at_call 11; refine (HE7.out _ g8 S8 f8).mono ?_; rintro e w9 ⟨rfl, S9⟩; have hS9 := HC7.out _ S9))
    have G9 := G7.up S9
    have RW9 := RW7.up S9
    have DX9 := DX7.up S9
    have RG9 := RG7.up S9
    have hrn : n + rn R5 ≤ 1048576 := by rw [rn_lnS, hr5.out]; exact g1
    have q0 := DX9.cells.1
    have q1 := DX9.cells.2
    have HM9 := hideIt (markOB DX9 1 hrn (by omega))
    clear HC7 HT7 HE7 S7 hS7 f8 S8 hS8 hS9 S9 G7 RW7 DX7 RG7
    go_wp2_with (go_at_call 12; refine HM9.out.mono ?_; rintro e w10 ⟨rfl, _, hr10⟩; refine Hid.out ?_)
    refine (show ∀ {p : Prop}, p → Hid p from fun h => h) ?_
    have G10 := G9.rng7 hr10 z4
    have RW10 := RW9.rng hr10 (.inl (Nat.le_refl _))
    have RG10 := RG9.rng hr10 (.inr (Nat.le_refl _))
    have d3 : decide ((1 : Int) + (rn R5 : Int) < 0) = false := decide_eq_false (by omega)
    have HE10 := hideIt (eqEB RG10 RW10 (by omega))
    clear HM9 q0 q1 G9 RW9 RG9 DX9 hr10
    go_wp2_with (go_at_call 18; refine HE10.out.mono ?_; rintro e w11 ⟨rfl, hb11⟩; refine Hid.out ?_)
    refine (show ∀ {p : Prop}, p → Hid p from fun h => h) ?_
    have G11 := G10.up hb11
    have RW11 := RW10.up hb11
    have RG11 := RG10.up hb11
    have HM11 := hideIt (markEB RG11 1 (by omega) (by omega))
    clear HE10 hb11 G10 RW10 RG10
    go_wp2_with (go_at_call 19; refine HM11.out.mono ?_; rintro e w12 ⟨rfl, RG12, hr12⟩; refine Hid.out ?_)
    refine (show ∀ {p : Prop}, p → Hid p from fun h => h) ?_
    have G12 := G11.rng7 hr12 (by omega)
    have RW12 := RW11.rng hr12 (.inl (by omega))
    have d4 : decide ((1 : Int) + (mg : Int) * 2 < 0) = false := decide_eq_false (by omega)
    have d5 : ((1 : Int) + (mg : Int) * 2 != (1 : Int) + (mg : Int) * 2) = false := by simp
    have HH12 := hideIt (heldEB 1 RG12 (by omega) (by omega))
    clear HM11 hr12 G11 RW11 RG11
    go_wp2_with (go_at_call 20; refine HH12.out.mono ?_; rintro e w13 ⟨rfl, hw⟩; have hw' := hw.symm; subst hw'; clear hw; refine Hid.out ?_)
    refine (show ∀ {p : Prop}, p → Hid p from fun h => h) ?_
    obtain ⟨k0, k1⟩ := HC0.out w12 G12
    have HT12 := hideIt (HT.out w12 G12)
    go_wp2_with (go_at_call 8; refine HT12.out.mono ?_; rintro e w14 ⟨g14, R14, rfl, F14, r14, hb14⟩; refine Hid.out ?_)
    refine (show ∀ {p : Prop}, p → Hid p from fun h => h) ?_
    have G14 := G12.up hb14
    have RW14 := RW12.up hb14
    have RG14 := RG12.up hb14
    have HI14 := hideIt (HRi.out w14 g14 (by rw [← r14]; exact F14.ts))
    clear HT12 F14 r14 hb14 k0 k1 G12 RW12 RG12 HH12
    go_wp2_with (go_at_call 17; refine HI14.out.mono ?_; rintro e w15 ⟨ah, mh, ch, rfl, RH, hg15⟩; refine Hid.out ?_)
    refine (show ∀ {p : Prop}, p → Hid p from fun h => h) ?_
    have G15 := G14.up hg15
    have RW15 := RW14.up hg15
    have RG15 := RG14.up hg15
    have hmh : mh ≤ 1000 := by rw [← RH.len]; exact hgl
    have HE15 := hideIt (eqEB RH RW15 (by omega))
    clear HI14 hg15 G14 RW14 RG14
    go_wp2_with (go_at_call 18; refine HE15.out.mono ?_; rintro e w16 ⟨rfl, hb16⟩; refine Hid.out ?_)
    refine (show ∀ {p : Prop}, p → Hid p from fun h => h) ?_
    have G16 := G15.up hb16
    have RG16 := RG15.up hb16
    have HH16 := hideIt (heldEB 1 RG16 (by omega) (by omega))
    clear HE15 hb16 G15 RW15 RG15 RH
    go_wp2_with (go_at_call 20; refine HH16.out.mono ?_; rintro e w17 ⟨rfl, hw⟩; have hw' := hw.symm; subst hw'; clear hw)
    go_ret
    exact ⟨rfl, HB0.out.up G16⟩
  · have HV : Hid (szv n ts = -1) := by show _ = _; unfold szv; rw [if_neg g1]
    have d1 : decide (szv n ts < 0) = true := decide_eq_true (by have := HV.out; omega)
    generalize szv n ts = z at *
    go_enter Try.func5, Try.ntmps5
    go_wp2_with (go_at_call 6; refine HS.out.mono ?_; rintro e w2 ⟨rfl, hg2⟩)
    go_ret
    exact ⟨rfl, HB0.out.up hg2⟩
end Go.Proofs.Ytcpffonenhhfoab
namespace Go.Proofs.Ytcpffonenhhfoab
open Go.RowKit Go.ChangeShapes Go.WideShapes Go.ChangeAt

theorem two7 {α : Type} {l : List α} (h : l.length = 2) : ∃ a b, l = [a, b] := by
  match l, h with
  | [a, b], _ => exact ⟨a, b, rfl⟩
/-- a row of numbers -/
theorem open_int1 {H : Type} {enc : TypeId × Value → H} {W : World} {fuel : Nat} {cs : List Value} {y : DataW H × List MemPlace}
    (h : DataW.trod enc Try.prog W 0 (fun _ => true) true fuel 45 cs = some y) : ∃ (a : Option Addr) (n c : Nat) (ls : List Int), cs = [.slice a n c] ∧ n ≤ maxLen ∧ n ≤ c ∧ Is W W.heap.size a n ls := by
  rcases open_ints Try.underlying45 Try.underlying3 (by kernel_rfl) h with ⟨hcs, _⟩ | ⟨x, l, c, zs, hcs, _, hl, hm, hz, _, hcell, hwz⟩
  · exact ⟨none, 0, 0, [], hcs, by unfold maxLen; omega, by omega, ⟨rfl, .inl rfl⟩⟩
  · have hzl : zs.length = c := by simpa using hz
    by_cases h0 : l = 0
    · subst h0
      exact ⟨_, 0, c, [], hcs, by unfold maxLen; omega, by omega, ⟨rfl, .inl rfl⟩⟩
    · obtain ⟨b, off, rfl, hc⟩ := ints_at hcell (by omega)
      have hb : b < W.heap.size := World.block_lt_of_cell? W _ (hc 0 (by omega))
      refine ⟨_, l, c, zs.take l, hcs, by omega, by omega, ⟨by rw [List.length_take]; omega, .inr ⟨b, off, rfl, hb, fun j x hx => ?_⟩⟩⟩
      have hj : j < l := by have := (List.getElem?_eq_some_iff.1 hx).1; rw [List.length_take] at this; omega
      rw [List.getElem?_take_of_lt hj] at hx
      rw [hc j (by omega), List.getD_eq_getElem?_getD, hx]
      rfl
theorem open_intSS {H : Type} {enc : TypeId × Value → H} {W : World} {a : Option Addr} {len cap fuel : Nat} {x : DataW H × List MemPlace}
    (h : DataW.trod enc Try.prog W 0 (fun _ => true) true fuel 22 [.slice a len cap] = some x) : len ≤ maxLen ∧ ∃ ts : List (List Int), Ts W W.heap.size a len ts ∧ ∀ t ∈ ts, t.length ≤ maxLen := by
  rcases DataW.trod_slice Try.underlying22 h with ⟨hcs, _⟩ | ⟨ad, l, c, elems, rest, n, _, hcs, _, _, hlc, hm, hel, hei, _, _⟩
  · simp at hcs
    obtain ⟨rfl, rfl, rfl⟩ := hcs
    exact ⟨by unfold maxLen; omega, [], ⟨rfl, .inl rfl⟩, by simp⟩
  · simp at hcs
    obtain ⟨rfl, rfl, rfl⟩ := hcs
    refine ⟨by omega, ?_⟩
    have each : ∀ i, i < len → ∃ t : List Int, (∃ (a' : Option Addr) (c' : Nat), W.cell? ((ad.add i).add 0) = some (.slice a' t.length c') ∧ Is W W.heap.size a' t.length t ∧ t.length ≤ c') ∧ t.length ≤ maxLen := by
      intro i hi
      have h1 := hei i hi
      obtain ⟨y, hy⟩ : ∃ y, elems[i]? = some y := ⟨elems[i]'(by omega), List.getElem?_eq_getElem _⟩
      rw [hy, Option.bind_eq_some_iff] at h1
      obtain ⟨cs', hc, ht⟩ := h1
      obtain ⟨a', n', c', ls, rfl, q1, q2, q3⟩ := open_int1 ht
      rw [show Try.prog.cellsOf 45 = 1 by kernel_rfl] at hc
      have hcell := (World.cells?_some hc).2.2
      have hn := q3.1
      subst hn
      refine ⟨ls, ⟨a', c', ?_, q3, q2⟩, q1⟩
      simpa using hcell 0 (by omega)
    by_cases h0 : len = 0
    · subst h0
      exact ⟨[], ⟨rfl, .inl rfl⟩, by simp⟩
    · obtain ⟨f0, ⟨_, _, hc0, _⟩, _⟩ := each 0 (by omega)
      obtain ⟨b, off, spot⟩ := ad
      have hspot : spot = none := by simpa [Addr.add] using World.cell?_spot hc0
      subst hspot
      have hb : b < W.heap.size := by
        have := World.block_lt_of_cell? W _ hc0
        simpa [Addr.add] using this
      obtain ⟨F, hF⟩ := Classical.axiomOfChoice (fun i : Fin len => each i.1 i.2)
      refine ⟨List.ofFn F, ⟨by simp, .inr ⟨b, off, rfl, hb, fun j f hf => ?_⟩⟩, fun f hf => ?_⟩
      · obtain ⟨hj, rfl⟩ := List.getElem?_eq_some_iff.1 hf
        have hj' : j < len := by simpa using hj
        obtain ⟨⟨a', c', c0, c1⟩, _⟩ := hF ⟨j, hj'⟩
        rw [add_plain, add_plain, Nat.add_zero] at c0
        simp only [List.getElem_ofFn]
        exact ⟨a', c', c0, c1⟩
      · obtain ⟨i, rfl⟩ := List.mem_ofFn.1 hf
        exact (hF i).2
set_option maxRecDepth 100000 in
/-- a forest that comes in -/
theorem open_forest {H : Type} {enc : TypeId × Value → H} {W : World} {r : Reach} {base : Nat} {v : Value} {d : DataW H} {p : List MemPlace}
    (hv : Value.okWide Try.prog W r base 24 v) (h : DataW.Trod enc Try.prog W 0 (fun _ => true) true 24 v d p) :
    ∃ (N : Int) (a : Option Addr) (n c : Nat) (ts : List (List Int)), v = .agg #[.int .i64 N, .slice a n c] ∧ (Lit.int .i64 N).wf = true ∧ n ≤ maxLen ∧ Ts W W.heap.size a n ts ∧ ∀ t ∈ ts, t.length ≤ maxLen := by
  obtain ⟨cs, rfl, hcs⟩ := okWide_struct Try.underlying24 hv
  obtain ⟨fuel, hf⟩ := h
  obtain ⟨xs, n, _, _, hl, hlen, hfi⟩ := DataW.trod_struct Try.underlying24 hf
  rw [show Try.prog.cellsOf 24 = 2 by kernel_rfl] at hcs hl
  obtain ⟨l⟩ := cs
  obtain ⟨c0, c1, rfl⟩ := two7 (by simpa using hcs : l.length = 2)
  have ec : (Value.agg (List.toArray [c0, c1])).cells.toList = [c0, c1] := by simp [Value.cells]
  rw [ec] at hfi
  have h0 : DataW.trod enc Try.prog W 0 (fun _ => true) true n 3 (([c0, c1].drop 0).take (Try.prog.cellsOf 3)) = xs[0]? := hfi 0 _ rfl
  have h1 : DataW.trod enc Try.prog W 0 (fun _ => true) true n 22 (([c0, c1].drop 1).take (Try.prog.cellsOf 22)) = xs[1]? := hfi 1 _ rfl
  rw [show Try.prog.cellsOf 3 = 1 by kernel_rfl] at h0
  rw [show Try.prog.cellsOf 22 = 1 by kernel_rfl] at h1
  have g : ∀ i, i < 2 → ∃ z, xs[i]? = some z := fun i hi => ⟨xs[i]'(by simp at hlen; omega), List.getElem?_eq_getElem _⟩
  obtain ⟨z0, e0⟩ := g 0 (by omega)
  obtain ⟨z1, e1⟩ := g 1 (by omega)
  rw [e0] at h0
  rw [e1] at h1
  obtain ⟨k0, hk0, _, w0⟩ := DataW.trod_int Try.underlying3 h0
  simp at hk0
  subst hk0
  have h1' : DataW.trod enc Try.prog W 0 (fun _ => true) true n 22 [c1] = some z1 := by simpa using h1
  rcases DataW.trod_slice Try.underlying22 h1' with ⟨hx, _⟩ | ⟨ad, l, c, _, _, _, _, hx, _⟩
  · simp at hx
    subst hx
    obtain ⟨q1, fs, q2, q3⟩ := open_intSS h1'
    exact ⟨k0, _, _, _, fs, rfl, w0, q1, q2, q3⟩
  · simp at hx
    subst hx
    obtain ⟨q1, fs, q2, q3⟩ := open_intSS h1'
    exact ⟨k0, _, _, _, fs, rfl, w0, q1, q2, q3⟩
theorem open_edge1 {H : Type} {enc : TypeId × Value → H} {W : World} {fuel : Nat} {cs : List Value} {y : DataW H × List MemPlace}
    (h : DataW.trod enc Try.prog W 0 (fun _ => true) true fuel 26 cs = some y) : ∃ f : Int × Int, cs = [.int .i64 f.1, .int .i64 f.2] ∧ ((Lit.int .i64 f.1).wf = true ∧ (Lit.int .i64 f.2).wf = true) := by
  obtain ⟨xs, n, _, _, hl, hlen, hf⟩ := DataW.trod_struct Try.underlying26 h
  rw [show Try.prog.cellsOf 26 = 2 by kernel_rfl] at hl
  obtain ⟨c0, c1, rfl⟩ := two7 hl
  have h0 : DataW.trod enc Try.prog W 0 (fun _ => true) true n 3 (([c0, c1].drop 0).take (Try.prog.cellsOf 3)) = xs[0]? := hf 0 _ rfl
  have h1 : DataW.trod enc Try.prog W 0 (fun _ => true) true n 3 (([c0, c1].drop 1).take (Try.prog.cellsOf 3)) = xs[1]? := hf 1 _ rfl
  rw [show Try.prog.cellsOf 3 = 1 by kernel_rfl] at h0 h1
  have g : ∀ i, i < 2 → ∃ z, xs[i]? = some z := fun i hi => ⟨xs[i]'(by simp at hlen; omega), List.getElem?_eq_getElem _⟩
  obtain ⟨z0, e0⟩ := g 0 (by omega)
  obtain ⟨z1, e1⟩ := g 1 (by omega)
  rw [e0] at h0
  rw [e1] at h1
  obtain ⟨k0, hk0, _, w0⟩ := DataW.trod_int Try.underlying3 h0
  obtain ⟨k1, hk1, _, w1⟩ := DataW.trod_int Try.underlying3 h1
  simp at hk0 hk1
  subst hk0 hk1
  exact ⟨⟨k0, k1⟩, rfl, w0, w1⟩
set_option maxRecDepth 100000 in
/-- an edge that comes in -/
theorem open_edge {H : Type} {enc : TypeId × Value → H} {W : World} {r : Reach} {base : Nat} {v : Value} {d : DataW H} {p : List MemPlace}
    (hv : Value.okWide Try.prog W r base 26 v) (h : DataW.Trod enc Try.prog W 0 (fun _ => true) true 26 v d p) :
    ∃ f : Int × Int, v = .agg #[.int .i64 f.1, .int .i64 f.2] ∧ ((Lit.int .i64 f.1).wf = true ∧ (Lit.int .i64 f.2).wf = true) := by
  obtain ⟨cs, rfl, hcs⟩ := okWide_struct Try.underlying26 hv
  obtain ⟨fuel, hf⟩ := h
  obtain ⟨f, hcs2, hft⟩ := open_edge1 hf
  refine ⟨f, ?_, hft⟩
  have : (Value.agg cs).cells.toList = [.int .i64 f.1, .int .i64 f.2] := hcs2
  obtain ⟨l⟩ := cs
  simp [Value.cells] at this
  rw [this]
end Go.Proofs.Ytcpffonenhhfoab
