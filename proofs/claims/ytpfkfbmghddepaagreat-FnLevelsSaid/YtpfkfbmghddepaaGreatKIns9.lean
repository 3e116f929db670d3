/- The specification's ForestOk. The specification's l07With: tours left out, others put in, all by their least vertices. Draws of an edge. slices.Concat of edges with levels. The specification's l08Put. Edges put in and left out: pure. -/
import Derived.Test.YtpfkfbmghddepaaGreatKLk7
import Derived.Test.YtpfkfbmghddepaaGreatKSVerts
import Derived.Test.YtpfkfbmghddepaaGreatKIFa9
import Derived.Test.YtpfkfbmghddepaaGreatKWb9
import Derived.Test.YtpfkfbmghddepaaGreatKMem6
import Derived.Deep.DeepCutAuto
import Derived.Test.YtpfkfbmghddepaaGreatKLd9
import Derived.Lib.AppendZerosOnto
import Derived.Lib.Walk
import Derived.Lib.SliceRun
import Derived.Laws.AppendOwnNone
import Derived.Deep.AppendLies
namespace Go.Proofs.YtpfkfbmghddepaaGreat
open Go.RowKit

theorem vs_first {t : List Int} (hB : tB t = true) : (vsL t)[0]? = some (mnV t) := by
  have h := vs_pos hB
  have hx : (vsL t)[0]? = some ((vsL t)[0]'h) := List.getElem?_eq_getElem h
  rw [hx, mn_first hx]
theorem Is.at {w : World} {B b off n : Nat} {ls : List Int} (h : Is w B (some ⟨b, off, none⟩) n ls) {j : Nat} {x : Int} (hx : ls[j]? = some x) : w.cell? ⟨b, off + j, none⟩ = some (.int .i64 x) := by
  have hj := (List.getElem?_eq_some_iff.1 hx).1
  have hn := h.1
  rcases h.2 with h0 | ⟨b', off', hb, _, hc⟩
  · omega
  · simp at hb
    obtain ⟨rfl, rfl⟩ := hb
    exact hc j x hx
/-- a list that is not empty stands somewhere -/
theorem own_some {u : World} {B m c : Nat} {a : Option Addr} {xs : List Value} (h : u.ownsRow B 3 1 (.slice a m c) m xs) (hm : 0 < m) : ∃ g, a = some ⟨g, 0, none⟩ ∧ g < u.heap.size ∧ B ≤ g := by
  rcases h.2 with ⟨_, h0⟩ | ⟨g, cap, cur, hv, hrest⟩
  · omega
  · simp at hv
    obtain ⟨rfl, rfl⟩ := hv
    exact ⟨g, rfl, (h.lt g rfl).2, (h.lt g rfl).1⟩

/-- the first of a right tour's vertices -/
theorem vertsFirst {w2 : World} {q : List Int} (hB : tB q = true) (y : Option Addr) (cy : Nat) (hfq : q.length ≤ 3000000) (u : World) (hu : Good w2 u) (h : Is u u.heap.size y q.length q) :
    Calls Tryz.prog 82 #[.slice y q.length cy] u fun e v => ∃ g3 m3 c3, e = .returned (.slice (some ⟨g3, 0, none⟩) m3 c3) ∧ 0 < m3 ∧ v.cell? ⟨g3, 0, none⟩ = some (.int .i64 (mnV q)) ∧ Good w2 v :=
  (sVertsOf_any q q.length y cy hfq u h).mono fun e v ⟨a3, m3, c3, he, ho, hb⟩ => by
    have hm : (vsL q).length = m3 := by have := ho.1; rw [ic_len] at this; omega
    have hp : 0 < m3 := by have := vs_pos hB; omega
    obtain ⟨g, rfl, _, _⟩ := own_some ho hp
    exact ⟨g, m3, c3, he, hp, by rw [ho.cellAt 0 (by omega)]; exact ic_at (vs_first hB), hu.up hb⟩

set_option maxRecDepth 100000 in
set_option maxHeartbeats 8000000 in
theorem sForestOk_any (N : Int) (ts : List (List Int)) (n : Nat) (a : Option Addr) (c : Nat) (hn : n + lnS ts ≤ 1048576) (w : World) (h : Ts w w.heap.size a n ts) :
    Calls Tryz.prog 33 #[.agg #[.int .i64 N, .slice a n c]] w fun e w' => ∃ b, e = .returned (.bool b) ∧ (b = true ↔ FP N ts) ∧ Below w.heap.size w w' := by
  have b0 : Good w (w.alloc (.cells #[.int .i64 N, .slice a n c] 57)) := (Good.refl w).alloc _
  have HI := hideIt l01In_any
  have hlen := h.1
  have HA := hideIt (h.up b0)
  have HB0 := hideIt b0
  clear h b0
  by_cases h1 : 1 ≤ N ∧ N ≤ 12
  · have r1 : decide (1 ≤ N ∧ N ≤ 12) = true := decide_eq_true h1
    obtain ⟨h11, h12⟩ := h1
    by_cases hn12 : n ≤ 12
    · have r2 : decide (12 < (n : Int)) = false := decide_eq_false (by omega)
      have HC0 : Hid (∀ u, Good (w.alloc (.cells #[.int .i64 N, .slice a n c] 57)) u → u.cell? ⟨w.heap.size, 0, none⟩ = some (.int .i64 N) ∧ u.cell? ⟨w.heap.size, 1, none⟩ = some (.slice a n c)) := fun u hu => ⟨by rw [hu.cell (by simp)]; simp, by rw [hu.cell (by simp)]; simp⟩
      go_enter Tryz.func33, Tryz.ntmps33
      go_wp2_with (go_at_call 80; refine (HI.out _ _ _ _).mono ?_; rintro e w1 ⟨rfl, hw⟩; have hw' := hw.symm; subst hw'; clear hw)
      go_loopw [3, 4, 5] (fun al i _v wr => ∃ k s : Nat, k ≤ n ∧ s ≤ 12 * k ∧ i = .int .i64 (k : Int) ∧ al = .int .i64 (s : Int) ∧ Hid (s = cntV ts k) ∧ Hid (∀ j, j < k → FAt N ts j) ∧ Good (w.alloc (.cells #[.int .i64 N, .slice a n c] 57)) wr) (fun _ i _ _ => n - (intOf i).toNat)
      case atStart => exact ⟨0, 0, by omega, by omega, rfl, rfl, by show _ = _; rw [cntV_zero], fun j hj => by omega, Good.refl _⟩
      case round =>
        obtain ⟨k, s, hk, hsk, rfl, rfl, HS, HK, hg⟩ := hrel
        obtain ⟨k0, k1⟩ := HC0.out wr hg
        have HG := hideIt hg
        by_cases hlt : k < n
        · rcases (HA.out.up hg).2 with hz | ⟨b, off, rfl, hbl, hc⟩
          · omega
          · obtain ⟨t, ht⟩ : ∃ t, ts[k]? = some t := ⟨ts[k]'(by omega), List.getElem?_eq_getElem (by omega)⟩
            obtain ⟨x, cx, e0, iI, _⟩ := hc k t ht
            have hfit : t.length ≤ 3000000 := by have := lnS_mem (List.mem_of_getElem? ht); omega
            have b1 : (0 : Int) ≤ (k : Int) := by omega
            have b2 : (k : Int) < (n : Int) := by omega
            have HTO := hideIt (sTourOk_any t t.length x cx hfit wr iI)
            have HIx := hideIt iI
            have HCt := hideIt hc
            cases hB : tB t with
            | false =>
              rw [hB] at HTO
              have HN : Hid (¬ FP N ts) := fun hp => by have := (hp.2.2.2.1 k t ht).1; rw [hB] at this; cases this
              clear hc ht iI hB HK HS
              go_wp2_with (go_at_call 92; refine HTO.out.mono ?_; rintro e w1 ⟨rfl, hb1⟩)
              go_ret
              exact ⟨false, rfl, ⟨fun h => (by cases h), fun h => absurd h HN.out⟩, HB0.out.up (HG.out.up hb1)⟩
            | true =>
              rw [hB] at HTO
              have HBt := hideIt hB
              have HT := hideIt ht
              clear hc ht iI hB
              go_wp2_with (go_at_call 92; refine HTO.out.mono ?_; rintro e w1 ⟨rfl, hb1⟩; refine Hid.out ?_)
              refine (show ∀ {p : Prop}, p → Hid p from fun h => h) ?_
              have hb1 : Good wr w1 := hb1
              have HG1 := hideIt (HG.out.up hb1)
              have e1 : w1.cell? ⟨b, off + k, none⟩ = some (.slice x t.length cx) := by rw [hb1.cell hbl]; exact e0
              obtain ⟨k2, k3⟩ := HC0.out w1 HG1.out
              have HV := hideIt (sVertsOf_any t t.length x cx hfit w1 (HIx.out.up hb1))
              have HCt1 : Hid (∀ u, Good w1 u → ∀ (j : Nat) (q : List Int), ts[j]? = some q → ∃ (a' : Option Addr) (c' : Nat), u.cell? ⟨b, off + j, none⟩ = some (.slice a' q.length c') ∧ Is u u.heap.size a' q.length q ∧ q.length ≤ c') := fun u hu j q hq => by
                obtain ⟨a', c', p1, p2, p3⟩ := HCt.out j q hq
                have hu2 := hb1.up hu
                exact ⟨a', c', by rw [hu2.cell hbl]; exact p1, p2.up hu2, p3⟩
              have hbl1 : b < w1.heap.size := Nat.lt_of_lt_of_le hbl hb1.size
              clear HTO k0 k1 e0 HCt HIx hb1
              go_wp2_with (go_at_call 82; refine HV.out.mono ?_; rintro e w2 ⟨a2, m2, c2, rfl, ho, hb2⟩; refine Hid.out ?_)
              refine (show ∀ {p : Prop}, p → Hid p from fun h => h) ?_
              have hb2 : Good w1 w2 := hb2
              have hm2 : (vsL t).length = m2 := by have := ho.1; rw [ic_len] at this; omega
              have hp2 : 0 < m2 := by have := vs_pos HBt.out; omega
              have hl2 : m2 ≤ 12 := by have := vsL_len t; omega
              obtain ⟨g, rfl, hgl, hgw⟩ := own_some ho hp2
              have HO := hideIt ho
              have HG2 := hideIt (HG1.out.up hb2)
              have HM2 := hideIt hm2
              have HCr : Hid (∀ u, Good w2 u → ∀ (j : Nat) (y : Int), (vsL t)[j]? = some y → u.cell? ⟨g, j, none⟩ = some (.int .i64 y)) := fun u hu j y hy => by
                rw [hu.cell hgl, HO.out.cellAt j (by have := (List.getElem?_eq_some_iff.1 hy).1; omega)]
                exact ic_at hy
              have HCt2 : Hid (∀ u, Good w2 u → ∀ (j : Nat) (q : List Int), ts[j]? = some q → ∃ (a' : Option Addr) (c' : Nat), u.cell? ⟨b, off + j, none⟩ = some (.slice a' q.length c') ∧ Is u u.heap.size a' q.length q ∧ q.length ≤ c') := fun u hu j q hq => HCt1.out u (hb2.up hu) j q hq
              obtain ⟨lst, hlst⟩ : ∃ y, (vsL t)[(vsL t).length - 1]? = some y := ⟨(vsL t)[(vsL t).length - 1]'(by omega), List.getElem?_eq_getElem _⟩
              have HLst := hideIt (vs_last HBt.out (N := N) hlst)
              have l0 := HCr.out w2 (Good.refl w2) _ _ hlst
              rw [hm2] at l0
              have f0 := HCr.out w2 (Good.refl w2) _ _ (vs_first HBt.out)
              obtain ⟨k4, k5⟩ := HC0.out w2 HG2.out
              have x1 : (0 : Int) ≤ (m2 : Int) - 1 := by omega
              have x1b : (1 : Int) ≤ (m2 : Int) := by omega
              have x2 : (m2 : Int) - 1 < (m2 : Int) := by omega
              have x3 : ((m2 : Int) - 1).toNat = m2 - 1 := by omega
              have hbl2 : b < w2.heap.size := Nat.lt_of_lt_of_le hbl1 hb2.size
              clear HV k2 k3 e1 HCt1 ho hb2 hm2 hlst HG HG1
              by_cases hL : lst < N
              · have d1 : decide (N ≤ lst) = false := decide_eq_false (by omega)
                have HLt := hideIt (HLst.out.2 hL)
                clear HLst hL
                have x0 : (0 : Int) < (m2 : Int) := by omega
                rcases k with _ | i
                · have HLess : Hid (∀ j q, j + 1 = 0 → ts[j]? = some q → mnV q < mnV t) := fun j q hj => by omega
                  go_upto_region 11 with fail
                  go_quiet (fail)
                  go_wp2
                  refine wp_loop_rounds 1 ?_
                  rw [rounds_succ]
                  go_wp2
                  refine ⟨⟨1, m2, by omega, by omega, by go_num, by have := HS.out; rw [cntV_zero] at this; subst this; go_num, ?_, fun j hj => ?_, below_drewN HG2.out _⟩, by simp [intOf]; omega⟩
                  · show _ = _
                    rw [cntV_succ HT.out, cntV_zero, HM2.out]
                    omega
                  · obtain rfl : j = 0 := by omega
                    intro t' ht'
                    rw [HT.out] at ht'
                    cases ht'
                    exact ⟨HBt.out, HLt.out, HLess.out, fun q s' hq => by omega⟩
                · obtain ⟨q, hq⟩ : ∃ q, ts[i]? = some q := ⟨ts[i]'(by omega), List.getElem?_eq_getElem (by omega)⟩
                  obtain ⟨y, cy, e1, iQ, _⟩ := HCt2.out w2 (Good.refl w2) i q hq
                  have hBq := (HK.out i (by omega) q hq).1
                  have hfq : q.length ≤ 3000000 := by have := lnS_mem (List.mem_of_getElem? hq); omega
                  have HVq := hideIt (fun u (hu : Good w2 u) => vertsFirst (w2 := w2) hBq y cy hfq u hu (iQ.up hu))
                  have HCS : Hid (∀ u, Good w2 u → (u.cell? ⟨w.heap.size, 0, none⟩ = some (.int .i64 N) ∧ u.cell? ⟨w.heap.size, 1, none⟩ = some (.slice (some ⟨b, off, none⟩) n c)) ∧ (u.cell? ⟨g, m2 - 1, none⟩ = some (.int .i64 lst) ∧ u.cell? ⟨g, 0, none⟩ = some (.int .i64 (mnV t))) ∧ u.cell? ⟨b, off + i, none⟩ = some (.slice y q.length cy)) := fun u hu =>
                    ⟨HC0.out u (HG2.out.up hu), ⟨by rw [hu.cell hgl]; exact l0, by rw [hu.cell hgl]; exact f0⟩, by rw [hu.cell hbl2]; exact e1⟩
                  have hbd := (Good.refl w2).drew
                  have hS0 := HCS.out _ hbd
                  have ek : ((i + 1 : Nat) : Int) = (i : Int) + 1 := by omega
                  rw [ek] at b1 b2
                  have b3 : (0 : Int) ≤ (i : Int) := by omega
                  have b4 : (i : Int) < (n : Int) := by omega
                  have tn : ((i : Int) + 1).toNat = i + 1 := by omega
                  have d0 : decide ((0 : Int) < (i : Int) + 1) = true := decide_eq_true (by omega)
                  have hw1 : IntKind.i64.wrap (i : Int) = (i : Int) := by rw [IntKind.wrap_i64]; omega
                  have hw2 : IntKind.i64.wrap ((m2 : Int) - 1) = (m2 : Int) - 1 := by rw [IntKind.wrap_i64]; omega
                  rw [ek]
                  have HQ := hideIt hq
                  by_cases hLess : mnV q < mnV t
                  · have d2 : decide (mnV t ≤ mnV q) = false := decide_eq_false (by omega)
                    have HLess := hideIt hLess
                    clear ek hq hBq iQ k4 k5 l0 f0 e1 hLess
                    go_upto_region 11 with fail
                    refine wp_region_held_drew (S := (fun u => (u.cell? ⟨w.heap.size, 0, none⟩ = some (.int .i64 N) ∧ u.cell? ⟨w.heap.size, 1, none⟩ = some (.slice (some ⟨b, off, none⟩) n c)) ∧ (u.cell? ⟨g, m2 - 1, none⟩ = some (.int .i64 lst) ∧ u.cell? ⟨g, 0, none⟩ = some (.int .i64 (mnV t))) ∧ u.cell? ⟨b, off + i, none⟩ = some (.slice y q.length cy))) (by kernel_rfl) hS0 (fun hHeld => ?_)
                    refine wpAnyH_take (i := 0) (v := ?_) rfl (by kernel_rfl) (by kernel_rfl) (by kernel_rfl) (fun _ _ _ h => h) (Or.inl ⟨by rfl, ?_⟩) (by assumption) ?_
                    rotate_left
                    · intro w hSw; (try dsimp only at hSw); go_simp; try with_reducible rfl
                    try simp only [Act.put, List.getElem_toArray, List.getElem_cons_zero, List.setIfInBounds_toArray, List.set_cons_zero, List.set_cons_succ]
                    refine wpAnyH_take (i := 1) (v := ?_) rfl (by kernel_rfl) (by kernel_rfl) (by kernel_rfl) (fun _ _ _ h => h) (Or.inl ⟨by rfl, ?_⟩) (by assumption) ?_
                    rotate_left
                    · intro w hSw; (try dsimp only at hSw); go_simp; try with_reducible rfl
                    try simp only [Act.put, List.getElem_toArray, List.getElem_cons_succ, List.getElem_cons_zero, List.setIfInBounds_toArray, List.set_cons_zero, List.set_cons_succ]
                    refine wpAnyH_take (i := 2) (v := ?_) rfl (by kernel_rfl) (by kernel_rfl) (by kernel_rfl) (fun _ _ _ h => h) (Or.inl ⟨by rfl, ?_⟩) (by assumption) ?_
                    rotate_left
                    · intro w hSw; (try dsimp only at hSw); go_simp; try with_reducible rfl
                    try simp only [Act.put, List.getElem_toArray, List.getElem_cons_succ, List.getElem_cons_zero, List.setIfInBounds_toArray, List.set_cons_zero, List.set_cons_succ]
                    refine wpAnyH_take (i := 3) (v := ?_) rfl (by kernel_rfl) (by kernel_rfl) (by kernel_rfl) (fun _ _ _ h => h) (Or.inl ⟨by rfl, ?_⟩) (by assumption) ?_
                    rotate_left
                    · intro w hSw; (try dsimp only at hSw); go_simp; try with_reducible rfl
                    try simp only [Act.put, List.getElem_toArray, List.getElem_cons_succ, List.getElem_cons_zero, List.setIfInBounds_toArray, List.set_cons_zero, List.set_cons_succ]
                    refine wpAnyH_take (i := 4) (v := ?_) rfl (by kernel_rfl) (by kernel_rfl) (by kernel_rfl) (fun _ _ _ h => h) (Or.inl ⟨by rfl, ?_⟩) (by assumption) ?_
                    rotate_left
                    · intro w hSw; (try dsimp only at hSw); go_simp; try with_reducible rfl
                    try simp only [Act.put, List.getElem_toArray, List.getElem_cons_succ, List.getElem_cons_zero, List.setIfInBounds_toArray, List.set_cons_zero, List.set_cons_succ]
                    refine wpAnyH_take (i := 5) (v := ?_) rfl (by kernel_rfl) (by kernel_rfl) (by kernel_rfl) (fun _ _ _ h => h) (Or.inl ⟨by rfl, ?_⟩) (by assumption) ?_
                    rotate_left
                    · intro w hSw; (try dsimp only at hSw); go_simp; try with_reducible rfl
                    try simp only [Act.put, List.getElem_toArray, List.getElem_cons_succ, List.getElem_cons_zero, List.setIfInBounds_toArray, List.set_cons_zero, List.set_cons_succ]
                    refine wpAnyH_take (i := 6) (v := ?_) rfl (by kernel_rfl) (by kernel_rfl) (by kernel_rfl) (fun _ _ _ h => h) (Or.inl ⟨by rfl, ?_⟩) (by assumption) ?_
                    rotate_left
                    · intro w hSw; (try dsimp only at hSw); go_simp; try with_reducible rfl
                    try simp only [Act.put, List.getElem_toArray, List.getElem_cons_succ, List.getElem_cons_zero, List.setIfInBounds_toArray, List.set_cons_zero, List.set_cons_succ]
                    refine wpAnyH_take (i := 7) (v := ?_) rfl (by kernel_rfl) (by kernel_rfl) (by kernel_rfl) (fun _ _ _ h => h) (Or.inl ⟨by rfl, ?_⟩) (by assumption) ?_
                    rotate_left
                    · intro w hSw; (try dsimp only at hSw); go_simp; try with_reducible rfl
                    try simp only [Act.put, List.getElem_toArray, List.getElem_cons_succ, List.getElem_cons_zero, List.setIfInBounds_toArray, List.set_cons_zero, List.set_cons_succ]
                    refine wpAnyH_take (i := 8) (v := ?_) rfl (by kernel_rfl) (by kernel_rfl) (by kernel_rfl) (fun _ _ _ h => h) (Or.inl ⟨by rfl, ?_⟩) (by assumption) ?_
                    rotate_left
                    · intro w hSw; (try dsimp only at hSw); go_simp; try with_reducible rfl
                    try simp only [Act.put, List.getElem_toArray, List.getElem_cons_succ, List.getElem_cons_zero, List.setIfInBounds_toArray, List.set_cons_zero, List.set_cons_succ]
                    refine wpAnyH_take (i := 9) (v := ?_) rfl (by kernel_rfl) (by kernel_rfl) (by kernel_rfl) (fun _ _ _ h => h) (Or.inl ⟨by rfl, ?_⟩) (by assumption) ?_
                    rotate_left
                    · intro w hSw; (try dsimp only at hSw); go_simp; try with_reducible rfl
                    try simp only [Act.put, List.getElem_toArray, List.getElem_cons_succ, List.getElem_cons_zero, List.setIfInBounds_toArray, List.set_cons_zero, List.set_cons_succ]
                    refine wpAnyH_take (i := 10) (v := ?_) rfl (by kernel_rfl) (by kernel_rfl) (by kernel_rfl) (fun _ _ _ h => h) (Or.inl ⟨by rfl, ?_⟩) (by assumption) ?_
                    rotate_left
                    · intro w hSw; (try dsimp only at hSw); go_simp; try with_reducible rfl
                    try simp only [Act.put, List.getElem_toArray, List.getElem_cons_succ, List.getElem_cons_zero, List.setIfInBounds_toArray, List.set_cons_zero, List.set_cons_succ]
                    refine wpAnyH_take (i := 11) (v := ?_) rfl (by kernel_rfl) (by kernel_rfl) (by kernel_rfl) (fun _ _ _ h => h) (Or.inl ⟨by rfl, ?_⟩) (by assumption) ?_
                    rotate_left
                    · intro w hSw; (try dsimp only at hSw); go_simp; try with_reducible rfl
                    try simp only [Act.put, List.getElem_toArray, List.getElem_cons_succ, List.getElem_cons_zero, List.setIfInBounds_toArray, List.set_cons_zero, List.set_cons_succ]
                    refine wpAnyH_take (i := 12) (v := ?_) rfl (by kernel_rfl) (by kernel_rfl) (by kernel_rfl) (fun _ _ _ h => h) (Or.inl ⟨by rfl, ?_⟩) (by assumption) ?_
                    rotate_left
                    · intro w hSw; (try dsimp only at hSw); go_simp; try with_reducible rfl
                    try simp only [Act.put, List.getElem_toArray, List.getElem_cons_succ, List.getElem_cons_zero, List.setIfInBounds_toArray, List.set_cons_zero, List.set_cons_succ]
                    refine wpAnyH_take (i := 13) (v := ?_) rfl (by kernel_rfl) (by kernel_rfl) (by kernel_rfl) (fun _ _ _ h => h) (Or.inl ⟨by rfl, ?_⟩) (by assumption) ?_
                    rotate_left
                    · intro w hSw; (try dsimp only at hSw); go_simp; try with_reducible rfl
                    try simp only [Act.put, List.getElem_toArray, List.getElem_cons_succ, List.getElem_cons_zero, List.setIfInBounds_toArray, List.set_cons_zero, List.set_cons_succ]
                    refine wpAnyH_take (i := 14) (v := ?_) rfl (by kernel_rfl) (by kernel_rfl) (by kernel_rfl) (fun _ _ _ h => h) (Or.inl ⟨by rfl, ?_⟩) (by assumption) ?_
                    rotate_left
                    · intro w hSw; (try dsimp only at hSw); go_simp; try with_reducible rfl
                    try simp only [Act.put, List.getElem_toArray, List.getElem_cons_succ, List.getElem_cons_zero, List.setIfInBounds_toArray, List.set_cons_zero, List.set_cons_succ]
                    refine wpAnyH_take (i := 15) (v := ?_) rfl (by kernel_rfl) (by kernel_rfl) (by kernel_rfl) (fun _ _ _ h => h) (Or.inl ⟨by rfl, ?_⟩) (by assumption) ?_
                    rotate_left
                    · intro w hSw; (try dsimp only at hSw); go_simp; try with_reducible rfl
                    try simp only [Act.put, List.getElem_toArray, List.getElem_cons_succ, List.getElem_cons_zero, List.setIfInBounds_toArray, List.set_cons_zero, List.set_cons_succ]
                    refine wpAnyH_take (i := 16) (v := ?_) rfl (by kernel_rfl) (by kernel_rfl) (by kernel_rfl) (fun _ _ _ h => h) (Or.inl ⟨by rfl, ?_⟩) (by assumption) ?_
                    rotate_left
                    · intro w hSw; (try dsimp only at hSw); go_simp; try with_reducible rfl
                    try simp only [Act.put, List.getElem_toArray, List.getElem_cons_succ, List.getElem_cons_zero, List.setIfInBounds_toArray, List.set_cons_zero, List.set_cons_succ]
                    refine wpAnyH_take (i := 17) (v := ?_) rfl (by kernel_rfl) (by kernel_rfl) (by kernel_rfl) (fun _ _ _ h => h) (Or.inl ⟨by rfl, ?_⟩) (by assumption) ?_
                    rotate_left
                    · intro w hSw; (try dsimp only at hSw); go_simp; try with_reducible rfl
                    try simp only [Act.put, List.getElem_toArray, List.getElem_cons_succ, List.getElem_cons_zero, List.setIfInBounds_toArray, List.set_cons_zero, List.set_cons_succ]
                    refine wpAnyH_take (i := 18) (v := ?_) rfl (by kernel_rfl) (by kernel_rfl) (by kernel_rfl) (fun _ _ _ h => h) (Or.inl ⟨by rfl, ?_⟩) (by assumption) ?_
                    rotate_left
                    · intro w hSw; (try dsimp only at hSw); go_simp; try with_reducible rfl
                    try simp only [Act.put, List.getElem_toArray, List.getElem_cons_succ, List.getElem_cons_zero, List.setIfInBounds_toArray, List.set_cons_zero, List.set_cons_succ]
                    refine wpAnyH_take (i := 22) (v := ?_) rfl (by kernel_rfl) (by kernel_rfl) (by kernel_rfl) (fun _ _ _ h => h) (Or.inl ⟨by rfl, ?_⟩) (by assumption) ?_
                    rotate_left
                    · intro w hSw; (try dsimp only at hSw); go_simp; try with_reducible rfl
                    try simp only [Act.put, List.getElem_toArray, List.getElem_cons_succ, List.getElem_cons_zero, List.setIfInBounds_toArray, List.set_cons_zero, List.set_cons_succ]
                    refine wpAnyH_take (i := 23) (v := ?_) rfl (by kernel_rfl) (by kernel_rfl) (by kernel_rfl) (fun _ _ _ h => h) (Or.inl ⟨by rfl, ?_⟩) (by assumption) ?_
                    rotate_left
                    · intro w hSw; (try dsimp only at hSw); go_simp; try with_reducible rfl
                    try simp only [Act.put, List.getElem_toArray, List.getElem_cons_succ, List.getElem_cons_zero, List.setIfInBounds_toArray, List.set_cons_zero, List.set_cons_succ]
                    refine wpAnyH_take (i := 24) (v := ?_) rfl (by kernel_rfl) (by kernel_rfl) (by kernel_rfl) (fun _ _ _ h => h) (Or.inl ⟨by rfl, ?_⟩) (by assumption) ?_
                    rotate_left
                    · intro w hSw; (try dsimp only at hSw); go_simp; try with_reducible rfl
                    try simp only [Act.put, List.getElem_toArray, List.getElem_cons_succ, List.getElem_cons_zero, List.setIfInBounds_toArray, List.set_cons_zero, List.set_cons_succ]
                    refine wpAnyH_ready (rs := [19]) (by kernel_rfl) (by simp) ?_
                    refine AllReadyH.cons rfl (fun K hK => ?_) AllReadyH.nil
                    go_wp2_with (go_at_call 82; refine (HVq.out _ hbd).mono ?_; rintro e w3 ⟨g3, m3, c3, rfl, hp3, hc3, hg3⟩; have hS3 := HCS.out _ hg3; refine Hid.out ?_)
                    refine (show ∀ {p : Prop}, p → Hid p from fun h => h) ?_
                    refine hK.out _ _ hS3 (fun hHeld => ?_)
                    clear hK K
                    try simp only [Act.put, List.getElem_toArray, List.getElem_cons_succ, List.getElem_cons_zero, List.setIfInBounds_toArray, List.set_cons_zero, List.set_cons_succ]
                    refine wpAnyH_ready (rs := [20]) (by kernel_rfl) (by simp) ?_
                    refine AllReadyH.cons rfl (fun K hK => ?_) AllReadyH.nil
                    go_simp
                    refine hK.out _ _ (by assumption) (fun hHeld => ?_)
                    clear hK K
                    try simp only [Act.put, List.getElem_toArray, List.getElem_cons_succ, List.getElem_cons_zero, List.setIfInBounds_toArray, List.set_cons_zero, List.set_cons_succ]
                    refine wpAnyH_ready (rs := [21]) (by kernel_rfl) (by simp) ?_
                    refine AllReadyH.cons rfl (fun K hK => ?_) AllReadyH.nil
                    go_simp
                    refine hK.out _ _ (by assumption) (fun hHeld => ?_)
                    clear hK K
                    try simp only [Act.put, List.getElem_toArray, List.getElem_cons_succ, List.getElem_cons_zero, List.setIfInBounds_toArray, List.set_cons_zero, List.set_cons_succ]
                    refine wpAnyH_ready (rs := [25]) (by kernel_rfl) (by simp) ?_
                    refine AllReadyH.cons rfl (fun K hK => ?_) AllReadyH.nil
                    go_simp
                    refine hK.out _ _ (by assumption) (fun hHeld => ?_)
                    clear hK K
                    try simp only [Act.put, List.getElem_toArray, List.getElem_cons_succ, List.getElem_cons_zero, List.setIfInBounds_toArray, List.set_cons_zero, List.set_cons_succ]
                    refine wpAnyH_ready (rs := [26]) (by kernel_rfl) (by simp) ?_
                    refine AllReadyH.cons rfl (fun K hK => ?_) AllReadyH.nil
                    go_simp
                    refine hK.out _ _ (by assumption) (fun hHeld => ?_)
                    clear hK K
                    try simp only [Act.put, List.getElem_toArray, List.getElem_cons_succ, List.getElem_cons_zero, List.setIfInBounds_toArray, List.set_cons_zero, List.set_cons_succ]
                    refine wpAnyH_ready (rs := [27]) (by kernel_rfl) (by simp) ?_
                    refine AllReadyH.cons rfl (fun K hK => ?_) AllReadyH.nil
                    go_simp
                    refine hK.out _ _ (by assumption) (fun hHeld => ?_)
                    clear hK K
                    try simp only [Act.put, List.getElem_toArray, List.getElem_cons_succ, List.getElem_cons_zero, List.setIfInBounds_toArray, List.set_cons_zero, List.set_cons_succ]
                    refine wpAnyH_done (by kernel_rfl) ?_ _
                    have HG3 := hideIt hg3
                    clear HVq HCS hS0 hS3 hc3 hp3 hbd hg3
                    go_wp2
                    go_loopw [6] (fun p wq => ∃ p' : Nat, p' ≤ i + 1 ∧ p = .int .i64 (p' : Int) ∧ Hid (∀ j s', j < p' → ts[j]? = some s' → ∀ x ∈ t, x ∉ s') ∧ Good w2 wq) (fun p _ => i + 1 - (intOf p).toNat)
                    case atStart => exact ⟨0, by omega, rfl, fun j s' hj => by omega, HG3.out⟩
                    case round =>
                      obtain ⟨p, hp, rfl, HP, hgq⟩ := hrel
                      clear HG3
                      by_cases hpl : p < i + 1
                      · obtain ⟨s', hs'⟩ : ∃ s', ts[p]? = some s' := ⟨ts[p]'(by omega), List.getElem?_eq_getElem (by omega)⟩
                        have y1 : (p : Int) < (i : Int) + 1 := by omega
                        have y2 : (0 : Int) ≤ (p : Int) := by omega
                        have y3 : (p : Int) < (n : Int) := by omega
                        have HS' := hideIt hs'
                        obtain ⟨z, cz, e4, iZ, _⟩ := HCt2.out _ hgq p s' hs'
                        have HIn := hideIt (fun v u (hu : Good wr u) => l05In_any s' v s'.length z cz (by have := lnS_mem (List.mem_of_getElem? hs'); omega) u (iZ.up hu))
                        have HE4 : Hid (∀ u, Good wr u → u.cell? ⟨b, off + p, none⟩ = some (.slice z s'.length cz)) := fun u hu => by rw [hu.cell (Nat.lt_of_lt_of_le hbl2 hgq.size)]; exact e4
                        have HGq := hideIt hgq
                        clear hs' iZ hgq e4
                        go_wp2
                        go_loopw [7] (fun r wz => ∃ j : Nat, j ≤ m2 ∧ r = .int .i64 (j : Int) ∧ Hid (∀ d x, d < j → (vsL t)[d]? = some x → x ∉ s') ∧ Good wr wz) (fun r _ => m2 - (intOf r).toNat)
                        case atStart => exact ⟨0, by omega, rfl, fun d x hd => by omega, Good.refl _⟩
                        case round =>
                          obtain ⟨j, hj, rfl, HJ, hgz⟩ := hrel
                          by_cases hjl : j < m2
                          · obtain ⟨v, hv⟩ : ∃ v, (vsL t)[j]? = some v := ⟨(vsL t)[j]'(by have := HM2.out; omega), List.getElem?_eq_getElem _⟩
                            have hgz2 := HGq.out.up hgz
                            have c1 := HCr.out _ hgz2 j v hv
                            obtain ⟨k6, k7⟩ := HC0.out _ (HG2.out.up hgz2)
                            have e4 := HE4.out _ hgz
                            have y4 : (0 : Int) ≤ (j : Int) := by omega
                            have y5 : (j : Int) < (m2 : Int) := by omega
                            have HInv := hideIt (fun u (hu : Good wr u) => HIn.out v u (hgz.up hu))
                            have HGz := hideIt hgz
                            have HGz2 := hideIt hgz2
                            by_cases hin : v ∈ s'
                            · rw [decide_eq_true hin] at HInv
                              have HN : Hid (¬ FP N ts) := fun hp => (hp.2.2.2.1 (i + 1) t HT.out).2.2.2 p s' hpl HS'.out v ((vsL_mem t v).1 (List.mem_of_getElem? hv)).2 hin
                              clear hv HJ hin HK HS hgz hgz2 HIn
                              go_wp2
                              go_quiet ((go_at_call 93; exact Calls.quiet_of_same (HInv.out _ (below_drewN (Good.refl _) _))))
                              go_wp2
                              go_ret
                              exact ⟨false, rfl, ⟨fun h => (by cases h), fun h => absurd h HN.out⟩, HB0.out.up (HG2.out.up (below_drewN HGz2.out _))⟩
                            · rw [decide_eq_false hin] at HInv
                              have HJ2 : Hid (∀ d x, d < j + 1 → (vsL t)[d]? = some x → x ∉ s') := fun d x hd hx => by
                                by_cases hdj : d = j
                                · rw [hdj, hv] at hx
                                  cases hx
                                  exact hin
                                · exact HJ.out d x (by omega) hx
                              clear hv HJ hin hgz hgz2 HIn
                              go_wp2
                              go_quiet ((go_at_call 93; exact Calls.quiet_of_same (HInv.out _ (below_drewN (Good.refl _) _))))
                              go_wp2
                              exact ⟨⟨j + 1, by omega, by go_num, HJ2, below_drewN HGz.out _⟩, by simp [intOf]; omega⟩
                          · obtain rfl : j = m2 := by omega
                            have HP2 : Hid (∀ d s2, d < p + 1 → ts[d]? = some s2 → ∀ x ∈ t, x ∉ s2) := fun d s2 hd hs2 x hx => by
                              by_cases hdp : d = p
                              · rw [hdp, HS'.out] at hs2
                                cases hs2
                                obtain ⟨r, hr⟩ := List.mem_iff_getElem?.1 ((vs_mem_of HBt.out).2 hx)
                                exact HJ.out r x (by have := (List.getElem?_eq_some_iff.1 hr).1; have := HM2.out; omega) hr
                              · exact HP.out d s2 (by omega) hs2 x hx
                            clear HJ HP
                            go_wp2
                            exact ⟨⟨p + 1, by omega, by go_num, HP2, HGq.out.up hgz⟩, by simp [intOf]; omega⟩
                      · obtain rfl : p = i + 1 := by omega
                        have HS2 : Hid (s + m2 = cntV ts (i + 1 + 1)) := by show _ = _; rw [cntV_succ HT.out, HM2.out, HS.out]
                        have HK2 : Hid (∀ j, j < i + 1 + 1 → FAt N ts j) := fun j hj => by
                          by_cases hji : j = i + 1
                          · subst hji
                            intro t' ht'
                            rw [HT.out] at ht'
                            cases ht'
                            exact ⟨HBt.out, HLt.out, fun j s' hj hs' => by
                              obtain rfl : j = i := by omega
                              rw [HQ.out] at hs'
                              cases hs'
                              exact HLess.out, fun d s' hd hs' => HP.out d s' hd hs'⟩
                          · exact HK.out j (by omega)
                        clear HP HK HS
                        go_wp2
                        exact ⟨⟨i + 1 + 1, s + m2, by omega, by omega, by go_num, by go_num, HS2, HK2, HG2.out.up hgq⟩, by simp [intOf]; omega⟩
                  · have d2 : decide (mnV t ≤ mnV q) = true := decide_eq_true (by omega)
                    have HN : Hid (¬ FP N ts) := fun hp => hLess ((hp.2.2.2.1 (i + 1) t HT.out).2.2.1 i q rfl hq)
                    clear ek hq hBq iQ k4 k5 l0 f0 e1 hLess HK HS
                    go_upto_region 11 with fail
                    refine wp_region_held_drew (S := (fun u => (u.cell? ⟨w.heap.size, 0, none⟩ = some (.int .i64 N) ∧ u.cell? ⟨w.heap.size, 1, none⟩ = some (.slice (some ⟨b, off, none⟩) n c)) ∧ (u.cell? ⟨g, m2 - 1, none⟩ = some (.int .i64 lst) ∧ u.cell? ⟨g, 0, none⟩ = some (.int .i64 (mnV t))) ∧ u.cell? ⟨b, off + i, none⟩ = some (.slice y q.length cy))) (by kernel_rfl) hS0 (fun hHeld => ?_)
                    refine wpAnyH_take (i := 0) (v := ?_) rfl (by kernel_rfl) (by kernel_rfl) (by kernel_rfl) (fun _ _ _ h => h) (Or.inl ⟨by rfl, ?_⟩) (by assumption) ?_
                    rotate_left
                    · intro w hSw; (try dsimp only at hSw); go_simp; try with_reducible rfl
                    try simp only [Act.put, List.getElem_toArray, List.getElem_cons_zero, List.setIfInBounds_toArray, List.set_cons_zero, List.set_cons_succ]
                    refine wpAnyH_take (i := 1) (v := ?_) rfl (by kernel_rfl) (by kernel_rfl) (by kernel_rfl) (fun _ _ _ h => h) (Or.inl ⟨by rfl, ?_⟩) (by assumption) ?_
                    rotate_left
                    · intro w hSw; (try dsimp only at hSw); go_simp; try with_reducible rfl
                    try simp only [Act.put, List.getElem_toArray, List.getElem_cons_succ, List.getElem_cons_zero, List.setIfInBounds_toArray, List.set_cons_zero, List.set_cons_succ]
                    refine wpAnyH_take (i := 2) (v := ?_) rfl (by kernel_rfl) (by kernel_rfl) (by kernel_rfl) (fun _ _ _ h => h) (Or.inl ⟨by rfl, ?_⟩) (by assumption) ?_
                    rotate_left
                    · intro w hSw; (try dsimp only at hSw); go_simp; try with_reducible rfl
                    try simp only [Act.put, List.getElem_toArray, List.getElem_cons_succ, List.getElem_cons_zero, List.setIfInBounds_toArray, List.set_cons_zero, List.set_cons_succ]
                    refine wpAnyH_take (i := 3) (v := ?_) rfl (by kernel_rfl) (by kernel_rfl) (by kernel_rfl) (fun _ _ _ h => h) (Or.inl ⟨by rfl, ?_⟩) (by assumption) ?_
                    rotate_left
                    · intro w hSw; (try dsimp only at hSw); go_simp; try with_reducible rfl
                    try simp only [Act.put, List.getElem_toArray, List.getElem_cons_succ, List.getElem_cons_zero, List.setIfInBounds_toArray, List.set_cons_zero, List.set_cons_succ]
                    refine wpAnyH_take (i := 4) (v := ?_) rfl (by kernel_rfl) (by kernel_rfl) (by kernel_rfl) (fun _ _ _ h => h) (Or.inl ⟨by rfl, ?_⟩) (by assumption) ?_
                    rotate_left
                    · intro w hSw; (try dsimp only at hSw); go_simp; try with_reducible rfl
                    try simp only [Act.put, List.getElem_toArray, List.getElem_cons_succ, List.getElem_cons_zero, List.setIfInBounds_toArray, List.set_cons_zero, List.set_cons_succ]
                    refine wpAnyH_take (i := 5) (v := ?_) rfl (by kernel_rfl) (by kernel_rfl) (by kernel_rfl) (fun _ _ _ h => h) (Or.inl ⟨by rfl, ?_⟩) (by assumption) ?_
                    rotate_left
                    · intro w hSw; (try dsimp only at hSw); go_simp; try with_reducible rfl
                    try simp only [Act.put, List.getElem_toArray, List.getElem_cons_succ, List.getElem_cons_zero, List.setIfInBounds_toArray, List.set_cons_zero, List.set_cons_succ]
                    refine wpAnyH_take (i := 6) (v := ?_) rfl (by kernel_rfl) (by kernel_rfl) (by kernel_rfl) (fun _ _ _ h => h) (Or.inl ⟨by rfl, ?_⟩) (by assumption) ?_
                    rotate_left
                    · intro w hSw; (try dsimp only at hSw); go_simp; try with_reducible rfl
                    try simp only [Act.put, List.getElem_toArray, List.getElem_cons_succ, List.getElem_cons_zero, List.setIfInBounds_toArray, List.set_cons_zero, List.set_cons_succ]
                    refine wpAnyH_take (i := 7) (v := ?_) rfl (by kernel_rfl) (by kernel_rfl) (by kernel_rfl) (fun _ _ _ h => h) (Or.inl ⟨by rfl, ?_⟩) (by assumption) ?_
                    rotate_left
                    · intro w hSw; (try dsimp only at hSw); go_simp; try with_reducible rfl
                    try simp only [Act.put, List.getElem_toArray, List.getElem_cons_succ, List.getElem_cons_zero, List.setIfInBounds_toArray, List.set_cons_zero, List.set_cons_succ]
                    refine wpAnyH_take (i := 8) (v := ?_) rfl (by kernel_rfl) (by kernel_rfl) (by kernel_rfl) (fun _ _ _ h => h) (Or.inl ⟨by rfl, ?_⟩) (by assumption) ?_
                    rotate_left
                    · intro w hSw; (try dsimp only at hSw); go_simp; try with_reducible rfl
                    try simp only [Act.put, List.getElem_toArray, List.getElem_cons_succ, List.getElem_cons_zero, List.setIfInBounds_toArray, List.set_cons_zero, List.set_cons_succ]
                    refine wpAnyH_take (i := 9) (v := ?_) rfl (by kernel_rfl) (by kernel_rfl) (by kernel_rfl) (fun _ _ _ h => h) (Or.inl ⟨by rfl, ?_⟩) (by assumption) ?_
                    rotate_left
                    · intro w hSw; (try dsimp only at hSw); go_simp; try with_reducible rfl
                    try simp only [Act.put, List.getElem_toArray, List.getElem_cons_succ, List.getElem_cons_zero, List.setIfInBounds_toArray, List.set_cons_zero, List.set_cons_succ]
                    refine wpAnyH_take (i := 10) (v := ?_) rfl (by kernel_rfl) (by kernel_rfl) (by kernel_rfl) (fun _ _ _ h => h) (Or.inl ⟨by rfl, ?_⟩) (by assumption) ?_
                    rotate_left
                    · intro w hSw; (try dsimp only at hSw); go_simp; try with_reducible rfl
                    try simp only [Act.put, List.getElem_toArray, List.getElem_cons_succ, List.getElem_cons_zero, List.setIfInBounds_toArray, List.set_cons_zero, List.set_cons_succ]
                    refine wpAnyH_take (i := 11) (v := ?_) rfl (by kernel_rfl) (by kernel_rfl) (by kernel_rfl) (fun _ _ _ h => h) (Or.inl ⟨by rfl, ?_⟩) (by assumption) ?_
                    rotate_left
                    · intro w hSw; (try dsimp only at hSw); go_simp; try with_reducible rfl
                    try simp only [Act.put, List.getElem_toArray, List.getElem_cons_succ, List.getElem_cons_zero, List.setIfInBounds_toArray, List.set_cons_zero, List.set_cons_succ]
                    refine wpAnyH_take (i := 12) (v := ?_) rfl (by kernel_rfl) (by kernel_rfl) (by kernel_rfl) (fun _ _ _ h => h) (Or.inl ⟨by rfl, ?_⟩) (by assumption) ?_
                    rotate_left
                    · intro w hSw; (try dsimp only at hSw); go_simp; try with_reducible rfl
                    try simp only [Act.put, List.getElem_toArray, List.getElem_cons_succ, List.getElem_cons_zero, List.setIfInBounds_toArray, List.set_cons_zero, List.set_cons_succ]
                    refine wpAnyH_take (i := 13) (v := ?_) rfl (by kernel_rfl) (by kernel_rfl) (by kernel_rfl) (fun _ _ _ h => h) (Or.inl ⟨by rfl, ?_⟩) (by assumption) ?_
                    rotate_left
                    · intro w hSw; (try dsimp only at hSw); go_simp; try with_reducible rfl
                    try simp only [Act.put, List.getElem_toArray, List.getElem_cons_succ, List.getElem_cons_zero, List.setIfInBounds_toArray, List.set_cons_zero, List.set_cons_succ]
                    refine wpAnyH_take (i := 14) (v := ?_) rfl (by kernel_rfl) (by kernel_rfl) (by kernel_rfl) (fun _ _ _ h => h) (Or.inl ⟨by rfl, ?_⟩) (by assumption) ?_
                    rotate_left
                    · intro w hSw; (try dsimp only at hSw); go_simp; try with_reducible rfl
                    try simp only [Act.put, List.getElem_toArray, List.getElem_cons_succ, List.getElem_cons_zero, List.setIfInBounds_toArray, List.set_cons_zero, List.set_cons_succ]
                    refine wpAnyH_take (i := 15) (v := ?_) rfl (by kernel_rfl) (by kernel_rfl) (by kernel_rfl) (fun _ _ _ h => h) (Or.inl ⟨by rfl, ?_⟩) (by assumption) ?_
                    rotate_left
                    · intro w hSw; (try dsimp only at hSw); go_simp; try with_reducible rfl
                    try simp only [Act.put, List.getElem_toArray, List.getElem_cons_succ, List.getElem_cons_zero, List.setIfInBounds_toArray, List.set_cons_zero, List.set_cons_succ]
                    refine wpAnyH_take (i := 16) (v := ?_) rfl (by kernel_rfl) (by kernel_rfl) (by kernel_rfl) (fun _ _ _ h => h) (Or.inl ⟨by rfl, ?_⟩) (by assumption) ?_
                    rotate_left
                    · intro w hSw; (try dsimp only at hSw); go_simp; try with_reducible rfl
                    try simp only [Act.put, List.getElem_toArray, List.getElem_cons_succ, List.getElem_cons_zero, List.setIfInBounds_toArray, List.set_cons_zero, List.set_cons_succ]
                    refine wpAnyH_take (i := 17) (v := ?_) rfl (by kernel_rfl) (by kernel_rfl) (by kernel_rfl) (fun _ _ _ h => h) (Or.inl ⟨by rfl, ?_⟩) (by assumption) ?_
                    rotate_left
                    · intro w hSw; (try dsimp only at hSw); go_simp; try with_reducible rfl
                    try simp only [Act.put, List.getElem_toArray, List.getElem_cons_succ, List.getElem_cons_zero, List.setIfInBounds_toArray, List.set_cons_zero, List.set_cons_succ]
                    refine wpAnyH_take (i := 18) (v := ?_) rfl (by kernel_rfl) (by kernel_rfl) (by kernel_rfl) (fun _ _ _ h => h) (Or.inl ⟨by rfl, ?_⟩) (by assumption) ?_
                    rotate_left
                    · intro w hSw; (try dsimp only at hSw); go_simp; try with_reducible rfl
                    try simp only [Act.put, List.getElem_toArray, List.getElem_cons_succ, List.getElem_cons_zero, List.setIfInBounds_toArray, List.set_cons_zero, List.set_cons_succ]
                    refine wpAnyH_take (i := 22) (v := ?_) rfl (by kernel_rfl) (by kernel_rfl) (by kernel_rfl) (fun _ _ _ h => h) (Or.inl ⟨by rfl, ?_⟩) (by assumption) ?_
                    rotate_left
                    · intro w hSw; (try dsimp only at hSw); go_simp; try with_reducible rfl
                    try simp only [Act.put, List.getElem_toArray, List.getElem_cons_succ, List.getElem_cons_zero, List.setIfInBounds_toArray, List.set_cons_zero, List.set_cons_succ]
                    refine wpAnyH_take (i := 23) (v := ?_) rfl (by kernel_rfl) (by kernel_rfl) (by kernel_rfl) (fun _ _ _ h => h) (Or.inl ⟨by rfl, ?_⟩) (by assumption) ?_
                    rotate_left
                    · intro w hSw; (try dsimp only at hSw); go_simp; try with_reducible rfl
                    try simp only [Act.put, List.getElem_toArray, List.getElem_cons_succ, List.getElem_cons_zero, List.setIfInBounds_toArray, List.set_cons_zero, List.set_cons_succ]
                    refine wpAnyH_take (i := 24) (v := ?_) rfl (by kernel_rfl) (by kernel_rfl) (by kernel_rfl) (fun _ _ _ h => h) (Or.inl ⟨by rfl, ?_⟩) (by assumption) ?_
                    rotate_left
                    · intro w hSw; (try dsimp only at hSw); go_simp; try with_reducible rfl
                    try simp only [Act.put, List.getElem_toArray, List.getElem_cons_succ, List.getElem_cons_zero, List.setIfInBounds_toArray, List.set_cons_zero, List.set_cons_succ]
                    refine wpAnyH_ready (rs := [19]) (by kernel_rfl) (by simp) ?_
                    refine AllReadyH.cons rfl (fun K hK => ?_) AllReadyH.nil
                    go_wp2_with (go_at_call 82; refine (HVq.out _ hbd).mono ?_; rintro e w3 ⟨g3, m3, c3, rfl, hp3, hc3, hg3⟩; have hS3 := HCS.out _ hg3; refine Hid.out ?_)
                    refine (show ∀ {p : Prop}, p → Hid p from fun h => h) ?_
                    refine hK.out _ _ hS3 (fun hHeld => ?_)
                    clear hK K
                    try simp only [Act.put, List.getElem_toArray, List.getElem_cons_succ, List.getElem_cons_zero, List.setIfInBounds_toArray, List.set_cons_zero, List.set_cons_succ]
                    refine wpAnyH_ready (rs := [20]) (by kernel_rfl) (by simp) ?_
                    refine AllReadyH.cons rfl (fun K hK => ?_) AllReadyH.nil
                    go_simp
                    refine hK.out _ _ (by assumption) (fun hHeld => ?_)
                    clear hK K
                    try simp only [Act.put, List.getElem_toArray, List.getElem_cons_succ, List.getElem_cons_zero, List.setIfInBounds_toArray, List.set_cons_zero, List.set_cons_succ]
                    refine wpAnyH_ready (rs := [21]) (by kernel_rfl) (by simp) ?_
                    refine AllReadyH.cons rfl (fun K hK => ?_) AllReadyH.nil
                    go_simp
                    refine hK.out _ _ (by assumption) (fun hHeld => ?_)
                    clear hK K
                    try simp only [Act.put, List.getElem_toArray, List.getElem_cons_succ, List.getElem_cons_zero, List.setIfInBounds_toArray, List.set_cons_zero, List.set_cons_succ]
                    refine wpAnyH_ready (rs := [25]) (by kernel_rfl) (by simp) ?_
                    refine AllReadyH.cons rfl (fun K hK => ?_) AllReadyH.nil
                    go_simp
                    refine hK.out _ _ (by assumption) (fun hHeld => ?_)
                    clear hK K
                    try simp only [Act.put, List.getElem_toArray, List.getElem_cons_succ, List.getElem_cons_zero, List.setIfInBounds_toArray, List.set_cons_zero, List.set_cons_succ]
                    refine wpAnyH_ready (rs := [26]) (by kernel_rfl) (by simp) ?_
                    refine AllReadyH.cons rfl (fun K hK => ?_) AllReadyH.nil
                    go_simp
                    refine hK.out _ _ (by assumption) (fun hHeld => ?_)
                    clear hK K
                    try simp only [Act.put, List.getElem_toArray, List.getElem_cons_succ, List.getElem_cons_zero, List.setIfInBounds_toArray, List.set_cons_zero, List.set_cons_succ]
                    refine wpAnyH_ready (rs := [27]) (by kernel_rfl) (by simp) ?_
                    refine AllReadyH.cons rfl (fun K hK => ?_) AllReadyH.nil
                    go_simp
                    refine hK.out _ _ (by assumption) (fun hHeld => ?_)
                    clear hK K
                    try simp only [Act.put, List.getElem_toArray, List.getElem_cons_succ, List.getElem_cons_zero, List.setIfInBounds_toArray, List.set_cons_zero, List.set_cons_succ]
                    refine wpAnyH_done (by kernel_rfl) ?_ _
                    go_wp2
                    go_ret
                    exact ⟨false, rfl, ⟨fun h => (by cases h), fun h => absurd h HN.out⟩, HB0.out.up (HG2.out.up hg3)⟩
              · have d1 : decide (N ≤ lst) = true := decide_eq_true (by omega)
                have HN : Hid (¬ FP N ts) := fun hp => hL (HLst.out.1 (hp.2.2.2.1 k t HT.out).2.1)
                clear HLst hL HK HS
                go_wp2
                go_quiet (fail)
                go_wp2
                go_ret
                exact ⟨false, rfl, ⟨fun h => (by cases h), fun h => absurd h HN.out⟩, HB0.out.up (below_drewN HG2.out _)⟩
        · obtain rfl : k = n := by omega
          have HE : Hid (((s : Int) == N) = true ↔ FP N ts) := by
            show _ ↔ _
            rw [beq_iff_eq]
            constructor
            · intro hs
              exact ⟨h11, h12, by omega, fun i t ht => HK.out i (by have := (List.getElem?_eq_some_iff.1 ht).1; omega) t ht, by rw [hlen, ← HS.out]; exact hs⟩
            · intro hp
              have := hp.2.2.2.2
              rw [hlen, ← HS.out] at this
              exact this
          clear HK HS
          go_wp2
          go_ret
          exact ⟨_, rfl, HE.out, HB0.out.up hg⟩
    · have r2 : decide (12 < (n : Int)) = true := decide_eq_true (by omega)
      have HN : Hid (¬ FP N ts) := fun hp => by have := hp.2.2.1; omega
      go_enter Tryz.func33, Tryz.ntmps33
      go_wp2_with (go_at_call 80; refine (HI.out _ _ _ _).mono ?_; rintro e w1 ⟨rfl, hw⟩; have hw' := hw.symm; subst hw'; clear hw)
      go_ret
      exact ⟨false, rfl, ⟨fun h => (by cases h), fun h => absurd h HN.out⟩, HB0.out⟩
  · have r1 : decide (1 ≤ N ∧ N ≤ 12) = false := decide_eq_false h1
    have HN : Hid (¬ FP N ts) := fun hp => h1 ⟨hp.1, hp.2.1⟩
    go_enter Tryz.func33, Tryz.ntmps33
    go_wp2_with (go_at_call 80; refine (HI.out _ _ _ _).mono ?_; rintro e w1 ⟨rfl, hw⟩; have hw' := hw.symm; subst hw'; clear hw)
    go_ret
    exact ⟨false, rfl, ⟨fun h => (by cases h), fun h => absurd h HN.out⟩, HB0.out⟩
end Go.Proofs.YtpfkfbmghddepaaGreat
namespace Go.Proofs.YtpfkfbmghddepaaGreat
open Go.RowKit

/-- a header of a row that is new, or of one that was handed in -/
def NewOr (w : World) (bi offi : Nat) (v : Value) : Prop := (∀ b off s n c, v = .slice (some ⟨b, off, s⟩) n c → w.heap.size ≤ b) ∨ ∃ j, w.cell? ⟨bi, offi + j, none⟩ = some v
/-- .. and does not lie in the answer's place -/
def PV (w : World) (bi offi : Nat) (v : Value) : Prop := HdN (w.heap.size + 1) v ∧ NewOr w bi offi v
/-- tours by their least vertices, in the making -/
structure GSt (w9 : World) (X : Value → Prop) (N : Int) (a : Option Addr) (m c : Nat) (cur : List (List Int)) (u : World) : Prop where
  box : Box7 u w9.heap.size 57 (.int .i64 N) (.slice a m c)
  own : ∃ hs, u.ownsRow (w9.heap.size + 1) 44 1 (.slice a m c) m hs ∧ HdT u w9.heap.size hs cur ∧ ∀ v ∈ hs, X v
  bel : Below w9.heap.size w9 u
theorem GSt.up {w9 : World} {X : Value → Prop} {N : Int} {a : Option Addr} {m c : Nat} {cur : List (List Int)} {u v : World} (h : GSt w9 X N a m c cur u) (hb : Below u.heap.size u v) : GSt w9 X N a m c cur v := by
  obtain ⟨hs, h1, h2, h3⟩ := h.own
  exact ⟨h.box.up hb, ⟨hs, own_up h1 hb, h2.below hb h.bel.size, h3⟩, h.bel.trans (hb.mono h.bel.size)⟩
theorem newsW (w : World) (x : Value) : ∀ j u, ([x] : List Value)[j]? = some u → (w.alloc (.cells #[x] 44)).cell? ((⟨w.heap.size, 0, none⟩ : Addr).add j) = some u := by
  intro j u hj
  rcases j with _ | j
  · simp at hj; subst hj; simp [Addr.add]
  · simp at hj
/-- those of the first i with least vertex v -/
theorem flt_take {L : List (List Int)} {i v : Nat} {t : List Int} (h : L[i]? = some t) : (L.take (i + 1)).filter (fun t => decide (mnV t = (v : Int))) = (L.take i).filter (fun t => decide (mnV t = (v : Int))) ++ if mnV t = (v : Int) then [t] else [] := by
  rw [take_snocF L i t h, List.filter_append]
  by_cases hc : mnV t = (v : Int) <;> simp [hc]
theorem srtK_le {L : List (List Int)} {N v i : Nat} (h : ∀ t ∈ L, ∃ j, j < N ∧ mnV t = ((j : Nat) : Int)) (hv : v < N) : (srtK L v ++ (L.take i).filter (fun t => decide (mnV t = (v : Int)))).length ≤ L.length := by
  have h1 := (srtK_perm h).length_eq
  have h2 : ∀ k d, (srtK L k).length ≤ (srtK L (k + d)).length := fun k d => by
    induction d with
    | zero => exact Nat.le_refl _
    | succ d ih =>
      show _ ≤ (srtK L (k + d + 1)).length
      simp only [srtK, List.length_append]
      omega
  have h3 := h2 (v + 1) (N - (v + 1))
  rw [show v + 1 + (N - (v + 1)) = N by omega, h1] at h3
  have h4 : ((L.take i).filter (fun t => decide (mnV t = (v : Int)))).length ≤ (L.filter (fun t => decide (mnV t = (v : Int)))).length := by
    conv => rhs; rw [← List.take_append_drop i L, List.filter_append, List.length_append]
    omega
  simp only [srtK, List.length_append] at h3 ⊢
  omega

/-- what l07With answers, laid into a place of its own -/
theorem with_set {u : World} {lo X : Nat} {a : Option Addr} {m c : Nat} {hs : List Value} {ts : List (List Int)} (h : u.ownsRow lo 44 1 (.slice a m c) m hs ∧ HdT u u.heap.size hs ts) (hX : X < lo) (hn : ∀ v ∈ hs, HdN X v) (v0 v1 : Value) :
    ((u.setCell ⟨X, 0, none⟩ v0).setCell ⟨X, 1, none⟩ v1).ownsRow lo 44 1 (.slice a m c) m hs ∧ HdT ((u.setCell ⟨X, 0, none⟩ v0).setCell ⟨X, 1, none⟩ v1) ((u.setCell ⟨X, 0, none⟩ v0).setCell ⟨X, 1, none⟩ v1).heap.size hs ts :=
  ⟨own_setLow (own_setLow h.1 X 0 v0 hX) X 1 v1 hX, ((h.2.set hn v0 (j := 0)).set hn v1 (j := 1)).mono (by simp [World.setCell])⟩
end Go.Proofs.YtpfkfbmghddepaaGreat
namespace Go.Proofs.YtpfkfbmghddepaaGreat
open Go.RowKit

theorem eB_iff7 (n : Int) (e : EdgeV) : eB n e = true ↔ (1 ≤ n ∧ n ≤ 12 ∧ 0 ≤ e.1 ∧ e.1 < e.2 ∧ e.2 < n) := by unfold eB; rw [decide_eq_true_iff]
theorem Cur.grownX7 {u v : World} {G X : Nat} {a : Option Addr} {len cap : Nat} (h : Cur u G a len cap) (hg : u.grownBy v (some X)) (hX : G ≠ X) : Cur v G a len cap := by
  obtain ⟨i, hh, hi, hG⟩ := h
  have hlt : G < u.heap.size := (Array.getElem?_eq_some_iff.1 hG).1
  exact ⟨i, hh, hi, by rw [hg.block G hlt (by simpa using hX)]; exact hG⟩
/-- below w nothing but the cursor has turned -/
theorem grown_up7 {w u v : World} {G : Nat} (h : w.grownBy u (some G)) (hb : Below w.heap.size u v) : w.grownBy v (some G) :=
  ⟨hb.os.trans h.os, hb.tape.trans h.tape, hb.output.trans h.output, Nat.le_trans h.size hb.size, fun k hk hne => (hb.block k hk).trans (h.block k hk hne)⟩

set_option maxRecDepth 100000 in
set_option maxHeartbeats 4000000 in
theorem l05Edge_any (nn : Nat) (h2 : 2 ≤ nn) (h12 : nn ≤ 12) (w : World) (G : Nat) (a : Option Addr) (len cap : Nat) (hl : len ≤ 1048576) (hcur : Cur w G a len cap) (hcode : Code w G a len) :
    Calls Tryz.prog 65 #[.pointer (some ⟨G, 0, none⟩), .int .i64 (nn : Int)] w fun x w' => ∃ e : EdgeV, Hid (eB (nn : Int) e = true) ∧ x = .returned (.agg #[.int .i64 e.1, .int .i64 e.2]) ∧ Drawn w w' G a len cap := by
  have hb0 : Below w.heap.size w (w.alloc (.cells #[.int .i64 0, .int .i64 0] 28)) := (Below.refl _ _).alloc (Nat.le_refl _) _
  have HB := hideIt (fun (W : World) (hc : Cur W G a len cap) (hd : Code W G a len) => l01Below_any (nn : Int) (by omega) (by omega) W G a len cap hl hc hd)
  have HC0 := hideIt (hcur.up7 hb0)
  have HD0 := hideIt (hcode.up7 hb0)
  have hG := hcur.lt7
  have HCode := hideIt hcode
  have HGr : Hid (w.grownBy (w.alloc (.cells #[.int .i64 0, .int .i64 0] 28)) (some G)) := grown_of_below hb0 _
  have B0 := Box7.new w 28 (.int .i64 0) (.int .i64 0) w.heap.size rfl
  clear hcur hcode hb0
  go_enter Tryz.func65, Tryz.ntmps65
  go_wp2_with (go_at_call 64; refine (HB.out _ HC0.out HD0.out).mono ?_; rintro e w1 ⟨x, hx, rfl, d1⟩; refine Hid.out ?_)
  refine (show ∀ {p : Prop}, p → Hid p from fun h => h) ?_
  have B1 := B0.grown d1.grown (by simp; omega)
  go_wp2_with (go_at_call 64; refine (HB.out _ d1.cur d1.code).mono ?_; rintro e w2 ⟨y, hy, rfl, d2⟩; refine Hid.out ?_)
  refine (show ∀ {p : Prop}, p → Hid p from fun h => h) ?_
  have B2 := B1.grown d2.grown (by simp; omega)
  have D2 := hideIt (d1.trans d2)
  clear B0 B1 d1 d2 HC0 HD0 HB
  have c0 := B2.cell0
  have c1 := B2.cell1
  have f0 := B2.frozen 0
  have f1 := B2.frozen 1
  have HFin : Hid (∀ p q : Int, 0 ≤ p → p < q → q < (nn : Int) → ∃ e : EdgeV, Hid (eB (nn : Int) e = true) ∧ Ending.returned (.agg #[.int .i64 p, .int .i64 q]) = .returned (.agg #[.int .i64 e.1, .int .i64 e.2]) ∧ Drawn w ((w2.setCell ⟨w.heap.size, 0, none⟩ (.int .i64 p)).setCell ⟨w.heap.size, 1, none⟩ (.int .i64 q)) G a len cap) := fun p q hp hpq hq => by
    have hg2 := grownT (grown_set w2 w.heap.size 0 (.int .i64 p)) (grown_set _ w.heap.size 1 (.int .i64 q))
    have hbw : Below w.heap.size w2 ((w2.setCell ⟨w.heap.size, 0, none⟩ (.int .i64 p)).setCell ⟨w.heap.size, 1, none⟩ (.int .i64 q)) := ((Below.refl w.heap.size w2).setCell (p := ⟨w.heap.size, 0, none⟩) (Nat.le_refl _) _).setCell (p := ⟨w.heap.size, 1, none⟩) (Nat.le_refl _) _
    have hgw := grown_up7 (grownT HGr.out D2.out.grown) hbw
    refine ⟨(p, q), (eB_iff7 _ _).2 ⟨by omega, by omega, hp, hpq, hq⟩, rfl, D2.out.cur.grownX7 hg2 (by omega), HCode.out.kept hgw, hgw⟩
  have hx' : x < nn := by omega
  have hy' : y < nn := by omega
  by_cases hxy : x = y
  · subst hxy
    by_cases hx1 : x + 1 < nn
    · have m1 : ((x : Int) + 1) % (nn : Int) = (x : Int) + 1 := Int.emod_eq_of_lt (by omega) (by omega)
      have m2 : ((x : Int) + 1).tmod (nn : Int) = (x : Int) + 1 := by rw [Int.tmod_eq_emod_of_nonneg (by omega)]; exact m1
      have d1 : decide ((x : Int) + 1 < (x : Int)) = false := decide_eq_false (by omega)
      have HF := hideIt (HFin.out (x : Int) ((x : Int) + 1) (by omega) (by omega) (by omega))
      clear HFin
      go_wp2
      obtain ⟨e, he, h3, h4⟩ := HF.out
      exact bodyPost_ret (v := .agg #[.int .i64 (x : Int), .int .i64 ((x : Int) + 1)]) (by simp [results, Tryz.results65, go_sem, c0, c1]) rfl ⟨e, he, h3, h4⟩
    · have hxn : x + 1 = nn := by omega
      have m1 : ((x : Int) + 1) % (nn : Int) = 0 := by rw [show (x : Int) + 1 = (nn : Int) by omega]; exact Int.emod_self
      have m2 : ((x : Int) + 1).tmod (nn : Int) = 0 := by rw [Int.tmod_eq_emod_of_nonneg (by omega)]; exact m1
      have d1 : decide ((0 : Int) < (x : Int)) = true := decide_eq_true (by omega)
      have HF := hideIt (HFin.out 0 (x : Int) (by omega) (by omega) (by omega))
      clear HFin hxn
      go_wp2
      obtain ⟨e, he, h3, h4⟩ := HF.out
      exact bodyPost_ret (v := .agg #[.int .i64 0, .int .i64 (x : Int)]) (by simp [results, Tryz.results65, go_sem, c0, c1]) rfl ⟨e, he, h3, h4⟩
  · have d0 : ((x : Int) == (y : Int)) = false := by simp; omega
    by_cases hlt : x < y
    · have d1 : decide ((y : Int) < (x : Int)) = false := decide_eq_false (by omega)
      have HF := hideIt (HFin.out (x : Int) (y : Int) (by omega) (by omega) (by omega))
      clear HFin
      go_wp2
      obtain ⟨e, he, h3, h4⟩ := HF.out
      exact bodyPost_ret (v := .agg #[.int .i64 (x : Int), .int .i64 (y : Int)]) (by simp [results, Tryz.results65, go_sem, c0, c1]) rfl ⟨e, he, h3, h4⟩
    · have d1 : decide ((y : Int) < (x : Int)) = true := decide_eq_true (by omega)
      have HF := hideIt (HFin.out (y : Int) (x : Int) (by omega) (by omega) (by omega))
      clear HFin
      go_wp2
      obtain ⟨e, he, h3, h4⟩ := HF.out
      exact bodyPost_ret (v := .agg #[.int .i64 (y : Int), .int .i64 (x : Int)]) (by simp [results, Tryz.results65, go_sem, c0, c1]) rfl ⟨e, he, h3, h4⟩

end Go.Proofs.YtpfkfbmghddepaaGreat
namespace Go.Proofs.YtpfkfbmghddepaaGreat
open Go.RowKit

theorem GrowL_zero (w : World) : Calls Tryz.prog 134 #[.slice none 0 0, .int .i64 0] w fun e w' => e = .returned (.slice none 0 0) ∧ w' = w := by
  go_enter Tryz.func134, Tryz.ntmps134
  go_wp2
  go_ret
  exact ⟨rfl, rfl⟩
theorem GrowL_some (n : Nat) (hn0 : 0 < n) (hn : n ≤ 10000000) (w : World) :
    Calls Tryz.prog 134 #[.slice none 0 0, .int .i64 (n : Int)] w fun e w' => ∃ a' c', e = .returned (.slice a' 0 c') ∧ w'.ownsRow w.heap.size 52 4 (.slice a' 0 c') 0 [] ∧ Below w.heap.size w w' := by
  obtain ⟨i0, hi, hz0, hz1, hz2⟩ := info_parts infoIL
  have hold : (Builtin.firstCells i0.size 0 (.slice none 0 0)).run Tryz.prog w.drew = .ok ([] : List Value).toArray w.drew := run_firstCells_none w.drew i0.size 0 0 0
  have hrz : ∀ ty, (Builtin.append_ #[24, 3] ty #[.slice none 0 0, .int .i64 (n : Int)]).run Tryz.prog w = _ := fun ty =>
    Lib.run_append_grow_zeros w 24 3 ty 52 i0 _ .i64 .i64 Tryz.underlying24 Tryz.underlying3 hi hz0 none 0 0 [] hold n hn0 (by rw [hz1]; omega) (by omega) (by omega)
      (by rw [hz2]; omega) (by rw [Nat.zero_add]; exact growslice_fits (by omega) (by rw [hz2]; omega))
  have hGn : 0 + n ≤ grownCap w (0 + n) 0 52 := grownCap_ge w _ _ _
  have hGm : grownCap w (0 + n) 0 52 ≤ maxLen := grownCap_le_maxLen w (0 + n) 0 52 (by unfold maxLen; omega)
  obtain ⟨G, hG⟩ : ∃ G, G = grownCap w (0 + n) 0 52 := ⟨_, rfl⟩
  rw [← hG] at hGn hGm
  have hrz2 : ∀ ty, (Builtin.append_ #[24, 3] ty #[.slice none 0 0, .int .i64 (n : Int)]).run Tryz.prog w = .ok (.slice (some ⟨w.heap.size, 0, none⟩) n G) (w.drew.alloc (.cells (Builtin.zeroCells #[.int .i64 0, .int .i64 0, .int .i64 0, .bool false] n ++ Builtin.zeroCells #[.int .i64 0, .int .i64 0, .int .i64 0, .bool false] (G - n)) 52)) := fun ty => by
    rw [hrz ty, ← hG]
    simp [Value.cells]
  have hsz : (Builtin.zeroCells #[.int .i64 0, .int .i64 0, .int .i64 0, .bool false] n ++ Builtin.zeroCells #[.int .i64 0, .int .i64 0, .int .i64 0, .bool false] (G - n)).size = G * 4 := by
    simp [Builtin.zeroCells]
    omega
  have HO := hideIt (show (w.drew.alloc (.cells (Builtin.zeroCells #[.int .i64 0, .int .i64 0, .int .i64 0, .bool false] n ++ Builtin.zeroCells #[.int .i64 0, .int .i64 0, .int .i64 0, .bool false] (G - n)) 52)).ownsRow w.heap.size 52 4 (.slice (some ⟨w.heap.size, 0, none⟩) 0 G) 0 [] from
    ⟨rfl, .inr ⟨w.heap.size, G, _, rfl, Nat.le_refl _, heap_alloc_new w.drew _, by omega, hGm, hsz, rfl⟩⟩)
  have HB := hideIt (show Below w.heap.size w (w.drew.alloc (.cells (Builtin.zeroCells #[.int .i64 0, .int .i64 0, .int .i64 0, .bool false] n ++ Builtin.zeroCells #[.int .i64 0, .int .i64 0, .int .i64 0, .bool false] (G - n)) 52)) from (Below.refl _ _).drew.alloc (Nat.le_refl _) _)
  generalize (w.drew.alloc (.cells (Builtin.zeroCells #[.int .i64 0, .int .i64 0, .int .i64 0, .bool false] n ++ Builtin.zeroCells #[.int .i64 0, .int .i64 0, .int .i64 0, .bool false] (G - n)) 52)) = W at hrz2 HO HB
  have g1 : (0 : Int) ≤ (G : Int) := by omega
  have d0 : decide ((0 : Int) < (n : Int)) = true := decide_eq_true (by omega)
  have d1 : decide ((n : Int) < 0) = false := decide_eq_false (by omega)
  unfold maxLen at hGm
  clear hrz hold hG hsz
  go_enter Tryz.func134, Tryz.ntmps134
  go_wp2_with (at_builtin; refine Lib.wpList_append_run _ rfl _ _ _ _ rfl _ _ rfl rfl _ _ (hrz2 _) ?_)
  all_goals
    go_ret
    exact ⟨_, _, rfl, HO.out, HB.out⟩
/-- one of the lists that are put together -/
structure PartL where
  a : Option Addr
  m : Nat
  c : Nat
  es : List Ld
/-- the lists stand in block b -/
def PartsL (w : World) (b : Nat) (ps : List PartL) : Prop :=
  b < w.heap.size ∧ ∀ (j : Nat) (p : PartL), ps[j]? = some p → w.cell? ⟨b, j, none⟩ = some (.slice p.a p.m p.c) ∧ Ls w w.heap.size p.a p.m p.es ∧ (p.a = none → p.m = 0 ∧ p.c = 0)
def pLenL (ps : List PartL) : Nat := (ps.map fun p => p.m).sum
def pAllL (ps : List PartL) : List Ld := ps.flatMap fun p => p.es
theorem pLenL_snoc (ps : List PartL) (p : PartL) : pLenL (ps ++ [p]) = pLenL ps + p.m := by simp [pLenL]
theorem pAllL_snoc (ps : List PartL) (p : PartL) : pAllL (ps ++ [p]) = pAllL ps ++ p.es := by simp [pAllL]
theorem pLenL_take (ps : List PartL) (k : Nat) : pLenL (ps.take k) ≤ pLenL ps := by
  have h := congrArg pLenL (List.take_append_drop k ps)
  have e : ∀ a b : List PartL, pLenL (a ++ b) = pLenL a + pLenL b := fun a b => by simp [pLenL]
  rw [e] at h
  omega
theorem pAllL_len {w : World} {b : Nat} {ps : List PartL} (h : PartsL w b ps) (k : Nat) : (pAllL (ps.take k)).length = pLenL (ps.take k) := by
  induction k with
  | zero => simp [pAllL, pLenL]
  | succ k ih =>
    by_cases hk : k < ps.length
    · obtain ⟨p, hp⟩ : ∃ p, ps[k]? = some p := ⟨ps[k], List.getElem?_eq_getElem hk⟩
      rw [take_snocF ps k p hp, pAllL_snoc, pLenL_snoc, List.length_append, ih, (h.2 k p hp).2.1.1]
    · rw [List.take_of_length_le (by omega), ← List.take_of_length_le (by omega : ps.length ≤ k)]; exact ih
theorem Ls.news {w : World} {B b off n : Nat} {ls : List Ld} (h : Ls w B (some ⟨b, off, none⟩) n ls) : ∀ j u, (lcells ls)[j]? = some u → w.cell? ((⟨b, off, none⟩ : Addr).add j) = some u := by
  intro j u hj
  have hl : j < ls.length * 4 := by have := (List.getElem?_eq_some_iff.1 hj).1; rw [lcells_length] at this; exact this
  have hn := h.1
  rcases h.2 with h0 | ⟨b', off', hb, _, hc⟩
  · omega
  · simp at hb
    obtain ⟨rfl, rfl⟩ := hb
    obtain ⟨f, hf⟩ : ∃ f, ls[j / 4]? = some f := ⟨ls[j / 4]'(by omega), List.getElem?_eq_getElem (by omega)⟩
    obtain ⟨c0, c1, c2, c3⟩ := hc _ f hf
    obtain ⟨d0, d1, d2, d3⟩ := lcells_at ls _ f hf
    rw [show ((⟨b, off, none⟩ : Addr).add j) = ⟨b, off + j, none⟩ by by_cases h0 : j = 0 <;> simp [Addr.add, h0]]
    rcases (show j = j / 4 * 4 ∨ j = j / 4 * 4 + 1 ∨ j = j / 4 * 4 + 2 ∨ j = j / 4 * 4 + 3 by omega) with e | e | e | e
    · rw [← e] at d0 c0
      rw [d0] at hj
      rw [c0]
      exact hj
    · rw [← e] at d1
      rw [Nat.add_assoc, ← e] at c1
      rw [d1] at hj
      rw [c1]
      exact hj
    · rw [← e] at d2
      rw [Nat.add_assoc, ← e] at c2
      rw [d2] at hj
      rw [c2]
      exact hj
    · rw [← e] at d3
      rw [Nat.add_assoc, ← e] at c3
      rw [d3] at hj
      rw [c3]
      exact hj
theorem lcells_one {ls : List Ld} : ∀ u ∈ lcells ls, u.oneCell' = true := by
  intro u hu
  simp only [lcells, List.mem_flatMap] at hu
  obtain ⟨e, _, he⟩ := hu
  simp [lcell] at he
  rcases he with rfl | rfl | rfl | rfl <;> rfl
theorem Ls.take {w : World} {B : Nat} {a : Option Addr} {n : Nat} {ls : List Ld} (h : Ls w B a n ls) {k : Nat} (hk : k ≤ n) : Ls w B a k (ls.take k) := by
  have hl := h.1
  refine ⟨by rw [List.length_take]; omega, ?_⟩
  rcases h.2 with h0 | ⟨b, off, ha, hb, hc⟩
  · exact .inl (by omega)
  · refine .inr ⟨b, off, ha, hb, fun j e he => hc j e ?_⟩
    have hj : j < k := by have := (List.getElem?_eq_some_iff.1 he).1; rw [List.length_take] at this; omega
    rw [List.getElem?_take_of_lt hj] at he
    exact he
theorem Ls.drop {w : World} {B b off n : Nat} {ls : List Ld} (h : Ls w B (some ⟨b, off, none⟩) n ls) (k : Nat) (hk : k ≤ n) : Ls w B (some ⟨b, off + k * 4, none⟩) (n - k) (ls.drop k) := by
  have hl := h.1
  refine ⟨by rw [List.length_drop]; omega, ?_⟩
  rcases h.2 with h0 | ⟨b', off', hb, hbl, hc⟩
  · exact .inl (by omega)
  · simp at hb
    obtain ⟨rfl, rfl⟩ := hb
    refine .inr ⟨b, _, rfl, hbl, fun j e he => ?_⟩
    rw [List.getElem?_drop] at he
    have := hc (k + j) e he
    rw [show off + k * 4 + j * 4 = off + (k + j) * 4 by omega]
    exact this
theorem Ls.single {w u : World} {x : Ld} (hu : u = w.alloc (.cells #[.int .i64 x.a, .int .i64 x.b, .int .i64 x.l, .bool x.t] 52)) : Ls u u.heap.size (some ⟨w.heap.size, 0, none⟩) 1 [x] := by
  subst hu
  refine ⟨rfl, .inr ⟨w.heap.size, 0, rfl, by simp, fun j e he => ?_⟩⟩
  rcases j with _ | j
  · simp at he
    subst he
    exact ⟨by simp, by simp, by simp, by simp⟩
  · simp at he
set_option maxRecDepth 100000 in
set_option maxHeartbeats 2000000 in
theorem ConcatL_any (ps : List PartL) (b k0 : Nat) (hk0 : ps.length = k0) (hsm : k0 ≤ 10) (w : World) (h : PartsL w b ps) (hlen : pLenL ps ≤ 3000000) :
    Calls Tryz.prog 69 #[.slice (some ⟨b, 0, none⟩) k0 k0] w fun e w' => ∃ a m c, e = .returned (.slice a m c) ∧ w'.ownsRow w.heap.size 52 4 (.slice a m c) m (lcells (pAllL ps)) ∧ Below w.heap.size w w' := by
  obtain ⟨i0, hi, hz0, hz1, hz2⟩ := info_parts infoIL
  have HP := hideIt h
  have HL := hideIt hlen
  have HK := hideIt hk0
  have hbw := h.1
  clear h hlen hk0
  have HG : Hid (∀ n : Nat, n ≤ 3000000 → Calls Tryz.prog 134 #[.slice none 0 0, .int .i64 (n : Int)] w fun e w' => ∃ a' c', e = .returned (.slice a' 0 c') ∧ w'.ownsRow w.heap.size 52 4 (.slice a' 0 c') 0 [] ∧ Below w.heap.size w w') := fun n hn => by
    by_cases h0 : n = 0
    · subst h0
      exact (GrowL_zero w).mono fun _ _ ⟨he, hw⟩ => ⟨_, _, he, by rw [hw]; exact World.ownsRow_nil _ _ _ _, by rw [hw]; exact Below.refl _ _⟩
    · exact GrowL_some n (by omega) (by omega) w
  go_enter Tryz.func69, Tryz.ntmps69
  go_wp2
  go_loopw [3, 11] (fun s i wr => ∃ (k q : Nat), k ≤ k0 ∧ i = .int .i64 (k : Int) ∧ s = .int .i64 (q : Int) ∧ Hid (q = pLenL (ps.take k)) ∧ q ≤ 3000000 ∧ wr = w) (fun _ i _ => k0 - (intOf i).toNat)
  case atStart => exact ⟨0, 0, by omega, rfl, rfl, by show _ = _; simp [pLenL], by omega, rfl⟩
  case round =>
    obtain ⟨k, q, hk, rfl, rfl, hq, hq1, hw⟩ := hrel
    have hw' := hw.symm
    subst hw'
    clear hw
    by_cases hlt : k < k0
    · obtain ⟨p, hp⟩ : ∃ p, ps[k]? = some p := ⟨ps[k]'(by have := HK.out; omega), List.getElem?_eq_getElem _⟩
      obtain ⟨c0, _, _⟩ := HP.out.2 k p hp
      have HQ : Hid (q + p.m = pLenL (ps.take (k + 1))) := by show _ = _; rw [take_snocF ps k p hp, pLenL_snoc, hq.out]
      have hqm : q + p.m ≤ 3000000 := by have := HQ.out; have := pLenL_take ps (k + 1); have := HL.out; omega
      have b1 : (0 : Int) ≤ (k : Int) := by omega
      have b2 : (k : Int) < (k0 : Int) := by omega
      clear hq hp
      go_wp2
      exact ⟨⟨k + 1, q + p.m, by omega, by go_num, by go_num, HQ, hqm, by first | trivial | rfl⟩, by simp [intOf]; omega⟩
    · obtain rfl : k = k0 := by omega
      have HQ : Hid (q = pLenL ps) := by show _ = _; rw [hq.out, List.take_of_length_le (by have := HK.out; omega)]
      clear hq
      have HG1 := hideIt (HG.out q hq1)
      clear HG
      go_wp2_with (go_at_call 134; refine HG1.out.mono ?_; rintro e w1 ⟨a1, c1, rfl, hown1, hb1⟩; refine Hid.out ?_)
      refine (show ∀ {p : Prop}, p → Hid p from fun h => h) ?_
      clear HG1
      have HO1 := hideIt hown1
      clear hown1
      go_wp2
      go_loopw [6, 27] (fun v i wr => ∃ (j m : Nat) (a' : Option Addr) (c' : Nat), j ≤ k ∧ i = .int .i64 (j : Int) ∧ v = .slice a' m c' ∧ Hid (m = pLenL (ps.take j)) ∧ wr.ownsRow w.heap.size 52 4 (.slice a' m c') m (lcells (pAllL (ps.take j))) ∧ Below w.heap.size w wr) (fun _ i _ => k - (intOf i).toNat)
      case atStart => exact ⟨0, 0, a1, c1, by omega, rfl, rfl, by show _ = _; simp [pLenL], by simpa [pAllL, lcells] using HO1.out, hb1⟩
      case round =>
        obtain ⟨j, m, a', c', hj, rfl, rfl, hm, hown, hb⟩ := hrel
        by_cases hlt2 : j < k
        · obtain ⟨p, hp⟩ : ∃ p, ps[j]? = some p := ⟨ps[j]'(by have := HK.out; omega), List.getElem?_eq_getElem _⟩
          obtain ⟨c0, hes, hnil⟩ := HP.out.2 j p hp
          have c1 : wr.cell? ⟨b, j, none⟩ = some (.slice p.a p.m p.c) := by rw [hb.cell hbw]; exact c0
          have HM : Hid (m + p.m = pLenL (ps.take (j + 1))) := by show _ = _; rw [take_snocF ps j p hp, pLenL_snoc, hm.out]
          have HA : Hid (lcells (pAllL (ps.take (j + 1))) = lcells (pAllL (ps.take j)) ++ lcells p.es) := by show _ = _; rw [take_snocF ps j p hp, pAllL_snoc, lcells_append]
          have hmp : m + p.m ≤ 3000000 := by have := HM.out; have := pLenL_take ps (j + 1); have := HL.out; omega
          have b1 : (0 : Int) ≤ (j : Int) := by omega
          have b2 : (j : Int) < (k : Int) := by omega
          have hesw := (hes.below hb (Nat.le_refl _)).mono hb.size
          have hl2 : (lcells p.es).length = p.m * 4 := by rw [lcells_length, hes.1]
          obtain ⟨pa, pm, pc, pes⟩ := p
          dsimp only at *
          clear hm hp c0 hes
          cases pa with
          | none =>
            obtain ⟨rfl, rfl⟩ := hnil rfl
            have HO2 : Hid (wr.ownsRow w.heap.size 52 4 (.slice a' m c') m (lcells (pAllL (ps.take (j + 1))))) := by
              have e0 : pes = [] := List.length_eq_zero_iff.1 hesw.1
              show World.ownsRow _ _ _ _ _ _ _
              rw [HA.out, e0]
              simpa [lcells] using hown
            clear hnil
            go_wp2_with (at_builtin; refine wpList_append_own_none rfl _ _ 24 rfl w.heap.size 52 i0 4 Tryz.underlying24 hi _ _ _ rfl hown rfl ?_)
            exact ⟨⟨j + 1, m, a', c', by omega, by go_num, rfl, HM, HO2.out, hb⟩, by simp [intOf]; omega⟩
          | some ad =>
            have hnews : ∀ q u, (lcells pes)[q]? = some u → wr.cell? (ad.add q) = some u := by
              rcases hesw.2 with h0 | ⟨bb, oo, hbb, _⟩
              · intro q u hq
                have e0 : pes = [] := List.length_eq_zero_iff.1 (by rw [hesw.1]; exact h0)
                rw [e0] at hq
                simp [lcells] at hq
              · simp at hbb
                subst hbb
                exact hesw.news
            clear hnil
            go_wp2_with (at_builtin; refine wpList_append_own _ rfl _ _ 24 rfl w.heap.size 52 i0 _ 4 32 Tryz.underlying24 hi hz0 hz1 hz2 rfl (by decide) _ _ _ rfl hown ad pm pc (lcells pes) rfl hl2 hnews lcells_one (by unfold maxLen; omega) (by omega) hb.size ?_)
            intro v1 w1 hown1 hg1 hn1
            have hb1 : Below w.heap.size w w1 := hb.grown hg1 hb.size (fun q hq => (hown.lt q hq).1)
            rw [← HA.out] at hown1
            obtain ⟨a2, c2, rfl⟩ := own_form hown1
            have HO2 := hideIt hown1
            clear hown1 hown hg1 hn1 hnews
            go_wp2
            exact ⟨⟨j + 1, m + pm, a2, c2, by omega, by go_num, rfl, HM, HO2.out, hb1⟩, by simp [intOf]; omega⟩
        · obtain rfl : j = k := by omega
          have e : ps.take j = ps := List.take_of_length_le (by have := HK.out; omega)
          rw [e] at hown
          have HO2 := hideIt hown
          clear hown e hm
          go_wp2
          go_ret
          exact ⟨a', m, c', rfl, HO2.out, hb⟩
end Go.Proofs.YtpfkfbmghddepaaGreat
namespace Go.Proofs.YtpfkfbmghddepaaGreat
open Go.RowKit

/-- one more edge in its place -/
def putL (ls : List Ld) (x : Ld) : List Ld := ls.filter (fun d => lt d.e x.e) ++ [x] ++ ls.filter (fun d => lt x.e d.e)
/-- the world behind the edge's box -/
def wX (w : World) (x : Ld) : World := w.alloc (.cells #[.int .i64 x.a, .int .i64 x.b, .int .i64 x.l, .bool x.t] 52)
theorem wX_size (w : World) (x : Ld) : (wX w x).heap.size = w.heap.size + 1 := by simp [wX]
structure PutL (w : World) (x : Ld) (a : Option Addr) (m c : Nat) (gs : List Ld) (u : World) : Prop where
  own : u.ownsRow (w.heap.size + 1) 52 4 (.slice a m c) m (lcells gs)
  bel : Below (w.heap.size + 1) (wX w x) u
theorem PutL.size {w : World} {x : Ld} {a : Option Addr} {m c : Nat} {gs : List Ld} {u : World} (h : PutL w x a m c gs u) : w.heap.size + 1 ≤ u.heap.size := by have := h.bel.size; rw [wX_size] at this; exact this
theorem PutL.below {w : World} {x : Ld} {a : Option Addr} {m c : Nat} {gs : List Ld} {u : World} (h : PutL w x a m c gs u) : Below w.heap.size w u :=
  ((Below.refl w.heap.size w).alloc (Nat.le_refl _) _).trans (h.bel.mono (by omega))
theorem PutL.up {w : World} {x : Ld} {a : Option Addr} {m c : Nat} {gs : List Ld} {u v : World} (h : PutL w x a m c gs u) (hb : Below u.heap.size u v) : PutL w x a m c gs v := ⟨own_up h.own hb, h.bel.trans (hb.mono h.size)⟩
theorem PutL.box {w : World} {x : Ld} {a : Option Addr} {m c : Nat} {gs : List Ld} {u : World} (h : PutL w x a m c gs u) : LdAt u w.heap.size 0 x := by
  have h0 : LdAt (wX w x) w.heap.size 0 x := ⟨by simp [wX], by simp [wX], by simp [wX], by simp [wX]⟩
  exact h0.below h.bel (by omega)
theorem PutL.app {w : World} {x : Ld} {a : Option Addr} {m c : Nat} {gs : List Ld} {u : World} (h : PutL w x a m c gs u) {y : Ld} {o : Obj} {v : Value} {u' : World}
    (ho : u'.ownsRow (w.heap.size + 1) 52 4 v (m + 1) (lcells gs ++ [.int .i64 y.a, .int .i64 y.b, .int .i64 y.l, .bool y.t])) (hg : (u.alloc o).grownBy u' (Value.slice a m c).ownBlock) :
    ∃ a' c', v = .slice a' (m + 1) c' ∧ PutL w x a' (m + 1) c' (gs ++ [y]) u' := by
  obtain ⟨a', c', rfl⟩ := own_form ho
  rw [← lcells_snoc] at ho
  refine ⟨a', c', rfl, ho, ?_⟩
  exact (h.bel.alloc h.size _).grown hg (by have := h.size; simp; omega) (fun j hj => (h.own.lt j hj).1)
theorem newsL (w : World) (y : Ld) : ∀ j u, ([Value.int .i64 y.a, Value.int .i64 y.b, Value.int .i64 y.l, Value.bool y.t] : List Value)[j]? = some u → (w.alloc (.cells #[.int .i64 y.a, .int .i64 y.b, .int .i64 y.l, .bool y.t] 52)).cell? ((⟨w.heap.size, 0, none⟩ : Addr).add j) = some u := by
  intro j u hj
  rcases j with _ | _ | _ | _ | j
  · simp at hj; subst hj; simp [Addr.add]
  · simp at hj; subst hj; simp [Addr.add]
  · simp at hj; subst hj; simp [Addr.add]
  · simp at hj; subst hj; simp [Addr.add]
  · simp at hj
theorem lt_cases (d e : EdgeV) : (d.1 < e.1 ∧ lt d e = true) ∨ (¬ d.1 < e.1 ∧ d.1 = e.1 ∧ d.2 < e.2 ∧ lt d e = true) ∨ (¬ d.1 < e.1 ∧ d.1 = e.1 ∧ ¬ d.2 < e.2 ∧ lt d e = false) ∨ (¬ d.1 < e.1 ∧ d.1 ≠ e.1 ∧ lt d e = false) := by
  have hf : ¬ (d.1 < e.1 ∨ d.1 = e.1 ∧ d.2 < e.2) → lt d e = false := fun h => by
    cases h2 : lt d e with
    | false => rfl
    | true => exact absurd ((lt_iff d e).1 h2) h
  by_cases h1 : d.1 < e.1
  · exact .inl ⟨h1, (lt_iff d e).2 (.inl h1)⟩
  · by_cases h2 : d.1 = e.1
    · by_cases h3 : d.2 < e.2
      · exact .inr (.inl ⟨h1, h2, h3, (lt_iff d e).2 (.inr ⟨h2, h3⟩)⟩)
      · exact .inr (.inr (.inl ⟨h1, h2, h3, hf (by omega)⟩))
    · exact .inr (.inr (.inr ⟨h1, h2, hf (by omega)⟩))

set_option maxRecDepth 100000 in
set_option maxHeartbeats 8000000 in
theorem l08Put_any (ls : List Ld) (x : Ld) (n : Nat) (a : Option Addr) (c : Nat) (hn : n ≤ 1048576) (w : World) (h : Ls w w.heap.size a n ls) :
    Calls Tryz.prog 168 #[.slice a n c, .agg #[.int .i64 x.a, .int .i64 x.b, .int .i64 x.l, .bool x.t]] w fun e w' => ∃ a' m' c', e = .returned (.slice a' m' c') ∧ w'.ownsRow w.heap.size 52 4 (.slice a' m' c') m' (lcells (putL ls x)) ∧ Below w.heap.size w w' := by
  obtain ⟨i0, hi, hz0, hz1, hz2⟩ := info_parts infoIL
  have HR := hideIt h
  have hlen := h.1
  clear h
  go_enter Tryz.func168, Tryz.ntmps168
  go_wp2
  go_loopw [5, 6] (fun v i wr => ∃ (k m' : Nat) (a' : Option Addr) (c' : Nat) (gs : List Ld), k ≤ n ∧ i = .int .i64 (k : Int) ∧ v = .slice a' m' c' ∧ m' ≤ k ∧ Hid (gs = (ls.take k).filter (fun d => lt d.e x.e)) ∧ PutL w x a' m' c' gs wr) (fun _ i _ => n - (intOf i).toNat)
  case atStart =>
    refine ⟨0, 0, _, _, [], by omega, rfl, rfl, by omega, by show _ = _; simp, ?_, ?_⟩
    · have h0 := World.ownsRow_lit (base := w.heap.size + 1) (e := 52) (size := 4) (wX w x) #[] 0 (by rw [wX_size]; omega) (by unfold maxLen; omega) (by simp)
      rw [wX_size] at h0
      simpa [lcells, wX] using h0
    · have h1 := (Below.refl (w.heap.size + 1) (wX w x)).alloc (by rw [wX_size]; omega) (.cells #[] 52)
      simpa [wX] using h1
  case round =>
    obtain ⟨k, m', a', c', gs, hk, rfl, rfl, hm, hgs, hst⟩ := hrel
    by_cases hlt : k < n
    · obtain ⟨b, off, f, rfl, hbl, hfk, hat⟩ := (HR.out.below hst.below (Nat.le_refl _)).at hlt
      have e0 := hat.ca
      have e1 := hat.cb
      have e2 := hat.cl
      have e3 := hat.ct
      have x0 := hst.box.ca
      have x1 := hst.box.cb
      rw [Nat.zero_add] at x1
      have b1 : (0 : Int) ≤ (k : Int) := by omega
      have b2 : (k : Int) < (n : Int) := by omega
      have HTk := hideIt (take_snocF ls k f hfk)
      have z1 := hst.size
      have HST := hideIt hst
      clear hfk hat hst
      rcases lt_cases f.e x.e with ⟨p1, hL⟩ | ⟨p1, p2, p3, hL⟩ | ⟨p1, p2, p3, hL⟩ | ⟨p1, p2, hL⟩
      · simp only [Ld.e] at p1
        have d1 : decide (f.a < x.a) = true := decide_eq_true p1
        have HG2 : Hid (gs ++ [f] = (ls.take (k + 1)).filter (fun d => lt d.e x.e)) := by
          show _ = _
          rw [HTk.out, List.filter_append, hgs.out]
          simp [hL]
        clear hL hgs
        go_wp2
        go_quiet (fail)
        go_wp2_with (at_builtin; refine wpList_append_own _ rfl _ _ 24 rfl (w.heap.size + 1) 52 i0 _ 4 32 Tryz.underlying24 hi hz0 hz1 hz2 rfl (by decide) _ _ _ rfl ((HST.out.up (below_drewN (Below.refl _ _) _)).own.alloc _) ⟨_, 0, none⟩ 1 1 [.int .i64 f.a, .int .i64 f.b, .int .i64 f.l, .bool f.t] rfl rfl (newsL _ _) (by intro u hu; simp at hu; rcases hu with rfl | rfl | rfl | rfl <;> rfl) (by unfold maxLen; omega) (by omega) (by simp; omega) ?_)
        intro v2 w2 hown2 hg2 hn2
        obtain ⟨a2, c2, rfl, hst2⟩ := (HST.out.up (below_drewN (Below.refl _ _) _)).app hown2 hg2
        have HS2 := hideIt hst2
        clear hown2 hg2 hn2 hst2
        go_wp2
        exact ⟨⟨k + 1, m' + 1, a2, c2, gs ++ [f], by omega, by go_num, rfl, by omega, HG2, HS2.out⟩, by simp [intOf]; omega⟩
      · simp only [Ld.e] at p1 p2 p3
        have d1 : decide (f.a < x.a) = false := decide_eq_false p1
        have d2 : (f.a == x.a) = true := by simpa using p2
        have d3 : decide (f.b < x.b) = true := decide_eq_true p3
        have HP := hideIt p2
        clear p2
        have HG2 : Hid (gs ++ [f] = (ls.take (k + 1)).filter (fun d => lt d.e x.e)) := by
          show _ = _
          rw [HTk.out, List.filter_append, hgs.out]
          simp [hL]
        clear hL hgs
        go_wp2
        go_quiet (fail)
        go_wp2_with (at_builtin; refine wpList_append_own _ rfl _ _ 24 rfl (w.heap.size + 1) 52 i0 _ 4 32 Tryz.underlying24 hi hz0 hz1 hz2 rfl (by decide) _ _ _ rfl ((HST.out.up (below_drewN (Below.refl _ _) _)).own.alloc _) ⟨_, 0, none⟩ 1 1 [.int .i64 f.a, .int .i64 f.b, .int .i64 f.l, .bool f.t] rfl rfl (newsL _ _) (by intro u hu; simp at hu; rcases hu with rfl | rfl | rfl | rfl <;> rfl) (by unfold maxLen; omega) (by omega) (by simp; omega) ?_)
        intro v2 w2 hown2 hg2 hn2
        obtain ⟨a2, c2, rfl, hst2⟩ := (HST.out.up (below_drewN (Below.refl _ _) _)).app hown2 hg2
        have HS2 := hideIt hst2
        clear hown2 hg2 hn2 hst2
        go_wp2
        exact ⟨⟨k + 1, m' + 1, a2, c2, gs ++ [f], by omega, by go_num, rfl, by omega, HG2, HS2.out⟩, by simp [intOf]; omega⟩
      · simp only [Ld.e] at p1 p2 p3
        have d1 : decide (f.a < x.a) = false := decide_eq_false p1
        have d2 : (f.a == x.a) = true := by simpa using p2
        have d3 : decide (f.b < x.b) = false := decide_eq_false p3
        have HP := hideIt p2
        clear p2
        have HG2 : Hid (gs = (ls.take (k + 1)).filter (fun d => lt d.e x.e)) := by
          show _ = _
          rw [HTk.out, List.filter_append, hgs.out]
          simp [hL]
        clear hL hgs
        go_wp2
        go_quiet (fail)
        go_wp2
        exact ⟨⟨k + 1, m', a', c', gs, by omega, by go_num, rfl, by omega, HG2, HST.out.up (below_drewN (Below.refl _ _) _)⟩, by simp [intOf]; omega⟩
      · simp only [Ld.e] at p1 p2
        have d1 : decide (f.a < x.a) = false := decide_eq_false p1
        have d2 : (f.a == x.a) = false := by simpa using p2
        have HG2 : Hid (gs = (ls.take (k + 1)).filter (fun d => lt d.e x.e)) := by
          show _ = _
          rw [HTk.out, List.filter_append, hgs.out]
          simp [hL]
        clear hL hgs
        go_wp2
        go_quiet (fail)
        go_wp2
        exact ⟨⟨k + 1, m', a', c', gs, by omega, by go_num, rfl, by omega, HG2, HST.out.up (below_drewN (Below.refl _ _) _)⟩, by simp [intOf]; omega⟩
    · obtain rfl : k = n := by omega
      have HG : Hid (gs ++ [x] = ls.filter (fun d => lt d.e x.e) ++ [x]) := by show _ = _; rw [hgs.out, List.take_of_length_le (by omega)]
      have x0 := hst.box.ca
      have x1 := hst.box.cb
      have x2 := hst.box.cl
      have x3 := hst.box.ct
      rw [Nat.zero_add] at x1 x2 x3
      have z1 := hst.size
      have HST := hideIt hst
      clear hgs hst
      go_wp2_with (at_builtin; refine wpList_append_own _ rfl _ _ 24 rfl (w.heap.size + 1) 52 i0 _ 4 32 Tryz.underlying24 hi hz0 hz1 hz2 rfl (by decide) _ _ _ rfl (HST.out.own.alloc _) ⟨wr.heap.size, 0, none⟩ 1 1 [.int .i64 x.a, .int .i64 x.b, .int .i64 x.l, .bool x.t] rfl rfl (newsL _ _) (by intro u hu; simp at hu; rcases hu with rfl | rfl | rfl | rfl <;> rfl) (by unfold maxLen; omega) (by omega) (by simp; omega) ?_)
      intro v2 w2 hown2 hg2 hn2
      obtain ⟨a2, c2, rfl, hst2⟩ := HST.out.app hown2 hg2
      have hmk : m' + 1 ≤ k + 1 := by omega
      generalize m' + 1 = m3 at hst2 hmk
      generalize gs ++ [x] = g0 at HG hst2
      have HST2 := hideIt hst2
      clear hown2 hg2 hn2 x0 x1 x2 x3 HST hst2
      go_wp2
      go_loopw [5, 7] (fun v i wr => ∃ (q m' : Nat) (a' : Option Addr) (c' : Nat) (gs : List Ld), q ≤ k ∧ i = .int .i64 (q : Int) ∧ v = .slice a' m' c' ∧ m' ≤ k + 1 + q ∧ Hid (gs = g0 ++ (ls.take q).filter (fun d => lt x.e d.e)) ∧ PutL w x a' m' c' gs wr) (fun _ i _ => k - (intOf i).toNat)
      case atStart => exact ⟨0, m3, a2, c2, g0, by omega, rfl, rfl, by omega, by show _ = _; simp, HST2.out⟩
      case round =>
        obtain ⟨q, m', a', c', gs, hq, rfl, rfl, hm, hgs, hst⟩ := hrel
        clear HST2
        by_cases hlt : q < k
        · obtain ⟨b, off, f, rfl, hbl, hfk, hat⟩ := (HR.out.below hst.below (Nat.le_refl _)).at (show q < k from hlt)
          have e0 := hat.ca
          have e1 := hat.cb
          have e2 := hat.cl
          have e3 := hat.ct
          have x0 := hst.box.ca
          have x1 := hst.box.cb
          rw [Nat.zero_add] at x1
          have b1 : (0 : Int) ≤ (q : Int) := by omega
          have b2 : (q : Int) < (k : Int) := by omega
          have HTk := hideIt (take_snocF ls q f hfk)
          have z1 := hst.size
          have HST := hideIt hst
          clear hfk hat hst
          rcases lt_cases x.e f.e with ⟨p1, hL⟩ | ⟨p1, p2, p3, hL⟩ | ⟨p1, p2, p3, hL⟩ | ⟨p1, p2, hL⟩
          · simp only [Ld.e] at p1
            have d1 : decide (x.a < f.a) = true := decide_eq_true p1
            have HG2 : Hid (gs ++ [f] = g0 ++ (ls.take (q + 1)).filter (fun d => lt x.e d.e)) := by
              show _ = _
              rw [HTk.out, List.filter_append, hgs.out]
              simp [hL]
            clear hL hgs
            go_wp2
            go_quiet (fail)
            go_wp2_with (at_builtin; refine wpList_append_own _ rfl _ _ 24 rfl (w.heap.size + 1) 52 i0 _ 4 32 Tryz.underlying24 hi hz0 hz1 hz2 rfl (by decide) _ _ _ rfl ((HST.out.up (below_drewN (Below.refl _ _) _)).own.alloc _) ⟨_, 0, none⟩ 1 1 [.int .i64 f.a, .int .i64 f.b, .int .i64 f.l, .bool f.t] rfl rfl (newsL _ _) (by intro u hu; simp at hu; rcases hu with rfl | rfl | rfl | rfl <;> rfl) (by unfold maxLen; omega) (by omega) (by simp; omega) ?_)
            intro v2 w2 hown2 hg2 hn2
            obtain ⟨a2, c2, rfl, hst2⟩ := (HST.out.up (below_drewN (Below.refl _ _) _)).app hown2 hg2
            have HS2 := hideIt hst2
            clear hown2 hg2 hn2 hst2
            go_wp2
            exact ⟨⟨q + 1, m' + 1, a2, c2, gs ++ [f], by omega, by go_num, rfl, by omega, HG2, HS2.out⟩, by simp [intOf]; omega⟩
          · simp only [Ld.e] at p1 p2 p3
            have d1 : decide (x.a < f.a) = false := decide_eq_false p1
            have d2 : (f.a == x.a) = true := by simpa using p2.symm
            have d3 : decide (x.b < f.b) = true := decide_eq_true p3
            have HP := hideIt p2
            clear p2
            have HG2 : Hid (gs ++ [f] = g0 ++ (ls.take (q + 1)).filter (fun d => lt x.e d.e)) := by
              show _ = _
              rw [HTk.out, List.filter_append, hgs.out]
              simp [hL]
            clear hL hgs
            go_wp2
            go_quiet (fail)
            go_wp2_with (at_builtin; refine wpList_append_own _ rfl _ _ 24 rfl (w.heap.size + 1) 52 i0 _ 4 32 Tryz.underlying24 hi hz0 hz1 hz2 rfl (by decide) _ _ _ rfl ((HST.out.up (below_drewN (Below.refl _ _) _)).own.alloc _) ⟨_, 0, none⟩ 1 1 [.int .i64 f.a, .int .i64 f.b, .int .i64 f.l, .bool f.t] rfl rfl (newsL _ _) (by intro u hu; simp at hu; rcases hu with rfl | rfl | rfl | rfl <;> rfl) (by unfold maxLen; omega) (by omega) (by simp; omega) ?_)
            intro v2 w2 hown2 hg2 hn2
            obtain ⟨a2, c2, rfl, hst2⟩ := (HST.out.up (below_drewN (Below.refl _ _) _)).app hown2 hg2
            have HS2 := hideIt hst2
            clear hown2 hg2 hn2 hst2
            go_wp2
            exact ⟨⟨q + 1, m' + 1, a2, c2, gs ++ [f], by omega, by go_num, rfl, by omega, HG2, HS2.out⟩, by simp [intOf]; omega⟩
          · simp only [Ld.e] at p1 p2 p3
            have d1 : decide (x.a < f.a) = false := decide_eq_false p1
            have d2 : (f.a == x.a) = true := by simpa using p2.symm
            have d3 : decide (x.b < f.b) = false := decide_eq_false p3
            have HP := hideIt p2
            clear p2
            have HG2 : Hid (gs = g0 ++ (ls.take (q + 1)).filter (fun d => lt x.e d.e)) := by
              show _ = _
              rw [HTk.out, List.filter_append, hgs.out]
              simp [hL]
            clear hL hgs
            go_wp2
            go_quiet (fail)
            go_wp2
            exact ⟨⟨q + 1, m', a', c', gs, by omega, by go_num, rfl, by omega, HG2, HST.out.up (below_drewN (Below.refl _ _) _)⟩, by simp [intOf]; omega⟩
          · simp only [Ld.e] at p1 p2
            have d1 : decide (x.a < f.a) = false := decide_eq_false p1
            have d2 : (f.a == x.a) = false := by simpa using fun h => p2 h.symm
            have HG2 : Hid (gs = g0 ++ (ls.take (q + 1)).filter (fun d => lt x.e d.e)) := by
              show _ = _
              rw [HTk.out, List.filter_append, hgs.out]
              simp [hL]
            clear hL hgs
            go_wp2
            go_quiet (fail)
            go_wp2
            exact ⟨⟨q + 1, m', a', c', gs, by omega, by go_num, rfl, by omega, HG2, HST.out.up (below_drewN (Below.refl _ _) _)⟩, by simp [intOf]; omega⟩
        · obtain rfl : q = k := by omega
          have HF : Hid (gs = putL ls x) := by show _ = _; unfold putL; rw [hgs.out, HG.out, List.take_of_length_le (by omega)]
          have HST := hideIt hst
          clear hgs hst
          go_wp2
          go_ret
          exact ⟨a', m', c', rfl, by rw [← HF.out]; exact own_mono HST.out.own (by omega), HST.out.below⟩
end Go.Proofs.YtpfkfbmghddepaaGreat
namespace Go.Proofs.YtpfkfbmghddepaaGreat
open Go.RowKit

/-- p parts what comes ahead of e from the rest -/
def Split (es : List EdgeV) (e : EdgeV) (p : Nat) : Prop :=
  p ≤ es.length ∧ (∀ m d, m < p → es[m]? = some d → lt d e = true) ∧ (∀ m d, p ≤ m → es[m]? = some d → lt d e = false)
/-- all but the edge -/
def outE (es : List EdgeV) (e : EdgeV) : List EdgeV := es.filter (fun d => decide (d ≠ e))
theorem mem_take_at {es : List EdgeV} {p : Nat} {d : EdgeV} (h : d ∈ es.take p) : ∃ m, m < p ∧ es[m]? = some d := by
  obtain ⟨m, hm, rfl⟩ := List.getElem_of_mem h
  have h1 : m < p := by simp at hm; omega
  exact ⟨m, h1, by rw [List.getElem_take]; exact List.getElem?_eq_getElem _⟩
theorem mem_drop_at {es : List EdgeV} {p : Nat} {d : EdgeV} (h : d ∈ es.drop p) : ∃ m, p ≤ m ∧ es[m]? = some d := by
  obtain ⟨m, hm, rfl⟩ := List.getElem_of_mem h
  exact ⟨p + m, by omega, by rw [List.getElem_drop]; exact List.getElem?_eq_getElem _⟩
theorem put_split {es : List EdgeV} {e : EdgeV} {p : Nat} (hs : Split es e p) (hn : e ∉ es) : putE es e = es.take p ++ [e] ++ es.drop p := by
  have hd : es = es.take p ++ es.drop p := (List.take_append_drop p es).symm
  unfold putE
  have a1 : (es.take p).filter (fun d => lt d e) = es.take p := List.filter_eq_self.2 fun d hm => by
    obtain ⟨m, h1, h2⟩ := mem_take_at hm
    exact hs.2.1 m d h1 h2
  have a2 : (es.drop p).filter (fun d => lt d e) = [] := List.filter_eq_nil_iff.2 fun d hm => by
    obtain ⟨m, h1, h2⟩ := mem_drop_at hm
    rw [hs.2.2 m d h1 h2]; simp
  have b1 : (es.take p).filter (fun d => lt e d) = [] := List.filter_eq_nil_iff.2 fun d hm => by
    obtain ⟨m, h1, h2⟩ := mem_take_at hm
    rw [lt_asymm' (hs.2.1 m d h1 h2)]; simp
  have b2 : (es.drop p).filter (fun d => lt e d) = es.drop p := List.filter_eq_self.2 fun d hm => by
    obtain ⟨m, h1, h2⟩ := mem_drop_at hm
    exact lt_total' (hs.2.2 m d h1 h2) fun h3 => hn (h3 ▸ List.mem_of_getElem? h2)
  have c1 : es.filter (fun d => lt d e) = es.take p := by
    rw [hd, List.filter_append, ← hd, a1, a2, List.append_nil]
  have c2 : es.filter (fun d => lt e d) = es.drop p := by
    rw [hd, List.filter_append, ← hd, b1, b2, List.nil_append]
  rw [c1, c2]
theorem out_at {es : List EdgeV} {e : EdgeV} {p : Nat} (ha : Asc es) (hp : es[p]? = some e) : outE es e = es.take p ++ es.drop (p + 1) := by
  have hl := (List.getElem?_eq_some_iff.1 hp).1
  have hd : es = es.take p ++ es.drop p := (List.take_append_drop p es).symm
  have h1 : es.drop p = e :: es.drop (p + 1) := by
    rw [List.drop_eq_getElem_cons hl, (List.getElem?_eq_some_iff.1 hp).2]
  unfold outE
  have a1 : (es.take p).filter (fun d => decide (d ≠ e)) = es.take p := List.filter_eq_self.2 fun d hm => by
    obtain ⟨m, h2, h3⟩ := mem_take_at hm
    have h4 := ha m p d e h2 h3 hp
    exact decide_eq_true fun h5 => by rw [h5, lt_irrefl'] at h4; cases h4
  have a2 : (es.drop (p + 1)).filter (fun d => decide (d ≠ e)) = es.drop (p + 1) := List.filter_eq_self.2 fun d hm => by
    obtain ⟨m, h2, h3⟩ := mem_drop_at hm
    have h4 := ha p m e d (by omega) hp h3
    exact decide_eq_true fun h5 => by rw [h5, lt_irrefl'] at h4; cases h4
  have c1 : es.filter (fun d => decide (d ≠ e)) = es.take p ++ es.drop (p + 1) := by
    rw [hd, List.filter_append, ← hd, a1, h1, List.filter_cons_of_neg (by simp), a2]
  exact c1
/-- AddEdge -/
def addE (N : Int) (es : List EdgeV) (e : EdgeV) : Option (List EdgeV) := if gB N es = true ∧ eB N e = true ∧ hasB es e = false then some (putE es e) else none
/-- TakeEdge -/
def takE (N : Int) (es : List EdgeV) (e : EdgeV) : Option (List EdgeV) := if gB N es = true ∧ hasB es e = true then some (outE es e) else none
theorem putE_length (es : List EdgeV) (e : EdgeV) : (putE es e).length ≤ 2 * es.length + 1 := by
  unfold putE
  have h1 := List.length_filter_le (fun d => lt d e) es
  have h2 := List.length_filter_le (fun d => lt e d) es
  simp only [List.length_append, List.length_cons, List.length_nil]
  omega
theorem outE_length (es : List EdgeV) (e : EdgeV) : (outE es e).length ≤ es.length := List.length_filter_le _ _
end Go.Proofs.YtpfkfbmghddepaaGreat
