/- The laws' own functions over forests. The specification's ForestOk. A tour from another of its vertices on is a tour; two that are joined are one; one that is split is two: pure. Places in a list of ints: the last one of a number, the first step from one number to another. A tour that is split at an edge, as lists. The program's Reroot. -/
import Derived.Test.YtkkplppcgnikoaaGreatKMk7
import Derived.Test.YtkkplppcgnikoaaGreatKIVerts
import Derived.Test.YtkkplppcgnikoaaGreatKTourP
import Derived.Test.YtkkplppcgnikoaaGreatKFB7
namespace Go.Proofs.YtkkplppcgnikoaaGreat
open Go.RowKit

/-- how many numbers the lists have -/
def lnS (ts : List (List Int)) : Nat := (ts.map List.length).sum
theorem lnS_snoc (ts : List (List Int)) (t : List Int) : lnS (ts ++ [t]) = lnS ts + t.length := by simp [lnS]
theorem lnS_take {ts : List (List Int)} {k : Nat} {t : List Int} (h : ts[k]? = some t) : lnS (ts.take (k + 1)) = lnS (ts.take k) + t.length := by
  rw [take_snocF ts k t h, lnS_snoc]
theorem lnS_take_le (ts : List (List Int)) (k : Nat) : lnS (ts.take k) ≤ lnS ts := by
  have : lnS ts = lnS (ts.take k) + lnS (ts.drop k) := by
    conv => lhs; rw [← List.take_append_drop k ts]
    rw [lnS, List.map_append, List.sum_append]
    rfl
  omega
theorem lnS_at {ts : List (List Int)} {k : Nat} {t : List Int} (h : ts[k]? = some t) : lnS (ts.take k) + t.length ≤ lnS ts := by
  rw [← lnS_take h]
  exact lnS_take_le ts (k + 1)
theorem lnS_mem {ts : List (List Int)} {t : List Int} (h : t ∈ ts) : t.length ≤ lnS ts := by
  obtain ⟨k, hk⟩ := List.mem_iff_getElem?.1 h
  have := lnS_at hk
  omega
end Go.Proofs.YtkkplppcgnikoaaGreat
namespace Go.Proofs.YtkkplppcgnikoaaGreat
open Go.RowKit

theorem vs_first {t : List Int} (hB : tB t = true) : (vsL t)[0]? = some (mnV t) := by
  have h := vs_pos hB
  have hx : (vsL t)[0]? = some ((vsL t)[0]'h) := List.getElem?_eq_getElem h
  rw [hx, mn_first hx]
/-- a list that is not empty stands somewhere -/
theorem own_some {u : World} {B m c : Nat} {a : Option Addr} {xs : List Value} (h : u.ownsRow B 3 1 (.slice a m c) m xs) (hm : 0 < m) : ∃ g, a = some ⟨g, 0, none⟩ ∧ g < u.heap.size ∧ B ≤ g := by
  rcases h.2 with ⟨_, h0⟩ | ⟨g, cap, cur, hv, hrest⟩
  · omega
  · simp at hv
    obtain ⟨rfl, rfl⟩ := hv
    exact ⟨g, rfl, (h.lt g rfl).2, (h.lt g rfl).1⟩

/-- the first of a right tour's vertices -/
theorem vertsFirst {w2 : World} {q : List Int} (hB : tB q = true) (y : Option Addr) (cy : Nat) (hfq : q.length ≤ 3000000) (u : World) (hu : Good w2 u) (h : Is u u.heap.size y q.length q) :
    Calls Tryz.prog 83 #[.slice y q.length cy] u fun e v => ∃ g3 m3 c3, e = .returned (.slice (some ⟨g3, 0, none⟩) m3 c3) ∧ 0 < m3 ∧ v.cell? ⟨g3, 0, none⟩ = some (.int .i64 (mnV q)) ∧ Good w2 v :=
  (sVertsOf_any q q.length y cy hfq u h).mono fun e v ⟨a3, m3, c3, he, ho, hb⟩ => by
    have hm : (vsL q).length = m3 := by have := ho.1; rw [ic_len] at this; omega
    have hp : 0 < m3 := by have := vs_pos hB; omega
    obtain ⟨g, rfl, _, _⟩ := own_some ho hp
    exact ⟨g, m3, c3, he, hp, by rw [ho.cellAt 0 (by omega)]; exact ic_at (vs_first hB), hu.up hb⟩

set_option maxRecDepth 100000 in
set_option maxHeartbeats 8000000 in
theorem sForestOk_any (N : Int) (ts : List (List Int)) (n : Nat) (a : Option Addr) (c : Nat) (hn : n + lnS ts ≤ 1048576) (w : World) (h : Ts w w.heap.size a n ts) :
    Calls Tryz.prog 173 #[.agg #[.int .i64 N, .slice a n c]] w fun e w' => ∃ b, e = .returned (.bool b) ∧ (b = true ↔ FP N ts) ∧ Below w.heap.size w w' := by
  have b0 : Good w (w.alloc (.cells #[.int .i64 N, .slice a n c] 127)) := (Good.refl w).alloc _
  have HI := hideIt l01In_any
  have hlen := h.1
  have HA := hideIt (h.up b0)
  have HB0 := hideIt b0
  clear h b0
  by_cases h1 : 1 ≤ N ∧ N ≤ 12
  · have r1 : decide (1 ≤ N ∧ N ≤ 12) = true := decide_eq_true h1
    obtain ⟨h11, h12⟩ := h1
    by_cases hn12 : n ≤ 12
    · have r2 : decide (12 < (n : Int)) = false := decide_eq_false (by omega)
      have HC0 : Hid (∀ u, Good (w.alloc (.cells #[.int .i64 N, .slice a n c] 127)) u → u.cell? ⟨w.heap.size, 0, none⟩ = some (.int .i64 N) ∧ u.cell? ⟨w.heap.size, 1, none⟩ = some (.slice a n c)) := fun u hu => ⟨by rw [hu.cell (by simp)]; simp, by rw [hu.cell (by simp)]; simp⟩
      go_enter Tryz.func173, Tryz.ntmps173
      go_wp2_with (go_at_call 81; refine (HI.out _ _ _ _).mono ?_; rintro e w1 ⟨rfl, hw⟩; have hw' := hw.symm; subst hw'; clear hw)
      go_loopw [3, 4, 5] (fun al i _v wr => ∃ k s : Nat, k ≤ n ∧ s ≤ 12 * k ∧ i = .int .i64 (k : Int) ∧ al = .int .i64 (s : Int) ∧ Hid (s = cntV ts k) ∧ Hid (∀ j, j < k → FAt N ts j) ∧ Good (w.alloc (.cells #[.int .i64 N, .slice a n c] 127)) wr) (fun _ i _ _ => n - (intOf i).toNat)
      case atStart => exact ⟨0, 0, by omega, by omega, rfl, rfl, by show _ = _; rw [cntV_zero], fun j hj => by omega, Good.refl _⟩
      case round =>
        obtain ⟨k, s, hk, hsk, rfl, rfl, HS, HK, hg⟩ := hrel
        obtain ⟨k0, k1⟩ := HC0.out wr hg
        have HG := hideIt hg
        by_cases hlt : k < n
        · rcases (HA.out.up hg).2 with hz | ⟨b, off, rfl, hbl, hc⟩
          · omega
          · obtain ⟨t, ht⟩ : ∃ t, ts[k]? = some t := ⟨ts[k]'(by omega), List.getElem?_eq_getElem (by omega)⟩
            obtain ⟨x, cx, e0, iI, _⟩ := hc k t ht
            have hfit : t.length ≤ 3000000 := by have := lnS_mem (List.mem_of_getElem? ht); omega
            have b1 : (0 : Int) ≤ (k : Int) := by omega
            have b2 : (k : Int) < (n : Int) := by omega
            have HTO := hideIt (sTourOk_any t t.length x cx hfit wr iI)
            have HIx := hideIt iI
            have HCt := hideIt hc
            cases hB : tB t with
            | false =>
              rw [hB] at HTO
              have HN : Hid (¬ FP N ts) := fun hp => by have := (hp.2.2.2.1 k t ht).1; rw [hB] at this; cases this
              clear hc ht iI hB HK HS
              go_wp2_with (go_at_call 245; refine HTO.out.mono ?_; rintro e w1 ⟨rfl, hb1⟩)
              go_ret
              exact ⟨false, rfl, ⟨fun h => (by cases h), fun h => absurd h HN.out⟩, HB0.out.up (HG.out.up hb1)⟩
            | true =>
              rw [hB] at HTO
              have HBt := hideIt hB
              have HT := hideIt ht
              clear hc ht iI hB
              go_wp2_with (go_at_call 245; refine HTO.out.mono ?_; rintro e w1 ⟨rfl, hb1⟩; refine Hid.out ?_)
              refine (show ∀ {p : Prop}, p → Hid p from fun h => h) ?_
              have hb1 : Good wr w1 := hb1
              have HG1 := hideIt (HG.out.up hb1)
              have e1 : w1.cell? ⟨b, off + k, none⟩ = some (.slice x t.length cx) := by rw [hb1.cell hbl]; exact e0
              obtain ⟨k2, k3⟩ := HC0.out w1 HG1.out
              have HV := hideIt (sVertsOf_any t t.length x cx hfit w1 (HIx.out.up hb1))
              have HCt1 : Hid (∀ u, Good w1 u → ∀ (j : Nat) (q : List Int), ts[j]? = some q → ∃ (a' : Option Addr) (c' : Nat), u.cell? ⟨b, off + j, none⟩ = some (.slice a' q.length c') ∧ Is u u.heap.size a' q.length q ∧ q.length ≤ c') := fun u hu j q hq => by
                obtain ⟨a', c', p1, p2, p3⟩ := HCt.out j q hq
                have hu2 := hb1.up hu
                exact ⟨a', c', by rw [hu2.cell hbl]; exact p1, p2.up hu2, p3⟩
              have hbl1 : b < w1.heap.size := Nat.lt_of_lt_of_le hbl hb1.size
              clear HTO k0 k1 e0 HCt HIx hb1
              go_wp2_with (go_at_call 83; refine HV.out.mono ?_; rintro e w2 ⟨a2, m2, c2, rfl, ho, hb2⟩; refine Hid.out ?_)
              refine (show ∀ {p : Prop}, p → Hid p from fun h => h) ?_
              have hb2 : Good w1 w2 := hb2
              have hm2 : (vsL t).length = m2 := by have := ho.1; rw [ic_len] at this; omega
              have hp2 : 0 < m2 := by have := vs_pos HBt.out; omega
              have hl2 : m2 ≤ 12 := by have := vsL_len t; omega
              obtain ⟨g, rfl, hgl, hgw⟩ := own_some ho hp2
              have HO := hideIt ho
              have HG2 := hideIt (HG1.out.up hb2)
              have HM2 := hideIt hm2
              have HCr : Hid (∀ u, Good w2 u → ∀ (j : Nat) (y : Int), (vsL t)[j]? = some y → u.cell? ⟨g, j, none⟩ = some (.int .i64 y)) := fun u hu j y hy => by
                rw [hu.cell hgl, HO.out.cellAt j (by have := (List.getElem?_eq_some_iff.1 hy).1; omega)]
                exact ic_at hy
              have HCt2 : Hid (∀ u, Good w2 u → ∀ (j : Nat) (q : List Int), ts[j]? = some q → ∃ (a' : Option Addr) (c' : Nat), u.cell? ⟨b, off + j, none⟩ = some (.slice a' q.length c') ∧ Is u u.heap.size a' q.length q ∧ q.length ≤ c') := fun u hu j q hq => HCt1.out u (hb2.up hu) j q hq
              obtain ⟨lst, hlst⟩ : ∃ y, (vsL t)[(vsL t).length - 1]? = some y := ⟨(vsL t)[(vsL t).length - 1]'(by omega), List.getElem?_eq_getElem _⟩
              have HLst := hideIt (vs_last HBt.out (N := N) hlst)
              have l0 := HCr.out w2 (Good.refl w2) _ _ hlst
              rw [hm2] at l0
              have f0 := HCr.out w2 (Good.refl w2) _ _ (vs_first HBt.out)
              obtain ⟨k4, k5⟩ := HC0.out w2 HG2.out
              have x1 : (0 : Int) ≤ (m2 : Int) - 1 := by omega
              have x1b : (1 : Int) ≤ (m2 : Int) := by omega
              have x2 : (m2 : Int) - 1 < (m2 : Int) := by omega
              have x3 : ((m2 : Int) - 1).toNat = m2 - 1 := by omega
              have hbl2 : b < w2.heap.size := Nat.lt_of_lt_of_le hbl1 hb2.size
              clear HV k2 k3 e1 HCt1 ho hb2 hm2 hlst HG HG1
              by_cases hL : lst < N
              · have d1 : decide (N ≤ lst) = false := decide_eq_false (by omega)
                have HLt := hideIt (HLst.out.2 hL)
                clear HLst hL
                have x0 : (0 : Int) < (m2 : Int) := by omega
                rcases k with _ | i
                · have HLess : Hid (∀ j q, j + 1 = 0 → ts[j]? = some q → mnV q < mnV t) := fun j q hj => by omega
                  go_upto_region 11 with fail
                  go_quiet (fail)
                  go_wp2
                  refine wp_loop_rounds 1 ?_
                  rw [rounds_succ]
                  go_wp2
                  refine ⟨⟨1, m2, by omega, by omega, by go_num, by have := HS.out; rw [cntV_zero] at this; subst this; go_num, ?_, fun j hj => ?_, below_drewN HG2.out _⟩, by simp [intOf]; omega⟩
                  · show _ = _
                    rw [cntV_succ HT.out, cntV_zero, HM2.out]
                    omega
                  · obtain rfl : j = 0 := by omega
                    intro t' ht'
                    rw [HT.out] at ht'
                    cases ht'
                    exact ⟨HBt.out, HLt.out, HLess.out, fun q s' hq => by omega⟩
                · obtain ⟨q, hq⟩ : ∃ q, ts[i]? = some q := ⟨ts[i]'(by omega), List.getElem?_eq_getElem (by omega)⟩
                  obtain ⟨y, cy, e1, iQ, _⟩ := HCt2.out w2 (Good.refl w2) i q hq
                  have hBq := (HK.out i (by omega) q hq).1
                  have hfq : q.length ≤ 3000000 := by have := lnS_mem (List.mem_of_getElem? hq); omega
                  have HVq := hideIt (fun u (hu : Good w2 u) => vertsFirst (w2 := w2) hBq y cy hfq u hu (iQ.up hu))
                  have HCS : Hid (∀ u, Good w2 u → (u.cell? ⟨w.heap.size, 0, none⟩ = some (.int .i64 N) ∧ u.cell? ⟨w.heap.size, 1, none⟩ = some (.slice (some ⟨b, off, none⟩) n c)) ∧ (u.cell? ⟨g, m2 - 1, none⟩ = some (.int .i64 lst) ∧ u.cell? ⟨g, 0, none⟩ = some (.int .i64 (mnV t))) ∧ u.cell? ⟨b, off + i, none⟩ = some (.slice y q.length cy)) := fun u hu =>
                    ⟨HC0.out u (HG2.out.up hu), ⟨by rw [hu.cell hgl]; exact l0, by rw [hu.cell hgl]; exact f0⟩, by rw [hu.cell hbl2]; exact e1⟩
                  have hbd := (Good.refl w2).drew
                  have hS0 := HCS.out _ hbd
                  have ek : ((i + 1 : Nat) : Int) = (i : Int) + 1 := by omega
                  rw [ek] at b1 b2
                  have b3 : (0 : Int) ≤ (i : Int) := by omega
                  have b4 : (i : Int) < (n : Int) := by omega
                  have tn : ((i : Int) + 1).toNat = i + 1 := by omega
                  have d0 : decide ((0 : Int) < (i : Int) + 1) = true := decide_eq_true (by omega)
                  have hw1 : IntKind.i64.wrap (i : Int) = (i : Int) := by rw [IntKind.wrap_i64]; omega
                  have hw2 : IntKind.i64.wrap ((m2 : Int) - 1) = (m2 : Int) - 1 := by rw [IntKind.wrap_i64]; omega
                  rw [ek]
                  have HQ := hideIt hq
                  by_cases hLess : mnV q < mnV t
                  · have d2 : decide (mnV t ≤ mnV q) = false := decide_eq_false (by omega)
                    have HLess := hideIt hLess
                    clear ek hq hBq iQ k4 k5 l0 f0 e1 hLess
                    go_upto_region 11 with fail
                    refine wp_region_held_drew (S := (fun u => (u.cell? ⟨w.heap.size, 0, none⟩ = some (.int .i64 N) ∧ u.cell? ⟨w.heap.size, 1, none⟩ = some (.slice (some ⟨b, off, none⟩) n c)) ∧ (u.cell? ⟨g, m2 - 1, none⟩ = some (.int .i64 lst) ∧ u.cell? ⟨g, 0, none⟩ = some (.int .i64 (mnV t))) ∧ u.cell? ⟨b, off + i, none⟩ = some (.slice y q.length cy))) (by kernel_rfl) hS0 (fun hHeld => ?_)
                    refine wpAnyH_take (i := 0) (v := ?_) rfl (by kernel_rfl) (by kernel_rfl) (by kernel_rfl) (fun _ _ _ h => h) (Or.inl ⟨by rfl, ?_⟩) (by assumption) ?_
                    rotate_left
                    · intro w hSw; (try dsimp only at hSw); go_simp; try with_reducible rfl
                    try simp only [Act.put, List.getElem_toArray, List.getElem_cons_zero, List.setIfInBounds_toArray, List.set_cons_zero, List.set_cons_succ]
                    refine wpAnyH_take (i := 1) (v := ?_) rfl (by kernel_rfl) (by kernel_rfl) (by kernel_rfl) (fun _ _ _ h => h) (Or.inl ⟨by rfl, ?_⟩) (by assumption) ?_
                    rotate_left
                    · intro w hSw; (try dsimp only at hSw); go_simp; try with_reducible rfl
                    try simp only [Act.put, List.getElem_toArray, List.getElem_cons_succ, List.getElem_cons_zero, List.setIfInBounds_toArray, List.set_cons_zero, List.set_cons_succ]
                    refine wpAnyH_take (i := 2) (v := ?_) rfl (by kernel_rfl) (by kernel_rfl) (by kernel_rfl) (fun _ _ _ h => h) (Or.inl ⟨by rfl, ?_⟩) (by assumption) ?_
                    rotate_left
                    · intro w hSw; (try dsimp only at hSw); go_simp; try with_reducible rfl
                    try simp only [Act.put, List.getElem_toArray, List.getElem_cons_succ, List.getElem_cons_zero, List.setIfInBounds_toArray, List.set_cons_zero, List.set_cons_succ]
                    refine wpAnyH_take (i := 3) (v := ?_) rfl (by kernel_rfl) (by kernel_rfl) (by kernel_rfl) (fun _ _ _ h => h) (Or.inl ⟨by rfl, ?_⟩) (by assumption) ?_
                    rotate_left
                    · intro w hSw; (try dsimp only at hSw); go_simp; try with_reducible rfl
                    try simp only [Act.put, List.getElem_toArray, List.getElem_cons_succ, List.getElem_cons_zero, List.setIfInBounds_toArray, List.set_cons_zero, List.set_cons_succ]
                    refine wpAnyH_take (i := 4) (v := ?_) rfl (by kernel_rfl) (by kernel_rfl) (by kernel_rfl) (fun _ _ _ h => h) (Or.inl ⟨by rfl, ?_⟩) (by assumption) ?_
                    rotate_left
                    · intro w hSw; (try dsimp only at hSw); go_simp; try with_reducible rfl
                    try simp only [Act.put, List.getElem_toArray, List.getElem_cons_succ, List.getElem_cons_zero, List.setIfInBounds_toArray, List.set_cons_zero, List.set_cons_succ]
                    refine wpAnyH_take (i := 5) (v := ?_) rfl (by kernel_rfl) (by kernel_rfl) (by kernel_rfl) (fun _ _ _ h => h) (Or.inl ⟨by rfl, ?_⟩) (by assumption) ?_
                    rotate_left
                    · intro w hSw; (try dsimp only at hSw); go_simp; try with_reducible rfl
                    try simp only [Act.put, List.getElem_toArray, List.getElem_cons_succ, List.getElem_cons_zero, List.setIfInBounds_toArray, List.set_cons_zero, List.set_cons_succ]
                    refine wpAnyH_take (i := 6) (v := ?_) rfl (by kernel_rfl) (by kernel_rfl) (by kernel_rfl) (fun _ _ _ h => h) (Or.inl ⟨by rfl, ?_⟩) (by assumption) ?_
                    rotate_left
                    · intro w hSw; (try dsimp only at hSw); go_simp; try with_reducible rfl
                    try simp only [Act.put, List.getElem_toArray, List.getElem_cons_succ, List.getElem_cons_zero, List.setIfInBounds_toArray, List.set_cons_zero, List.set_cons_succ]
                    refine wpAnyH_take (i := 7) (v := ?_) rfl (by kernel_rfl) (by kernel_rfl) (by kernel_rfl) (fun _ _ _ h => h) (Or.inl ⟨by rfl, ?_⟩) (by assumption) ?_
                    rotate_left
                    · intro w hSw; (try dsimp only at hSw); go_simp; try with_reducible rfl
                    try simp only [Act.put, List.getElem_toArray, List.getElem_cons_succ, List.getElem_cons_zero, List.setIfInBounds_toArray, List.set_cons_zero, List.set_cons_succ]
                    refine wpAnyH_take (i := 8) (v := ?_) rfl (by kernel_rfl) (by kernel_rfl) (by kernel_rfl) (fun _ _ _ h => h) (Or.inl ⟨by rfl, ?_⟩) (by assumption) ?_
                    rotate_left
                    · intro w hSw; (try dsimp only at hSw); go_simp; try with_reducible rfl
                    try simp only [Act.put, List.getElem_toArray, List.getElem_cons_succ, List.getElem_cons_zero, List.setIfInBounds_toArray, List.set_cons_zero, List.set_cons_succ]
                    refine wpAnyH_take (i := 9) (v := ?_) rfl (by kernel_rfl) (by kernel_rfl) (by kernel_rfl) (fun _ _ _ h => h) (Or.inl ⟨by rfl, ?_⟩) (by assumption) ?_
                    rotate_left
                    · intro w hSw; (try dsimp only at hSw); go_simp; try with_reducible rfl
                    try simp only [Act.put, List.getElem_toArray, List.getElem_cons_succ, List.getElem_cons_zero, List.setIfInBounds_toArray, List.set_cons_zero, List.set_cons_succ]
                    refine wpAnyH_take (i := 10) (v := ?_) rfl (by kernel_rfl) (by kernel_rfl) (by kernel_rfl) (fun _ _ _ h => h) (Or.inl ⟨by rfl, ?_⟩) (by assumption) ?_
                    rotate_left
                    · intro w hSw; (try dsimp only at hSw); go_simp; try with_reducible rfl
                    try simp only [Act.put, List.getElem_toArray, List.getElem_cons_succ, List.getElem_cons_zero, List.setIfInBounds_toArray, List.set_cons_zero, List.set_cons_succ]
                    refine wpAnyH_take (i := 11) (v := ?_) rfl (by kernel_rfl) (by kernel_rfl) (by kernel_rfl) (fun _ _ _ h => h) (Or.inl ⟨by rfl, ?_⟩) (by assumption) ?_
                    rotate_left
                    · intro w hSw; (try dsimp only at hSw); go_simp; try with_reducible rfl
                    try simp only [Act.put, List.getElem_toArray, List.getElem_cons_succ, List.getElem_cons_zero, List.setIfInBounds_toArray, List.set_cons_zero, List.set_cons_succ]
                    refine wpAnyH_take (i := 12) (v := ?_) rfl (by kernel_rfl) (by kernel_rfl) (by kernel_rfl) (fun _ _ _ h => h) (Or.inl ⟨by rfl, ?_⟩) (by assumption) ?_
                    rotate_left
                    · intro w hSw; (try dsimp only at hSw); go_simp; try with_reducible rfl
                    try simp only [Act.put, List.getElem_toArray, List.getElem_cons_succ, List.getElem_cons_zero, List.setIfInBounds_toArray, List.set_cons_zero, List.set_cons_succ]
                    refine wpAnyH_take (i := 13) (v := ?_) rfl (by kernel_rfl) (by kernel_rfl) (by kernel_rfl) (fun _ _ _ h => h) (Or.inl ⟨by rfl, ?_⟩) (by assumption) ?_
                    rotate_left
                    · intro w hSw; (try dsimp only at hSw); go_simp; try with_reducible rfl
                    try simp only [Act.put, List.getElem_toArray, List.getElem_cons_succ, List.getElem_cons_zero, List.setIfInBounds_toArray, List.set_cons_zero, List.set_cons_succ]
                    refine wpAnyH_take (i := 14) (v := ?_) rfl (by kernel_rfl) (by kernel_rfl) (by kernel_rfl) (fun _ _ _ h => h) (Or.inl ⟨by rfl, ?_⟩) (by assumption) ?_
                    rotate_left
                    · intro w hSw; (try dsimp only at hSw); go_simp; try with_reducible rfl
                    try simp only [Act.put, List.getElem_toArray, List.getElem_cons_succ, List.getElem_cons_zero, List.setIfInBounds_toArray, List.set_cons_zero, List.set_cons_succ]
                    refine wpAnyH_take (i := 15) (v := ?_) rfl (by kernel_rfl) (by kernel_rfl) (by kernel_rfl) (fun _ _ _ h => h) (Or.inl ⟨by rfl, ?_⟩) (by assumption) ?_
                    rotate_left
                    · intro w hSw; (try dsimp only at hSw); go_simp; try with_reducible rfl
                    try simp only [Act.put, List.getElem_toArray, List.getElem_cons_succ, List.getElem_cons_zero, List.setIfInBounds_toArray, List.set_cons_zero, List.set_cons_succ]
                    refine wpAnyH_take (i := 16) (v := ?_) rfl (by kernel_rfl) (by kernel_rfl) (by kernel_rfl) (fun _ _ _ h => h) (Or.inl ⟨by rfl, ?_⟩) (by assumption) ?_
                    rotate_left
                    · intro w hSw; (try dsimp only at hSw); go_simp; try with_reducible rfl
                    try simp only [Act.put, List.getElem_toArray, List.getElem_cons_succ, List.getElem_cons_zero, List.setIfInBounds_toArray, List.set_cons_zero, List.set_cons_succ]
                    refine wpAnyH_take (i := 17) (v := ?_) rfl (by kernel_rfl) (by kernel_rfl) (by kernel_rfl) (fun _ _ _ h => h) (Or.inl ⟨by rfl, ?_⟩) (by assumption) ?_
                    rotate_left
                    · intro w hSw; (try dsimp only at hSw); go_simp; try with_reducible rfl
                    try simp only [Act.put, List.getElem_toArray, List.getElem_cons_succ, List.getElem_cons_zero, List.setIfInBounds_toArray, List.set_cons_zero, List.set_cons_succ]
                    refine wpAnyH_take (i := 18) (v := ?_) rfl (by kernel_rfl) (by kernel_rfl) (by kernel_rfl) (fun _ _ _ h => h) (Or.inl ⟨by rfl, ?_⟩) (by assumption) ?_
                    rotate_left
                    · intro w hSw; (try dsimp only at hSw); go_simp; try with_reducible rfl
                    try simp only [Act.put, List.getElem_toArray, List.getElem_cons_succ, List.getElem_cons_zero, List.setIfInBounds_toArray, List.set_cons_zero, List.set_cons_succ]
                    refine wpAnyH_take (i := 22) (v := ?_) rfl (by kernel_rfl) (by kernel_rfl) (by kernel_rfl) (fun _ _ _ h => h) (Or.inl ⟨by rfl, ?_⟩) (by assumption) ?_
                    rotate_left
                    · intro w hSw; (try dsimp only at hSw); go_simp; try with_reducible rfl
                    try simp only [Act.put, List.getElem_toArray, List.getElem_cons_succ, List.getElem_cons_zero, List.setIfInBounds_toArray, List.set_cons_zero, List.set_cons_succ]
                    refine wpAnyH_take (i := 23) (v := ?_) rfl (by kernel_rfl) (by kernel_rfl) (by kernel_rfl) (fun _ _ _ h => h) (Or.inl ⟨by rfl, ?_⟩) (by assumption) ?_
                    rotate_left
                    · intro w hSw; (try dsimp only at hSw); go_simp; try with_reducible rfl
                    try simp only [Act.put, List.getElem_toArray, List.getElem_cons_succ, List.getElem_cons_zero, List.setIfInBounds_toArray, List.set_cons_zero, List.set_cons_succ]
                    refine wpAnyH_take (i := 24) (v := ?_) rfl (by kernel_rfl) (by kernel_rfl) (by kernel_rfl) (fun _ _ _ h => h) (Or.inl ⟨by rfl, ?_⟩) (by assumption) ?_
                    rotate_left
                    · intro w hSw; (try dsimp only at hSw); go_simp; try with_reducible rfl
                    try simp only [Act.put, List.getElem_toArray, List.getElem_cons_succ, List.getElem_cons_zero, List.setIfInBounds_toArray, List.set_cons_zero, List.set_cons_succ]
                    refine wpAnyH_ready (rs := [19]) (by kernel_rfl) (by simp) ?_
                    refine AllReadyH.cons rfl (fun K hK => ?_) AllReadyH.nil
                    go_wp2_with (go_at_call 83; refine (HVq.out _ hbd).mono ?_; rintro e w3 ⟨g3, m3, c3, rfl, hp3, hc3, hg3⟩; have hS3 := HCS.out _ hg3; refine Hid.out ?_)
                    refine (show ∀ {p : Prop}, p → Hid p from fun h => h) ?_
                    refine hK.out _ _ hS3 (fun hHeld => ?_)
                    clear hK K
                    try simp only [Act.put, List.getElem_toArray, List.getElem_cons_succ, List.getElem_cons_zero, List.setIfInBounds_toArray, List.set_cons_zero, List.set_cons_succ]
                    refine wpAnyH_ready (rs := [20]) (by kernel_rfl) (by simp) ?_
                    refine AllReadyH.cons rfl (fun K hK => ?_) AllReadyH.nil
                    go_simp
                    refine hK.out _ _ (by assumption) (fun hHeld => ?_)
                    clear hK K
                    try simp only [Act.put, List.getElem_toArray, List.getElem_cons_succ, List.getElem_cons_zero, List.setIfInBounds_toArray, List.set_cons_zero, List.set_cons_succ]
                    refine wpAnyH_ready (rs := [21]) (by kernel_rfl) (by simp) ?_
                    refine AllReadyH.cons rfl (fun K hK => ?_) AllReadyH.nil
                    go_simp
                    refine hK.out _ _ (by assumption) (fun hHeld => ?_)
                    clear hK K
                    try simp only [Act.put, List.getElem_toArray, List.getElem_cons_succ, List.getElem_cons_zero, List.setIfInBounds_toArray, List.set_cons_zero, List.set_cons_succ]
                    refine wpAnyH_ready (rs := [25]) (by kernel_rfl) (by simp) ?_
                    refine AllReadyH.cons rfl (fun K hK => ?_) AllReadyH.nil
                    go_simp
                    refine hK.out _ _ (by assumption) (fun hHeld => ?_)
                    clear hK K
                    try simp only [Act.put, List.getElem_toArray, List.getElem_cons_succ, List.getElem_cons_zero, List.setIfInBounds_toArray, List.set_cons_zero, List.set_cons_succ]
                    refine wpAnyH_ready (rs := [26]) (by kernel_rfl) (by simp) ?_
                    refine AllReadyH.cons rfl (fun K hK => ?_) AllReadyH.nil
                    go_simp
                    refine hK.out _ _ (by assumption) (fun hHeld => ?_)
                    clear hK K
                    try simp only [Act.put, List.getElem_toArray, List.getElem_cons_succ, List.getElem_cons_zero, List.setIfInBounds_toArray, List.set_cons_zero, List.set_cons_succ]
                    refine wpAnyH_ready (rs := [27]) (by kernel_rfl) (by simp) ?_
                    refine AllReadyH.cons rfl (fun K hK => ?_) AllReadyH.nil
                    go_simp
                    refine hK.out _ _ (by assumption) (fun hHeld => ?_)
                    clear hK K
                    try simp only [Act.put, List.getElem_toArray, List.getElem_cons_succ, List.getElem_cons_zero, List.setIfInBounds_toArray, List.set_cons_zero, List.set_cons_succ]
                    refine wpAnyH_done (by kernel_rfl) ?_ _
                    have HG3 := hideIt hg3
                    clear HVq HCS hS0 hS3 hc3 hp3 hbd hg3
                    go_wp2
                    go_loopw [6] (fun p wq => ∃ p' : Nat, p' ≤ i + 1 ∧ p = .int .i64 (p' : Int) ∧ Hid (∀ j s', j < p' → ts[j]? = some s' → ∀ x ∈ t, x ∉ s') ∧ Good w2 wq) (fun p _ => i + 1 - (intOf p).toNat)
                    case atStart => exact ⟨0, by omega, rfl, fun j s' hj => by omega, HG3.out⟩
                    case round =>
                      obtain ⟨p, hp, rfl, HP, hgq⟩ := hrel
                      clear HG3
                      by_cases hpl : p < i + 1
                      · obtain ⟨s', hs'⟩ : ∃ s', ts[p]? = some s' := ⟨ts[p]'(by omega), List.getElem?_eq_getElem (by omega)⟩
                        have y1 : (p : Int) < (i : Int) + 1 := by omega
                        have y2 : (0 : Int) ≤ (p : Int) := by omega
                        have y3 : (p : Int) < (n : Int) := by omega
                        have HS' := hideIt hs'
                        obtain ⟨z, cz, e4, iZ, _⟩ := HCt2.out _ hgq p s' hs'
                        have HIn := hideIt (fun v u (hu : Good wr u) => l05In_any s' v s'.length z cz (by have := lnS_mem (List.mem_of_getElem? hs'); omega) u (iZ.up hu))
                        have HE4 : Hid (∀ u, Good wr u → u.cell? ⟨b, off + p, none⟩ = some (.slice z s'.length cz)) := fun u hu => by rw [hu.cell (Nat.lt_of_lt_of_le hbl2 hgq.size)]; exact e4
                        have HGq := hideIt hgq
                        clear hs' iZ hgq e4
                        go_wp2
                        go_loopw [7] (fun r wz => ∃ j : Nat, j ≤ m2 ∧ r = .int .i64 (j : Int) ∧ Hid (∀ d x, d < j → (vsL t)[d]? = some x → x ∉ s') ∧ Good wr wz) (fun r _ => m2 - (intOf r).toNat)
                        case atStart => exact ⟨0, by omega, rfl, fun d x hd => by omega, Good.refl _⟩
                        case round =>
                          obtain ⟨j, hj, rfl, HJ, hgz⟩ := hrel
                          by_cases hjl : j < m2
                          · obtain ⟨v, hv⟩ : ∃ v, (vsL t)[j]? = some v := ⟨(vsL t)[j]'(by have := HM2.out; omega), List.getElem?_eq_getElem _⟩
                            have hgz2 := HGq.out.up hgz
                            have c1 := HCr.out _ hgz2 j v hv
                            obtain ⟨k6, k7⟩ := HC0.out _ (HG2.out.up hgz2)
                            have e4 := HE4.out _ hgz
                            have y4 : (0 : Int) ≤ (j : Int) := by omega
                            have y5 : (j : Int) < (m2 : Int) := by omega
                            have HInv := hideIt (fun u (hu : Good wr u) => HIn.out v u (hgz.up hu))
                            have HGz := hideIt hgz
                            have HGz2 := hideIt hgz2
                            by_cases hin : v ∈ s'
                            · rw [decide_eq_true hin] at HInv
                              have HN : Hid (¬ FP N ts) := fun hp => (hp.2.2.2.1 (i + 1) t HT.out).2.2.2 p s' hpl HS'.out v ((vsL_mem t v).1 (List.mem_of_getElem? hv)).2 hin
                              clear hv HJ hin HK HS hgz hgz2 HIn
                              go_wp2
                              go_quiet ((go_at_call 171; exact Calls.quiet_of_same (HInv.out _ (below_drewN (Good.refl _) _))))
                              go_wp2
                              go_ret
                              exact ⟨false, rfl, ⟨fun h => (by cases h), fun h => absurd h HN.out⟩, HB0.out.up (HG2.out.up (below_drewN HGz2.out _))⟩
                            · rw [decide_eq_false hin] at HInv
                              have HJ2 : Hid (∀ d x, d < j + 1 → (vsL t)[d]? = some x → x ∉ s') := fun d x hd hx => by
                                by_cases hdj : d = j
                                · rw [hdj, hv] at hx
                                  cases hx
                                  exact hin
                                · exact HJ.out d x (by omega) hx
                              clear hv HJ hin hgz hgz2 HIn
                              go_wp2
                              go_quiet ((go_at_call 171; exact Calls.quiet_of_same (HInv.out _ (below_drewN (Good.refl _) _))))
                              go_wp2
                              exact ⟨⟨j + 1, by omega, by go_num, HJ2, below_drewN HGz.out _⟩, by simp [intOf]; omega⟩
                          · obtain rfl : j = m2 := by omega
                            have HP2 : Hid (∀ d s2, d < p + 1 → ts[d]? = some s2 → ∀ x ∈ t, x ∉ s2) := fun d s2 hd hs2 x hx => by
                              by_cases hdp : d = p
                              · rw [hdp, HS'.out] at hs2
                                cases hs2
                                obtain ⟨r, hr⟩ := List.mem_iff_getElem?.1 ((vs_mem_of HBt.out).2 hx)
                                exact HJ.out r x (by have := (List.getElem?_eq_some_iff.1 hr).1; have := HM2.out; omega) hr
                              · exact HP.out d s2 (by omega) hs2 x hx
                            clear HJ HP
                            go_wp2
                            exact ⟨⟨p + 1, by omega, by go_num, HP2, HGq.out.up hgz⟩, by simp [intOf]; omega⟩
                      · obtain rfl : p = i + 1 := by omega
                        have HS2 : Hid (s + m2 = cntV ts (i + 1 + 1)) := by show _ = _; rw [cntV_succ HT.out, HM2.out, HS.out]
                        have HK2 : Hid (∀ j, j < i + 1 + 1 → FAt N ts j) := fun j hj => by
                          by_cases hji : j = i + 1
                          · subst hji
                            intro t' ht'
                            rw [HT.out] at ht'
                            cases ht'
                            exact ⟨HBt.out, HLt.out, fun j s' hj hs' => by
                              obtain rfl : j = i := by omega
                              rw [HQ.out] at hs'
                              cases hs'
                              exact HLess.out, fun d s' hd hs' => HP.out d s' hd hs'⟩
                          · exact HK.out j (by omega)
                        clear HP HK HS
                        go_wp2
                        exact ⟨⟨i + 1 + 1, s + m2, by omega, by omega, by go_num, by go_num, HS2, HK2, HG2.out.up hgq⟩, by simp [intOf]; omega⟩
                  · have d2 : decide (mnV t ≤ mnV q) = true := decide_eq_true (by omega)
                    have HN : Hid (¬ FP N ts) := fun hp => hLess ((hp.2.2.2.1 (i + 1) t HT.out).2.2.1 i q rfl hq)
                    clear ek hq hBq iQ k4 k5 l0 f0 e1 hLess HK HS
                    go_upto_region 11 with fail
                    refine wp_region_held_drew (S := (fun u => (u.cell? ⟨w.heap.size, 0, none⟩ = some (.int .i64 N) ∧ u.cell? ⟨w.heap.size, 1, none⟩ = some (.slice (some ⟨b, off, none⟩) n c)) ∧ (u.cell? ⟨g, m2 - 1, none⟩ = some (.int .i64 lst) ∧ u.cell? ⟨g, 0, none⟩ = some (.int .i64 (mnV t))) ∧ u.cell? ⟨b, off + i, none⟩ = some (.slice y q.length cy))) (by kernel_rfl) hS0 (fun hHeld => ?_)
                    refine wpAnyH_take (i := 0) (v := ?_) rfl (by kernel_rfl) (by kernel_rfl) (by kernel_rfl) (fun _ _ _ h => h) (Or.inl ⟨by rfl, ?_⟩) (by assumption) ?_
                    rotate_left
                    · intro w hSw; (try dsimp only at hSw); go_simp; try with_reducible rfl
                    try simp only [Act.put, List.getElem_toArray, List.getElem_cons_zero, List.setIfInBounds_toArray, List.set_cons_zero, List.set_cons_succ]
                    refine wpAnyH_take (i := 1) (v := ?_) rfl (by kernel_rfl) (by kernel_rfl) (by kernel_rfl) (fun _ _ _ h => h) (Or.inl ⟨by rfl, ?_⟩) (by assumption) ?_
                    rotate_left
                    · intro w hSw; (try dsimp only at hSw); go_simp; try with_reducible rfl
                    try simp only [Act.put, List.getElem_toArray, List.getElem_cons_succ, List.getElem_cons_zero, List.setIfInBounds_toArray, List.set_cons_zero, List.set_cons_succ]
                    refine wpAnyH_take (i := 2) (v := ?_) rfl (by kernel_rfl) (by kernel_rfl) (by kernel_rfl) (fun _ _ _ h => h) (Or.inl ⟨by rfl, ?_⟩) (by assumption) ?_
                    rotate_left
                    · intro w hSw; (try dsimp only at hSw); go_simp; try with_reducible rfl
                    try simp only [Act.put, List.getElem_toArray, List.getElem_cons_succ, List.getElem_cons_zero, List.setIfInBounds_toArray, List.set_cons_zero, List.set_cons_succ]
                    refine wpAnyH_take (i := 3) (v := ?_) rfl (by kernel_rfl) (by kernel_rfl) (by kernel_rfl) (fun _ _ _ h => h) (Or.inl ⟨by rfl, ?_⟩) (by assumption) ?_
                    rotate_left
                    · intro w hSw; (try dsimp only at hSw); go_simp; try with_reducible rfl
                    try simp only [Act.put, List.getElem_toArray, List.getElem_cons_succ, List.getElem_cons_zero, List.setIfInBounds_toArray, List.set_cons_zero, List.set_cons_succ]
                    refine wpAnyH_take (i := 4) (v := ?_) rfl (by kernel_rfl) (by kernel_rfl) (by kernel_rfl) (fun _ _ _ h => h) (Or.inl ⟨by rfl, ?_⟩) (by assumption) ?_
                    rotate_left
                    · intro w hSw; (try dsimp only at hSw); go_simp; try with_reducible rfl
                    try simp only [Act.put, List.getElem_toArray, List.getElem_cons_succ, List.getElem_cons_zero, List.setIfInBounds_toArray, List.set_cons_zero, List.set_cons_succ]
                    refine wpAnyH_take (i := 5) (v := ?_) rfl (by kernel_rfl) (by kernel_rfl) (by kernel_rfl) (fun _ _ _ h => h) (Or.inl ⟨by rfl, ?_⟩) (by assumption) ?_
                    rotate_left
                    · intro w hSw; (try dsimp only at hSw); go_simp; try with_reducible rfl
                    try simp only [Act.put, List.getElem_toArray, List.getElem_cons_succ, List.getElem_cons_zero, List.setIfInBounds_toArray, List.set_cons_zero, List.set_cons_succ]
                    refine wpAnyH_take (i := 6) (v := ?_) rfl (by kernel_rfl) (by kernel_rfl) (by kernel_rfl) (fun _ _ _ h => h) (Or.inl ⟨by rfl, ?_⟩) (by assumption) ?_
                    rotate_left
                    · intro w hSw; (try dsimp only at hSw); go_simp; try with_reducible rfl
                    try simp only [Act.put, List.getElem_toArray, List.getElem_cons_succ, List.getElem_cons_zero, List.setIfInBounds_toArray, List.set_cons_zero, List.set_cons_succ]
                    refine wpAnyH_take (i := 7) (v := ?_) rfl (by kernel_rfl) (by kernel_rfl) (by kernel_rfl) (fun _ _ _ h => h) (Or.inl ⟨by rfl, ?_⟩) (by assumption) ?_
                    rotate_left
                    · intro w hSw; (try dsimp only at hSw); go_simp; try with_reducible rfl
                    try simp only [Act.put, List.getElem_toArray, List.getElem_cons_succ, List.getElem_cons_zero, List.setIfInBounds_toArray, List.set_cons_zero, List.set_cons_succ]
                    refine wpAnyH_take (i := 8) (v := ?_) rfl (by kernel_rfl) (by kernel_rfl) (by kernel_rfl) (fun _ _ _ h => h) (Or.inl ⟨by rfl, ?_⟩) (by assumption) ?_
                    rotate_left
                    · intro w hSw; (try dsimp only at hSw); go_simp; try with_reducible rfl
                    try simp only [Act.put, List.getElem_toArray, List.getElem_cons_succ, List.getElem_cons_zero, List.setIfInBounds_toArray, List.set_cons_zero, List.set_cons_succ]
                    refine wpAnyH_take (i := 9) (v := ?_) rfl (by kernel_rfl) (by kernel_rfl) (by kernel_rfl) (fun _ _ _ h => h) (Or.inl ⟨by rfl, ?_⟩) (by assumption) ?_
                    rotate_left
                    · intro w hSw; (try dsimp only at hSw); go_simp; try with_reducible rfl
                    try simp only [Act.put, List.getElem_toArray, List.getElem_cons_succ, List.getElem_cons_zero, List.setIfInBounds_toArray, List.set_cons_zero, List.set_cons_succ]
                    refine wpAnyH_take (i := 10) (v := ?_) rfl (by kernel_rfl) (by kernel_rfl) (by kernel_rfl) (fun _ _ _ h => h) (Or.inl ⟨by rfl, ?_⟩) (by assumption) ?_
                    rotate_left
                    · intro w hSw; (try dsimp only at hSw); go_simp; try with_reducible rfl
                    try simp only [Act.put, List.getElem_toArray, List.getElem_cons_succ, List.getElem_cons_zero, List.setIfInBounds_toArray, List.set_cons_zero, List.set_cons_succ]
                    refine wpAnyH_take (i := 11) (v := ?_) rfl (by kernel_rfl) (by kernel_rfl) (by kernel_rfl) (fun _ _ _ h => h) (Or.inl ⟨by rfl, ?_⟩) (by assumption) ?_
                    rotate_left
                    · intro w hSw; (try dsimp only at hSw); go_simp; try with_reducible rfl
                    try simp only [Act.put, List.getElem_toArray, List.getElem_cons_succ, List.getElem_cons_zero, List.setIfInBounds_toArray, List.set_cons_zero, List.set_cons_succ]
                    refine wpAnyH_take (i := 12) (v := ?_) rfl (by kernel_rfl) (by kernel_rfl) (by kernel_rfl) (fun _ _ _ h => h) (Or.inl ⟨by rfl, ?_⟩) (by assumption) ?_
                    rotate_left
                    · intro w hSw; (try dsimp only at hSw); go_simp; try with_reducible rfl
                    try simp only [Act.put, List.getElem_toArray, List.getElem_cons_succ, List.getElem_cons_zero, List.setIfInBounds_toArray, List.set_cons_zero, List.set_cons_succ]
                    refine wpAnyH_take (i := 13) (v := ?_) rfl (by kernel_rfl) (by kernel_rfl) (by kernel_rfl) (fun _ _ _ h => h) (Or.inl ⟨by rfl, ?_⟩) (by assumption) ?_
                    rotate_left
                    · intro w hSw; (try dsimp only at hSw); go_simp; try with_reducible rfl
                    try simp only [Act.put, List.getElem_toArray, List.getElem_cons_succ, List.getElem_cons_zero, List.setIfInBounds_toArray, List.set_cons_zero, List.set_cons_succ]
                    refine wpAnyH_take (i := 14) (v := ?_) rfl (by kernel_rfl) (by kernel_rfl) (by kernel_rfl) (fun _ _ _ h => h) (Or.inl ⟨by rfl, ?_⟩) (by assumption) ?_
                    rotate_left
                    · intro w hSw; (try dsimp only at hSw); go_simp; try with_reducible rfl
                    try simp only [Act.put, List.getElem_toArray, List.getElem_cons_succ, List.getElem_cons_zero, List.setIfInBounds_toArray, List.set_cons_zero, List.set_cons_succ]
                    refine wpAnyH_take (i := 15) (v := ?_) rfl (by kernel_rfl) (by kernel_rfl) (by kernel_rfl) (fun _ _ _ h => h) (Or.inl ⟨by rfl, ?_⟩) (by assumption) ?_
                    rotate_left
                    · intro w hSw; (try dsimp only at hSw); go_simp; try with_reducible rfl
                    try simp only [Act.put, List.getElem_toArray, List.getElem_cons_succ, List.getElem_cons_zero, List.setIfInBounds_toArray, List.set_cons_zero, List.set_cons_succ]
                    refine wpAnyH_take (i := 16) (v := ?_) rfl (by kernel_rfl) (by kernel_rfl) (by kernel_rfl) (fun _ _ _ h => h) (Or.inl ⟨by rfl, ?_⟩) (by assumption) ?_
                    rotate_left
                    · intro w hSw; (try dsimp only at hSw); go_simp; try with_reducible rfl
                    try simp only [Act.put, List.getElem_toArray, List.getElem_cons_succ, List.getElem_cons_zero, List.setIfInBounds_toArray, List.set_cons_zero, List.set_cons_succ]
                    refine wpAnyH_take (i := 17) (v := ?_) rfl (by kernel_rfl) (by kernel_rfl) (by kernel_rfl) (fun _ _ _ h => h) (Or.inl ⟨by rfl, ?_⟩) (by assumption) ?_
                    rotate_left
                    · intro w hSw; (try dsimp only at hSw); go_simp; try with_reducible rfl
                    try simp only [Act.put, List.getElem_toArray, List.getElem_cons_succ, List.getElem_cons_zero, List.setIfInBounds_toArray, List.set_cons_zero, List.set_cons_succ]
                    refine wpAnyH_take (i := 18) (v := ?_) rfl (by kernel_rfl) (by kernel_rfl) (by kernel_rfl) (fun _ _ _ h => h) (Or.inl ⟨by rfl, ?_⟩) (by assumption) ?_
                    rotate_left
                    · intro w hSw; (try dsimp only at hSw); go_simp; try with_reducible rfl
                    try simp only [Act.put, List.getElem_toArray, List.getElem_cons_succ, List.getElem_cons_zero, List.setIfInBounds_toArray, List.set_cons_zero, List.set_cons_succ]
                    refine wpAnyH_take (i := 22) (v := ?_) rfl (by kernel_rfl) (by kernel_rfl) (by kernel_rfl) (fun _ _ _ h => h) (Or.inl ⟨by rfl, ?_⟩) (by assumption) ?_
                    rotate_left
                    · intro w hSw; (try dsimp only at hSw); go_simp; try with_reducible rfl
                    try simp only [Act.put, List.getElem_toArray, List.getElem_cons_succ, List.getElem_cons_zero, List.setIfInBounds_toArray, List.set_cons_zero, List.set_cons_succ]
                    refine wpAnyH_take (i := 23) (v := ?_) rfl (by kernel_rfl) (by kernel_rfl) (by kernel_rfl) (fun _ _ _ h => h) (Or.inl ⟨by rfl, ?_⟩) (by assumption) ?_
                    rotate_left
                    · intro w hSw; (try dsimp only at hSw); go_simp; try with_reducible rfl
                    try simp only [Act.put, List.getElem_toArray, List.getElem_cons_succ, List.getElem_cons_zero, List.setIfInBounds_toArray, List.set_cons_zero, List.set_cons_succ]
                    refine wpAnyH_take (i := 24) (v := ?_) rfl (by kernel_rfl) (by kernel_rfl) (by kernel_rfl) (fun _ _ _ h => h) (Or.inl ⟨by rfl, ?_⟩) (by assumption) ?_
                    rotate_left
                    · intro w hSw; (try dsimp only at hSw); go_simp; try with_reducible rfl
                    try simp only [Act.put, List.getElem_toArray, List.getElem_cons_succ, List.getElem_cons_zero, List.setIfInBounds_toArray, List.set_cons_zero, List.set_cons_succ]
                    refine wpAnyH_ready (rs := [19]) (by kernel_rfl) (by simp) ?_
                    refine AllReadyH.cons rfl (fun K hK => ?_) AllReadyH.nil
                    go_wp2_with (go_at_call 83; refine (HVq.out _ hbd).mono ?_; rintro e w3 ⟨g3, m3, c3, rfl, hp3, hc3, hg3⟩; have hS3 := HCS.out _ hg3; refine Hid.out ?_)
                    refine (show ∀ {p : Prop}, p → Hid p from fun h => h) ?_
                    refine hK.out _ _ hS3 (fun hHeld => ?_)
                    clear hK K
                    try simp only [Act.put, List.getElem_toArray, List.getElem_cons_succ, List.getElem_cons_zero, List.setIfInBounds_toArray, List.set_cons_zero, List.set_cons_succ]
                    refine wpAnyH_ready (rs := [20]) (by kernel_rfl) (by simp) ?_
                    refine AllReadyH.cons rfl (fun K hK => ?_) AllReadyH.nil
                    go_simp
                    refine hK.out _ _ (by assumption) (fun hHeld => ?_)
                    clear hK K
                    try simp only [Act.put, List.getElem_toArray, List.getElem_cons_succ, List.getElem_cons_zero, List.setIfInBounds_toArray, List.set_cons_zero, List.set_cons_succ]
                    refine wpAnyH_ready (rs := [21]) (by kernel_rfl) (by simp) ?_
                    refine AllReadyH.cons rfl (fun K hK => ?_) AllReadyH.nil
                    go_simp
                    refine hK.out _ _ (by assumption) (fun hHeld => ?_)
                    clear hK K
                    try simp only [Act.put, List.getElem_toArray, List.getElem_cons_succ, List.getElem_cons_zero, List.setIfInBounds_toArray, List.set_cons_zero, List.set_cons_succ]
                    refine wpAnyH_ready (rs := [25]) (by kernel_rfl) (by simp) ?_
                    refine AllReadyH.cons rfl (fun K hK => ?_) AllReadyH.nil
                    go_simp
                    refine hK.out _ _ (by assumption) (fun hHeld => ?_)
                    clear hK K
                    try simp only [Act.put, List.getElem_toArray, List.getElem_cons_succ, List.getElem_cons_zero, List.setIfInBounds_toArray, List.set_cons_zero, List.set_cons_succ]
                    refine wpAnyH_ready (rs := [26]) (by kernel_rfl) (by simp) ?_
                    refine AllReadyH.cons rfl (fun K hK => ?_) AllReadyH.nil
                    go_simp
                    refine hK.out _ _ (by assumption) (fun hHeld => ?_)
                    clear hK K
                    try simp only [Act.put, List.getElem_toArray, List.getElem_cons_succ, List.getElem_cons_zero, List.setIfInBounds_toArray, List.set_cons_zero, List.set_cons_succ]
                    refine wpAnyH_ready (rs := [27]) (by kernel_rfl) (by simp) ?_
                    refine AllReadyH.cons rfl (fun K hK => ?_) AllReadyH.nil
                    go_simp
                    refine hK.out _ _ (by assumption) (fun hHeld => ?_)
                    clear hK K
                    try simp only [Act.put, List.getElem_toArray, List.getElem_cons_succ, List.getElem_cons_zero, List.setIfInBounds_toArray, List.set_cons_zero, List.set_cons_succ]
                    refine wpAnyH_done (by kernel_rfl) ?_ _
                    go_wp2
                    go_ret
                    exact ⟨false, rfl, ⟨fun h => (by cases h), fun h => absurd h HN.out⟩, HB0.out.up (HG2.out.up hg3)⟩
              · have d1 : decide (N ≤ lst) = true := decide_eq_true (by omega)
                have HN : Hid (¬ FP N ts) := fun hp => hL (HLst.out.1 (hp.2.2.2.1 k t HT.out).2.1)
                clear HLst hL HK HS
                go_wp2
                go_quiet (fail)
                go_wp2
                go_ret
                exact ⟨false, rfl, ⟨fun h => (by cases h), fun h => absurd h HN.out⟩, HB0.out.up (below_drewN HG2.out _)⟩
        · obtain rfl : k = n := by omega
          have HE : Hid (((s : Int) == N) = true ↔ FP N ts) := by
            show _ ↔ _
            rw [beq_iff_eq]
            constructor
            · intro hs
              exact ⟨h11, h12, by omega, fun i t ht => HK.out i (by have := (List.getElem?_eq_some_iff.1 ht).1; omega) t ht, by rw [hlen, ← HS.out]; exact hs⟩
            · intro hp
              have := hp.2.2.2.2
              rw [hlen, ← HS.out] at this
              exact this
          clear HK HS
          go_wp2
          go_ret
          exact ⟨_, rfl, HE.out, HB0.out.up hg⟩
    · have r2 : decide (12 < (n : Int)) = true := decide_eq_true (by omega)
      have HN : Hid (¬ FP N ts) := fun hp => by have := hp.2.2.1; omega
      go_enter Tryz.func173, Tryz.ntmps173
      go_wp2_with (go_at_call 81; refine (HI.out _ _ _ _).mono ?_; rintro e w1 ⟨rfl, hw⟩; have hw' := hw.symm; subst hw'; clear hw)
      go_ret
      exact ⟨false, rfl, ⟨fun h => (by cases h), fun h => absurd h HN.out⟩, HB0.out⟩
  · have r1 : decide (1 ≤ N ∧ N ≤ 12) = false := decide_eq_false h1
    have HN : Hid (¬ FP N ts) := fun hp => h1 ⟨hp.1, hp.2.1⟩
    go_enter Tryz.func173, Tryz.ntmps173
    go_wp2_with (go_at_call 81; refine (HI.out _ _ _ _).mono ?_; rintro e w1 ⟨rfl, hw⟩; have hw' := hw.symm; subst hw'; clear hw)
    go_ret
    exact ⟨false, rfl, ⟨fun h => (by cases h), fun h => absurd h HN.out⟩, HB0.out⟩
end Go.Proofs.YtkkplppcgnikoaaGreat
namespace Go.Proofs.YtkkplppcgnikoaaGreat

/-- what is seen matters as a set alone: fewer, more or others beside -/
theorem trun_less {r w s w1 s1 s' : List Int} (h : trun w s r = some (w1, s1)) (hs : ∀ x ∈ s', x ∈ s) : ∃ s1', trun w s' r = some (w1, s1') := by
  induction r generalizing w s s' with
  | nil => simp [trun] at h; exact ⟨s', by simp [trun, h.1]⟩
  | cons v r ih =>
    rcases trun_cons h with ⟨hu, h1⟩ | ⟨hu, hv, h1⟩
    · obtain ⟨s1', h2⟩ := ih h1 hs
      exact ⟨s1', by rw [trun_up hu]; exact h2⟩
    · obtain ⟨s1', h2⟩ := ih h1 (s' := v :: s') (fun x hx => by
        rcases List.mem_cons.1 hx with rfl | hx
        · simp
        · exact List.mem_cons_of_mem _ (hs x hx))
      exact ⟨s1', by rw [trun_down hu (fun h3 => hv (hs v h3))]; exact h2⟩
/-- what was seen and is not on the way does not stand in the list -/
theorem trun_avoid {r w s w1 s1 : List Int} (h : trun w s r = some (w1, s1)) {X : Int → Prop} (hX : ∀ x, X x → x ∈ s) (hw : ∀ x ∈ w, ¬ X x) : ∀ x ∈ r, ¬ X x := by
  induction r generalizing w s with
  | nil => simp
  | cons v r ih =>
    intro x hx
    rcases trun_cons h with ⟨hu, h1⟩ | ⟨hu, hv, h1⟩
    · rcases List.mem_cons.1 hx with rfl | hx
      · exact hw _ (isUp_mem hu)
      · exact ih h1 hX (fun y hy => hw y (List.mem_of_mem_tail hy)) x hx
    · rcases List.mem_cons.1 hx with rfl | hx
      · exact fun h2 => hv (hX _ h2)
      · exact ih h1 (fun y hy => List.mem_cons_of_mem _ (hX y hy)) (fun y hy => by
          rcases List.mem_cons.1 hy with rfl | hy
          · exact fun h2 => hv (hX _ h2)
          · exact hw y hy) x hx
theorem trun_way {r w s w1 s1 : List Int} (h : trun w s r = some (w1, s1)) (hn : w.Nodup) (hs : ∀ x ∈ w, x ∈ s) : w1.Nodup := by
  induction r generalizing w s with
  | nil => simp [trun] at h; rw [← h.1]; exact hn
  | cons v r ih =>
    rcases trun_cons h with ⟨hu, h1⟩ | ⟨hu, hv, h1⟩
    · exact ih h1 (hn.sublist (List.tail_sublist _)) (fun x hx => hs x (List.mem_of_mem_tail hx))
    · exact ih h1 (List.nodup_cons.2 ⟨fun h2 => hv (hs v h2), hn⟩) (fun x hx => by
        rcases List.mem_cons.1 hx with rfl | hx
        · simp
        · exact List.mem_cons_of_mem _ (hs x hx))

end Go.Proofs.YtkkplppcgnikoaaGreat
namespace Go.Proofs.YtkkplppcgnikoaaGreat
open Go.RowKit

end Go.Proofs.YtkkplppcgnikoaaGreat
namespace Go.Proofs.YtkkplppcgnikoaaGreat
open Go.RowKit

/-- a place of a step that is there -/
theorem go_at {t : List Int} {u v : Int} : (∃ k : Nat, goI t u v = (k : Int) ∧ k + 1 < t.length ∧ t[k]? = some u ∧ t[k + 1]? = some v ∧ ∀ j, j < k → goP t u v j = false) ∨ (goI t u v = -1 ∧ ∀ j, j + 1 < t.length → goP t u v j = false) := by
  rcases firstN_cases (goP t u v) (t.length - 1) with ⟨k, h1, h2, h3, h4⟩ | ⟨h1, h2⟩
  · refine .inl ⟨k, h4, by omega, ?_, ?_, h3⟩
    · simp [goP] at h2; exact h2.1
    · simp [goP] at h2; exact h2.2
  · exact .inr ⟨h2, fun j hj => h1 j (by omega)⟩

/-- the step from u to v is in the list -/
theorem goP_append_right {a b : List Int} {u v : Int} {j : Nat} (h : goP b u v j = true) : goP (a ++ b) u v (a.length + j) = true := by
  simp [goP] at h ⊢
  exact ⟨by rw [List.getElem?_append_right (by omega)]; simpa using h.1, by rw [List.getElem?_append_right (by omega)]; simpa [show a.length + j + 1 - a.length = j + 1 by omega] using h.2⟩

/-- a way that has the step from p up to q, or on whose way down q stands right above p, sees the step p to q: a walk that has gone down from q to p and comes to its end at the root goes back from p to q -/
theorem up_there {r : List Int} {w s w' s' : List Int} {p q : Int} {A B : List Int} (h : trun w s r = some (w', s')) (hw : w = A ++ p :: q :: B) (hl : w'.length ≤ B.length + 1) (x : List Int) (hx : w.head? = (x.getLast?)) :
    ∃ j, goP (x ++ r) p q j = true := by
  induction r generalizing w s A x with
  | nil =>
    simp [trun] at h
    rw [← h.1, hw] at hl
    simp at hl
    omega
  | cons v r ih =>
    have hxv : (x ++ [v]).getLast? = some v := by simp
    rcases trun_cons h with ⟨hu, h1⟩ | ⟨hu, hs, h1⟩
    · obtain ⟨c, z, e⟩ := isUp_some hu
      cases A with
      | nil =>
        rw [hw] at e
        simp at e
        obtain ⟨rfl, rfl, _⟩ := e
        -- the step is here
        rw [hw] at hx
        simp at hx
        rcases List.eq_nil_or_concat x with rfl | ⟨y, z2, e2⟩
        · simp at hx
        · rw [List.concat_eq_append] at e2
          subst e2
          simp at hx
          subst hx
          refine ⟨y.length, ?_⟩
          simp [goP]
      | cons d A =>
        have hw2 : w.tail = A ++ p :: q :: B := by rw [hw]; rfl
        have hh : w.tail.head? = some v := by rw [e]; rfl
        obtain ⟨j, hj⟩ := ih h1 hw2 (x ++ [v]) (by rw [hh, hxv])
        rw [List.append_assoc] at hj
        exact ⟨j, hj⟩
    · obtain ⟨j, hj⟩ := ih h1 (A := v :: A) (by rw [hw]; rfl) (x ++ [v]) (by rw [hxv]; rfl)
      rw [List.append_assoc] at hj
      exact ⟨j, hj⟩

theorem goP_append_left {a b : List Int} {u v : Int} {j : Nat} (h : goP a u v j = true) : goP (a ++ b) u v j = true := by
  simp [goP] at h ⊢
  have h1 := (List.getElem?_eq_some_iff.1 h.1).1
  have h2 := (List.getElem?_eq_some_iff.1 h.2).1
  exact ⟨by rw [List.getElem?_append_left h1]; exact h.1, by rw [List.getElem?_append_left h2]; exact h.2⟩
/-- where c stands right above p on the way, the list x has gone from p to c -/
def Adj (w x : List Int) : Prop := ∀ A c p B, w = A ++ c :: p :: B → ∃ j, goP x p c j = true
theorem adj_run {r : List Int} {w s w' s' x : List Int} (h : trun w s r = some (w', s')) (hA : Adj w x) (hx : w.head? = x.getLast?) : Adj w' (x ++ r) := by
  induction r generalizing w s x with
  | nil =>
    simp [trun] at h
    rw [← h.1, List.append_nil]
    exact hA
  | cons v r ih =>
    have hxv : (x ++ [v]).getLast? = some v := by simp
    rcases trun_cons h with ⟨hu, h1⟩ | ⟨hu, hs, h1⟩
    · obtain ⟨c, z, e⟩ := isUp_some hu
      have h2 : Adj w.tail (x ++ [v]) := fun A c2 p B e2 => by
        obtain ⟨j, hj⟩ := hA (c :: A) c2 p B (by rw [e] at e2 ⊢; simp at e2; rw [e2]; rfl)
        exact ⟨j, goP_append_left hj⟩
      have := ih h1 h2 (by rw [hxv, e]; rfl)
      rw [List.append_assoc] at this
      exact this
    · have h2 : Adj (v :: w) (x ++ [v]) := fun A c2 p B e2 => by
        cases A with
        | nil =>
          simp at e2
          obtain ⟨rfl, e2⟩ := e2
          rw [e2] at hx
          simp at hx
          rcases List.eq_nil_or_concat x with rfl | ⟨y, z2, e3⟩
          · simp at hx
          · rw [List.concat_eq_append] at e3
            subst e3
            simp at hx
            subst hx
            exact ⟨y.length, by simp [goP]⟩
        | cons d A =>
          simp at e2
          obtain ⟨j, hj⟩ := hA A c2 p B e2.2
          exact ⟨j, goP_append_left hj⟩
      have := ih h1 h2 (by rw [hxv]; rfl)
      rw [List.append_assoc] at this
      exact this
/-- a right tour that goes along an edge goes back, too -/
theorem go_back {t : List Int} {u v : Int} (hB : tB t = true) {k : Nat} (h1 : t[k]? = some u) (h2 : t[k + 1]? = some v) : ∃ j, goP t v u j = true := by
  obtain ⟨_, x0, s0, hrun⟩ := (tB_iff t).1 hB
  have hk1 := (List.getElem?_eq_some_iff.1 h2).1
  obtain ⟨Y, hY⟩ : ∃ Y, Y = t.drop (k + 2) := ⟨_, rfl⟩
  have e1 : t = t.take (k + 1) ++ (v :: Y) := by
    rw [hY]
    have := List.take_append_drop (k + 1) t
    rw [List.drop_eq_getElem_cons hk1] at this
    have e : t[k + 1] = v := by rw [List.getElem?_eq_getElem hk1] at h2; simpa using h2
    rw [e] at this
    exact this.symm
  have e2 : t.take (k + 1) = t.take k ++ [u] := take_snocF t k u h1
  have hr := hrun
  rw [e1, trun_append] at hr
  cases hq : trun [] [] (t.take (k + 1)) with
  | none => rw [hq] at hr; simp at hr
  | some z =>
    obtain ⟨w, s⟩ := z
    rw [hq] at hr
    simp only [Option.bind_some] at hr
    have htop : w.head? = some u := by rw [e2] at hq; exact trun_top hq
    have hlast : (t.take (k + 1)).getLast? = some u := by rw [e2]; simp
    rcases trun_cons hr with ⟨hu, h3⟩ | ⟨hu, hs, h3⟩
    · obtain ⟨c, z, e⟩ := isUp_some hu
      rw [e] at htop
      simp at htop
      subst htop
      have hadj := adj_run (x := []) hq (fun A c p B e => by simp at e) rfl
      rw [List.nil_append] at hadj
      obtain ⟨j, hj⟩ := hadj [] c v z (by rw [e]; rfl)
      rw [e1]
      exact ⟨j, goP_append_left hj⟩
    · cases w with
      | nil => simp at htop
      | cons c B =>
        simp at htop
        subst htop
        obtain ⟨j, hj⟩ := up_there (A := []) (p := v) (q := c) (B := B) h3 rfl (by simp) [v] rfl
        refine ⟨(t.take (k + 1)).length + j, ?_⟩
        have := goP_append_right (a := t.take (k + 1)) hj
        rw [show t.take (k + 1) ++ ([v] ++ Y) = t from e1.symm] at this
        exact this
end Go.Proofs.YtkkplppcgnikoaaGreat
namespace Go.Proofs.YtkkplppcgnikoaaGreat
open Go.RowKit

end Go.Proofs.YtkkplppcgnikoaaGreat
