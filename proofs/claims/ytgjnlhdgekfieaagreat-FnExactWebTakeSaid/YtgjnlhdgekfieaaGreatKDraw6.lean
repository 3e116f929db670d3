/- The specification's ForestOk. The specification's l07With: tours left out, others put in, all by their least vertices. Where Link and Cut stand: a forest, an edge, the answer's place. Boxes of forests (for a seat that has no laws' own types). Bytes in memory of the call's own. What the draws' cursor gives: some byte, some number below a bound, some text; the cursor stays right, and nothing else that was there turns. -/
import Derived.Test.YtgjnlhdgekfieaaGreatKFn7
import Derived.Test.YtgjnlhdgekfieaaGreatKSVerts
import Derived.Test.YtgjnlhdgekfieaaGreatKIFa9
import Derived.Test.YtgjnlhdgekfieaaGreatKBx7
import Derived.Deep.DeepCutAuto
import Derived.Test.YtgjnlhdgekfieaaGreatRows
import Derived.WalkKit
import Derived.OwnWalk
import Derived.Laws.IdiomStrings
import Derived.Laws.Bits64b
import Derived.WalkSpells
import Derived.WalkSmall
import Derived.BigQuiet
import Derived.Deep.QuietTactic
import Derived.Deep.RegionHeld3
import Derived.Deep.AppendLies
namespace Go.Proofs.YtgjnlhdgekfieaaGreat
open Go.RowKit

theorem vs_first {t : List Int} (hB : tB t = true) : (vsL t)[0]? = some (mnV t) := by
  have h := vs_pos hB
  have hx : (vsL t)[0]? = some ((vsL t)[0]'h) := List.getElem?_eq_getElem h
  rw [hx, mn_first hx]
theorem Is.at {w : World} {B b off n : Nat} {ls : List Int} (h : Is w B (some ⟨b, off, none⟩) n ls) {j : Nat} {x : Int} (hx : ls[j]? = some x) : w.cell? ⟨b, off + j, none⟩ = some (.int .i64 x) := by
  have hj := (List.getElem?_eq_some_iff.1 hx).1
  have hn := h.1
  rcases h.2 with h0 | ⟨b', off', hb, _, hc⟩
  · omega
  · simp at hb
    obtain ⟨rfl, rfl⟩ := hb
    exact hc j x hx
/-- a list that is not empty stands somewhere -/
theorem own_some {u : World} {B m c : Nat} {a : Option Addr} {xs : List Value} (h : u.ownsRow B 3 1 (.slice a m c) m xs) (hm : 0 < m) : ∃ g, a = some ⟨g, 0, none⟩ ∧ g < u.heap.size ∧ B ≤ g := by
  rcases h.2 with ⟨_, h0⟩ | ⟨g, cap, cur, hv, hrest⟩
  · omega
  · simp at hv
    obtain ⟨rfl, rfl⟩ := hv
    exact ⟨g, rfl, (h.lt g rfl).2, (h.lt g rfl).1⟩

/-- the first of a right tour's vertices -/
theorem vertsFirst {w2 : World} {q : List Int} (hB : tB q = true) (y : Option Addr) (cy : Nat) (hfq : q.length ≤ 3000000) (u : World) (hu : Good w2 u) (h : Is u u.heap.size y q.length q) :
    Calls Tryz.prog 90 #[.slice y q.length cy] u fun e v => ∃ g3 m3 c3, e = .returned (.slice (some ⟨g3, 0, none⟩) m3 c3) ∧ 0 < m3 ∧ v.cell? ⟨g3, 0, none⟩ = some (.int .i64 (mnV q)) ∧ Good w2 v :=
  (sVertsOf_any q q.length y cy hfq u h).mono fun e v ⟨a3, m3, c3, he, ho, hb⟩ => by
    have hm : (vsL q).length = m3 := by have := ho.1; rw [ic_len] at this; omega
    have hp : 0 < m3 := by have := vs_pos hB; omega
    obtain ⟨g, rfl, _, _⟩ := own_some ho hp
    exact ⟨g, m3, c3, he, hp, by rw [ho.cellAt 0 (by omega)]; exact ic_at (vs_first hB), hu.up hb⟩

set_option maxRecDepth 100000 in
set_option maxHeartbeats 8000000 in
theorem sForestOk_any (N : Int) (ts : List (List Int)) (n : Nat) (a : Option Addr) (c : Nat) (hn : n + lnS ts ≤ 1048576) (w : World) (h : Ts w w.heap.size a n ts) :
    Calls Tryz.prog 34 #[.agg #[.int .i64 N, .slice a n c]] w fun e w' => ∃ b, e = .returned (.bool b) ∧ (b = true ↔ FP N ts) ∧ Below w.heap.size w w' := by
  have b0 : Good w (w.alloc (.cells #[.int .i64 N, .slice a n c] 57)) := (Good.refl w).alloc _
  have HI := hideIt l01In_any
  have hlen := h.1
  have HA := hideIt (h.up b0)
  have HB0 := hideIt b0
  clear h b0
  by_cases h1 : 1 ≤ N ∧ N ≤ 12
  · have r1 : decide (1 ≤ N ∧ N ≤ 12) = true := decide_eq_true h1
    obtain ⟨h11, h12⟩ := h1
    by_cases hn12 : n ≤ 12
    · have r2 : decide (12 < (n : Int)) = false := decide_eq_false (by omega)
      have HC0 : Hid (∀ u, Good (w.alloc (.cells #[.int .i64 N, .slice a n c] 57)) u → u.cell? ⟨w.heap.size, 0, none⟩ = some (.int .i64 N) ∧ u.cell? ⟨w.heap.size, 1, none⟩ = some (.slice a n c)) := fun u hu => ⟨by rw [hu.cell (by simp)]; simp, by rw [hu.cell (by simp)]; simp⟩
      go_enter Tryz.func34, Tryz.ntmps34
      go_wp2_with (go_at_call 88; refine (HI.out _ _ _ _).mono ?_; rintro e w1 ⟨rfl, hw⟩; have hw' := hw.symm; subst hw'; clear hw)
      go_loopw [3, 4, 5] (fun al i _v wr => ∃ k s : Nat, k ≤ n ∧ s ≤ 12 * k ∧ i = .int .i64 (k : Int) ∧ al = .int .i64 (s : Int) ∧ Hid (s = cntV ts k) ∧ Hid (∀ j, j < k → FAt N ts j) ∧ Good (w.alloc (.cells #[.int .i64 N, .slice a n c] 57)) wr) (fun _ i _ _ => n - (intOf i).toNat)
      case atStart => exact ⟨0, 0, by omega, by omega, rfl, rfl, by show _ = _; rw [cntV_zero], fun j hj => by omega, Good.refl _⟩
      case round =>
        obtain ⟨k, s, hk, hsk, rfl, rfl, HS, HK, hg⟩ := hrel
        obtain ⟨k0, k1⟩ := HC0.out wr hg
        have HG := hideIt hg
        by_cases hlt : k < n
        · rcases (HA.out.up hg).2 with hz | ⟨b, off, rfl, hbl, hc⟩
          · omega
          · obtain ⟨t, ht⟩ : ∃ t, ts[k]? = some t := ⟨ts[k]'(by omega), List.getElem?_eq_getElem (by omega)⟩
            obtain ⟨x, cx, e0, iI, _⟩ := hc k t ht
            have hfit : t.length ≤ 3000000 := by have := lnS_mem (List.mem_of_getElem? ht); omega
            have b1 : (0 : Int) ≤ (k : Int) := by omega
            have b2 : (k : Int) < (n : Int) := by omega
            have HTO := hideIt (sTourOk_any t t.length x cx hfit wr iI)
            have HIx := hideIt iI
            have HCt := hideIt hc
            cases hB : tB t with
            | false =>
              rw [hB] at HTO
              have HN : Hid (¬ FP N ts) := fun hp => by have := (hp.2.2.2.1 k t ht).1; rw [hB] at this; cases this
              clear hc ht iI hB HK HS
              go_wp2_with (go_at_call 100; refine HTO.out.mono ?_; rintro e w1 ⟨rfl, hb1⟩)
              go_ret
              exact ⟨false, rfl, ⟨fun h => (by cases h), fun h => absurd h HN.out⟩, HB0.out.up (HG.out.up hb1)⟩
            | true =>
              rw [hB] at HTO
              have HBt := hideIt hB
              have HT := hideIt ht
              clear hc ht iI hB
              go_wp2_with (go_at_call 100; refine HTO.out.mono ?_; rintro e w1 ⟨rfl, hb1⟩; refine Hid.out ?_)
              refine (show ∀ {p : Prop}, p → Hid p from fun h => h) ?_
              have hb1 : Good wr w1 := hb1
              have HG1 := hideIt (HG.out.up hb1)
              have e1 : w1.cell? ⟨b, off + k, none⟩ = some (.slice x t.length cx) := by rw [hb1.cell hbl]; exact e0
              obtain ⟨k2, k3⟩ := HC0.out w1 HG1.out
              have HV := hideIt (sVertsOf_any t t.length x cx hfit w1 (HIx.out.up hb1))
              have HCt1 : Hid (∀ u, Good w1 u → ∀ (j : Nat) (q : List Int), ts[j]? = some q → ∃ (a' : Option Addr) (c' : Nat), u.cell? ⟨b, off + j, none⟩ = some (.slice a' q.length c') ∧ Is u u.heap.size a' q.length q ∧ q.length ≤ c') := fun u hu j q hq => by
                obtain ⟨a', c', p1, p2, p3⟩ := HCt.out j q hq
                have hu2 := hb1.up hu
                exact ⟨a', c', by rw [hu2.cell hbl]; exact p1, p2.up hu2, p3⟩
              have hbl1 : b < w1.heap.size := Nat.lt_of_lt_of_le hbl hb1.size
              clear HTO k0 k1 e0 HCt HIx hb1
              go_wp2_with (go_at_call 90; refine HV.out.mono ?_; rintro e w2 ⟨a2, m2, c2, rfl, ho, hb2⟩; refine Hid.out ?_)
              refine (show ∀ {p : Prop}, p → Hid p from fun h => h) ?_
              have hb2 : Good w1 w2 := hb2
              have hm2 : (vsL t).length = m2 := by have := ho.1; rw [ic_len] at this; omega
              have hp2 : 0 < m2 := by have := vs_pos HBt.out; omega
              have hl2 : m2 ≤ 12 := by have := vsL_len t; omega
              obtain ⟨g, rfl, hgl, hgw⟩ := own_some ho hp2
              have HO := hideIt ho
              have HG2 := hideIt (HG1.out.up hb2)
              have HM2 := hideIt hm2
              have HCr : Hid (∀ u, Good w2 u → ∀ (j : Nat) (y : Int), (vsL t)[j]? = some y → u.cell? ⟨g, j, none⟩ = some (.int .i64 y)) := fun u hu j y hy => by
                rw [hu.cell hgl, HO.out.cellAt j (by have := (List.getElem?_eq_some_iff.1 hy).1; omega)]
                exact ic_at hy
              have HCt2 : Hid (∀ u, Good w2 u → ∀ (j : Nat) (q : List Int), ts[j]? = some q → ∃ (a' : Option Addr) (c' : Nat), u.cell? ⟨b, off + j, none⟩ = some (.slice a' q.length c') ∧ Is u u.heap.size a' q.length q ∧ q.length ≤ c') := fun u hu j q hq => HCt1.out u (hb2.up hu) j q hq
              obtain ⟨lst, hlst⟩ : ∃ y, (vsL t)[(vsL t).length - 1]? = some y := ⟨(vsL t)[(vsL t).length - 1]'(by omega), List.getElem?_eq_getElem _⟩
              have HLst := hideIt (vs_last HBt.out (N := N) hlst)
              have l0 := HCr.out w2 (Good.refl w2) _ _ hlst
              rw [hm2] at l0
              have f0 := HCr.out w2 (Good.refl w2) _ _ (vs_first HBt.out)
              obtain ⟨k4, k5⟩ := HC0.out w2 HG2.out
              have x1 : (0 : Int) ≤ (m2 : Int) - 1 := by omega
              have x1b : (1 : Int) ≤ (m2 : Int) := by omega
              have x2 : (m2 : Int) - 1 < (m2 : Int) := by omega
              have x3 : ((m2 : Int) - 1).toNat = m2 - 1 := by omega
              have hbl2 : b < w2.heap.size := Nat.lt_of_lt_of_le hbl1 hb2.size
              clear HV k2 k3 e1 HCt1 ho hb2 hm2 hlst HG HG1
              by_cases hL : lst < N
              · have d1 : decide (N ≤ lst) = false := decide_eq_false (by omega)
                have HLt := hideIt (HLst.out.2 hL)
                clear HLst hL
                have x0 : (0 : Int) < (m2 : Int) := by omega
                rcases k with _ | i
                · have HLess : Hid (∀ j q, j + 1 = 0 → ts[j]? = some q → mnV q < mnV t) := fun j q hj => by omega
                  go_upto_region 11 with fail
                  go_quiet (fail)
                  go_wp2
                  refine wp_loop_rounds 1 ?_
                  rw [rounds_succ]
                  go_wp2
                  refine ⟨⟨1, m2, by omega, by omega, by go_num, by have := HS.out; rw [cntV_zero] at this; subst this; go_num, ?_, fun j hj => ?_, below_drewN HG2.out _⟩, by simp [intOf]; omega⟩
                  · show _ = _
                    rw [cntV_succ HT.out, cntV_zero, HM2.out]
                    omega
                  · obtain rfl : j = 0 := by omega
                    intro t' ht'
                    rw [HT.out] at ht'
                    cases ht'
                    exact ⟨HBt.out, HLt.out, HLess.out, fun q s' hq => by omega⟩
                · obtain ⟨q, hq⟩ : ∃ q, ts[i]? = some q := ⟨ts[i]'(by omega), List.getElem?_eq_getElem (by omega)⟩
                  obtain ⟨y, cy, e1, iQ, _⟩ := HCt2.out w2 (Good.refl w2) i q hq
                  have hBq := (HK.out i (by omega) q hq).1
                  have hfq : q.length ≤ 3000000 := by have := lnS_mem (List.mem_of_getElem? hq); omega
                  have HVq := hideIt (fun u (hu : Good w2 u) => vertsFirst (w2 := w2) hBq y cy hfq u hu (iQ.up hu))
                  have HCS : Hid (∀ u, Good w2 u → (u.cell? ⟨w.heap.size, 0, none⟩ = some (.int .i64 N) ∧ u.cell? ⟨w.heap.size, 1, none⟩ = some (.slice (some ⟨b, off, none⟩) n c)) ∧ (u.cell? ⟨g, m2 - 1, none⟩ = some (.int .i64 lst) ∧ u.cell? ⟨g, 0, none⟩ = some (.int .i64 (mnV t))) ∧ u.cell? ⟨b, off + i, none⟩ = some (.slice y q.length cy)) := fun u hu =>
                    ⟨HC0.out u (HG2.out.up hu), ⟨by rw [hu.cell hgl]; exact l0, by rw [hu.cell hgl]; exact f0⟩, by rw [hu.cell hbl2]; exact e1⟩
                  have hbd := (Good.refl w2).drew
                  have hS0 := HCS.out _ hbd
                  have ek : ((i + 1 : Nat) : Int) = (i : Int) + 1 := by omega
                  rw [ek] at b1 b2
                  have b3 : (0 : Int) ≤ (i : Int) := by omega
                  have b4 : (i : Int) < (n : Int) := by omega
                  have tn : ((i : Int) + 1).toNat = i + 1 := by omega
                  have d0 : decide ((0 : Int) < (i : Int) + 1) = true := decide_eq_true (by omega)
                  have hw1 : IntKind.i64.wrap (i : Int) = (i : Int) := by rw [IntKind.wrap_i64]; omega
                  have hw2 : IntKind.i64.wrap ((m2 : Int) - 1) = (m2 : Int) - 1 := by rw [IntKind.wrap_i64]; omega
                  rw [ek]
                  have HQ := hideIt hq
                  by_cases hLess : mnV q < mnV t
                  · have d2 : decide (mnV t ≤ mnV q) = false := decide_eq_false (by omega)
                    have HLess := hideIt hLess
                    clear ek hq hBq iQ k4 k5 l0 f0 e1 hLess
                    go_upto_region 11 with fail
                    refine wp_region_held_drew (S := (fun u => (u.cell? ⟨w.heap.size, 0, none⟩ = some (.int .i64 N) ∧ u.cell? ⟨w.heap.size, 1, none⟩ = some (.slice (some ⟨b, off, none⟩) n c)) ∧ (u.cell? ⟨g, m2 - 1, none⟩ = some (.int .i64 lst) ∧ u.cell? ⟨g, 0, none⟩ = some (.int .i64 (mnV t))) ∧ u.cell? ⟨b, off + i, none⟩ = some (.slice y q.length cy))) (by kernel_rfl) hS0 (fun hHeld => ?_)
                    refine wpAnyH_take (i := 0) (v := ?_) rfl (by kernel_rfl) (by kernel_rfl) (by kernel_rfl) (fun _ _ _ h => h) (Or.inl ⟨by rfl, ?_⟩) (by assumption) ?_
                    rotate_left
                    · intro w hSw; (try dsimp only at hSw); go_simp; try with_reducible rfl
                    try simp only [Act.put, List.getElem_toArray, List.getElem_cons_zero, List.setIfInBounds_toArray, List.set_cons_zero, List.set_cons_succ]
                    refine wpAnyH_take (i := 1) (v := ?_) rfl (by kernel_rfl) (by kernel_rfl) (by kernel_rfl) (fun _ _ _ h => h) (Or.inl ⟨by rfl, ?_⟩) (by assumption) ?_
                    rotate_left
                    · intro w hSw; (try dsimp only at hSw); go_simp; try with_reducible rfl
                    try simp only [Act.put, List.getElem_toArray, List.getElem_cons_succ, List.getElem_cons_zero, List.setIfInBounds_toArray, List.set_cons_zero, List.set_cons_succ]
                    refine wpAnyH_take (i := 2) (v := ?_) rfl (by kernel_rfl) (by kernel_rfl) (by kernel_rfl) (fun _ _ _ h => h) (Or.inl ⟨by rfl, ?_⟩) (by assumption) ?_
                    rotate_left
                    · intro w hSw; (try dsimp only at hSw); go_simp; try with_reducible rfl
                    try simp only [Act.put, List.getElem_toArray, List.getElem_cons_succ, List.getElem_cons_zero, List.setIfInBounds_toArray, List.set_cons_zero, List.set_cons_succ]
                    refine wpAnyH_take (i := 3) (v := ?_) rfl (by kernel_rfl) (by kernel_rfl) (by kernel_rfl) (fun _ _ _ h => h) (Or.inl ⟨by rfl, ?_⟩) (by assumption) ?_
                    rotate_left
                    · intro w hSw; (try dsimp only at hSw); go_simp; try with_reducible rfl
                    try simp only [Act.put, List.getElem_toArray, List.getElem_cons_succ, List.getElem_cons_zero, List.setIfInBounds_toArray, List.set_cons_zero, List.set_cons_succ]
                    refine wpAnyH_take (i := 4) (v := ?_) rfl (by kernel_rfl) (by kernel_rfl) (by kernel_rfl) (fun _ _ _ h => h) (Or.inl ⟨by rfl, ?_⟩) (by assumption) ?_
                    rotate_left
                    · intro w hSw; (try dsimp only at hSw); go_simp; try with_reducible rfl
                    try simp only [Act.put, List.getElem_toArray, List.getElem_cons_succ, List.getElem_cons_zero, List.setIfInBounds_toArray, List.set_cons_zero, List.set_cons_succ]
                    refine wpAnyH_take (i := 5) (v := ?_) rfl (by kernel_rfl) (by kernel_rfl) (by kernel_rfl) (fun _ _ _ h => h) (Or.inl ⟨by rfl, ?_⟩) (by assumption) ?_
                    rotate_left
                    · intro w hSw; (try dsimp only at hSw); go_simp; try with_reducible rfl
                    try simp only [Act.put, List.getElem_toArray, List.getElem_cons_succ, List.getElem_cons_zero, List.setIfInBounds_toArray, List.set_cons_zero, List.set_cons_succ]
                    refine wpAnyH_take (i := 6) (v := ?_) rfl (by kernel_rfl) (by kernel_rfl) (by kernel_rfl) (fun _ _ _ h => h) (Or.inl ⟨by rfl, ?_⟩) (by assumption) ?_
                    rotate_left
                    · intro w hSw; (try dsimp only at hSw); go_simp; try with_reducible rfl
                    try simp only [Act.put, List.getElem_toArray, List.getElem_cons_succ, List.getElem_cons_zero, List.setIfInBounds_toArray, List.set_cons_zero, List.set_cons_succ]
                    refine wpAnyH_take (i := 7) (v := ?_) rfl (by kernel_rfl) (by kernel_rfl) (by kernel_rfl) (fun _ _ _ h => h) (Or.inl ⟨by rfl, ?_⟩) (by assumption) ?_
                    rotate_left
                    · intro w hSw; (try dsimp only at hSw); go_simp; try with_reducible rfl
                    try simp only [Act.put, List.getElem_toArray, List.getElem_cons_succ, List.getElem_cons_zero, List.setIfInBounds_toArray, List.set_cons_zero, List.set_cons_succ]
                    refine wpAnyH_take (i := 8) (v := ?_) rfl (by kernel_rfl) (by kernel_rfl) (by kernel_rfl) (fun _ _ _ h => h) (Or.inl ⟨by rfl, ?_⟩) (by assumption) ?_
                    rotate_left
                    · intro w hSw; (try dsimp only at hSw); go_simp; try with_reducible rfl
                    try simp only [Act.put, List.getElem_toArray, List.getElem_cons_succ, List.getElem_cons_zero, List.setIfInBounds_toArray, List.set_cons_zero, List.set_cons_succ]
                    refine wpAnyH_take (i := 9) (v := ?_) rfl (by kernel_rfl) (by kernel_rfl) (by kernel_rfl) (fun _ _ _ h => h) (Or.inl ⟨by rfl, ?_⟩) (by assumption) ?_
                    rotate_left
                    · intro w hSw; (try dsimp only at hSw); go_simp; try with_reducible rfl
                    try simp only [Act.put, List.getElem_toArray, List.getElem_cons_succ, List.getElem_cons_zero, List.setIfInBounds_toArray, List.set_cons_zero, List.set_cons_succ]
                    refine wpAnyH_take (i := 10) (v := ?_) rfl (by kernel_rfl) (by kernel_rfl) (by kernel_rfl) (fun _ _ _ h => h) (Or.inl ⟨by rfl, ?_⟩) (by assumption) ?_
                    rotate_left
                    · intro w hSw; (try dsimp only at hSw); go_simp; try with_reducible rfl
                    try simp only [Act.put, List.getElem_toArray, List.getElem_cons_succ, List.getElem_cons_zero, List.setIfInBounds_toArray, List.set_cons_zero, List.set_cons_succ]
                    refine wpAnyH_take (i := 11) (v := ?_) rfl (by kernel_rfl) (by kernel_rfl) (by kernel_rfl) (fun _ _ _ h => h) (Or.inl ⟨by rfl, ?_⟩) (by assumption) ?_
                    rotate_left
                    · intro w hSw; (try dsimp only at hSw); go_simp; try with_reducible rfl
                    try simp only [Act.put, List.getElem_toArray, List.getElem_cons_succ, List.getElem_cons_zero, List.setIfInBounds_toArray, List.set_cons_zero, List.set_cons_succ]
                    refine wpAnyH_take (i := 12) (v := ?_) rfl (by kernel_rfl) (by kernel_rfl) (by kernel_rfl) (fun _ _ _ h => h) (Or.inl ⟨by rfl, ?_⟩) (by assumption) ?_
                    rotate_left
                    · intro w hSw; (try dsimp only at hSw); go_simp; try with_reducible rfl
                    try simp only [Act.put, List.getElem_toArray, List.getElem_cons_succ, List.getElem_cons_zero, List.setIfInBounds_toArray, List.set_cons_zero, List.set_cons_succ]
                    refine wpAnyH_take (i := 13) (v := ?_) rfl (by kernel_rfl) (by kernel_rfl) (by kernel_rfl) (fun _ _ _ h => h) (Or.inl ⟨by rfl, ?_⟩) (by assumption) ?_
                    rotate_left
                    · intro w hSw; (try dsimp only at hSw); go_simp; try with_reducible rfl
                    try simp only [Act.put, List.getElem_toArray, List.getElem_cons_succ, List.getElem_cons_zero, List.setIfInBounds_toArray, List.set_cons_zero, List.set_cons_succ]
                    refine wpAnyH_take (i := 14) (v := ?_) rfl (by kernel_rfl) (by kernel_rfl) (by kernel_rfl) (fun _ _ _ h => h) (Or.inl ⟨by rfl, ?_⟩) (by assumption) ?_
                    rotate_left
                    · intro w hSw; (try dsimp only at hSw); go_simp; try with_reducible rfl
                    try simp only [Act.put, List.getElem_toArray, List.getElem_cons_succ, List.getElem_cons_zero, List.setIfInBounds_toArray, List.set_cons_zero, List.set_cons_succ]
                    refine wpAnyH_take (i := 15) (v := ?_) rfl (by kernel_rfl) (by kernel_rfl) (by kernel_rfl) (fun _ _ _ h => h) (Or.inl ⟨by rfl, ?_⟩) (by assumption) ?_
                    rotate_left
                    · intro w hSw; (try dsimp only at hSw); go_simp; try with_reducible rfl
                    try simp only [Act.put, List.getElem_toArray, List.getElem_cons_succ, List.getElem_cons_zero, List.setIfInBounds_toArray, List.set_cons_zero, List.set_cons_succ]
                    refine wpAnyH_take (i := 16) (v := ?_) rfl (by kernel_rfl) (by kernel_rfl) (by kernel_rfl) (fun _ _ _ h => h) (Or.inl ⟨by rfl, ?_⟩) (by assumption) ?_
                    rotate_left
                    · intro w hSw; (try dsimp only at hSw); go_simp; try with_reducible rfl
                    try simp only [Act.put, List.getElem_toArray, List.getElem_cons_succ, List.getElem_cons_zero, List.setIfInBounds_toArray, List.set_cons_zero, List.set_cons_succ]
                    refine wpAnyH_take (i := 17) (v := ?_) rfl (by kernel_rfl) (by kernel_rfl) (by kernel_rfl) (fun _ _ _ h => h) (Or.inl ⟨by rfl, ?_⟩) (by assumption) ?_
                    rotate_left
                    · intro w hSw; (try dsimp only at hSw); go_simp; try with_reducible rfl
                    try simp only [Act.put, List.getElem_toArray, List.getElem_cons_succ, List.getElem_cons_zero, List.setIfInBounds_toArray, List.set_cons_zero, List.set_cons_succ]
                    refine wpAnyH_take (i := 18) (v := ?_) rfl (by kernel_rfl) (by kernel_rfl) (by kernel_rfl) (fun _ _ _ h => h) (Or.inl ⟨by rfl, ?_⟩) (by assumption) ?_
                    rotate_left
                    · intro w hSw; (try dsimp only at hSw); go_simp; try with_reducible rfl
                    try simp only [Act.put, List.getElem_toArray, List.getElem_cons_succ, List.getElem_cons_zero, List.setIfInBounds_toArray, List.set_cons_zero, List.set_cons_succ]
                    refine wpAnyH_take (i := 22) (v := ?_) rfl (by kernel_rfl) (by kernel_rfl) (by kernel_rfl) (fun _ _ _ h => h) (Or.inl ⟨by rfl, ?_⟩) (by assumption) ?_
                    rotate_left
                    · intro w hSw; (try dsimp only at hSw); go_simp; try with_reducible rfl
                    try simp only [Act.put, List.getElem_toArray, List.getElem_cons_succ, List.getElem_cons_zero, List.setIfInBounds_toArray, List.set_cons_zero, List.set_cons_succ]
                    refine wpAnyH_take (i := 23) (v := ?_) rfl (by kernel_rfl) (by kernel_rfl) (by kernel_rfl) (fun _ _ _ h => h) (Or.inl ⟨by rfl, ?_⟩) (by assumption) ?_
                    rotate_left
                    · intro w hSw; (try dsimp only at hSw); go_simp; try with_reducible rfl
                    try simp only [Act.put, List.getElem_toArray, List.getElem_cons_succ, List.getElem_cons_zero, List.setIfInBounds_toArray, List.set_cons_zero, List.set_cons_succ]
                    refine wpAnyH_take (i := 24) (v := ?_) rfl (by kernel_rfl) (by kernel_rfl) (by kernel_rfl) (fun _ _ _ h => h) (Or.inl ⟨by rfl, ?_⟩) (by assumption) ?_
                    rotate_left
                    · intro w hSw; (try dsimp only at hSw); go_simp; try with_reducible rfl
                    try simp only [Act.put, List.getElem_toArray, List.getElem_cons_succ, List.getElem_cons_zero, List.setIfInBounds_toArray, List.set_cons_zero, List.set_cons_succ]
                    refine wpAnyH_ready (rs := [19]) (by kernel_rfl) (by simp) ?_
                    refine AllReadyH.cons rfl (fun K hK => ?_) AllReadyH.nil
                    go_wp2_with (go_at_call 90; refine (HVq.out _ hbd).mono ?_; rintro e w3 ⟨g3, m3, c3, rfl, hp3, hc3, hg3⟩; have hS3 := HCS.out _ hg3; refine Hid.out ?_)
                    refine (show ∀ {p : Prop}, p → Hid p from fun h => h) ?_
                    refine hK.out _ _ hS3 (fun hHeld => ?_)
                    clear hK K
                    try simp only [Act.put, List.getElem_toArray, List.getElem_cons_succ, List.getElem_cons_zero, List.setIfInBounds_toArray, List.set_cons_zero, List.set_cons_succ]
                    refine wpAnyH_ready (rs := [20]) (by kernel_rfl) (by simp) ?_
                    refine AllReadyH.cons rfl (fun K hK => ?_) AllReadyH.nil
                    go_simp
                    refine hK.out _ _ (by assumption) (fun hHeld => ?_)
                    clear hK K
                    try simp only [Act.put, List.getElem_toArray, List.getElem_cons_succ, List.getElem_cons_zero, List.setIfInBounds_toArray, List.set_cons_zero, List.set_cons_succ]
                    refine wpAnyH_ready (rs := [21]) (by kernel_rfl) (by simp) ?_
                    refine AllReadyH.cons rfl (fun K hK => ?_) AllReadyH.nil
                    go_simp
                    refine hK.out _ _ (by assumption) (fun hHeld => ?_)
                    clear hK K
                    try simp only [Act.put, List.getElem_toArray, List.getElem_cons_succ, List.getElem_cons_zero, List.setIfInBounds_toArray, List.set_cons_zero, List.set_cons_succ]
                    refine wpAnyH_ready (rs := [25]) (by kernel_rfl) (by simp) ?_
                    refine AllReadyH.cons rfl (fun K hK => ?_) AllReadyH.nil
                    go_simp
                    refine hK.out _ _ (by assumption) (fun hHeld => ?_)
                    clear hK K
                    try simp only [Act.put, List.getElem_toArray, List.getElem_cons_succ, List.getElem_cons_zero, List.setIfInBounds_toArray, List.set_cons_zero, List.set_cons_succ]
                    refine wpAnyH_ready (rs := [26]) (by kernel_rfl) (by simp) ?_
                    refine AllReadyH.cons rfl (fun K hK => ?_) AllReadyH.nil
                    go_simp
                    refine hK.out _ _ (by assumption) (fun hHeld => ?_)
                    clear hK K
                    try simp only [Act.put, List.getElem_toArray, List.getElem_cons_succ, List.getElem_cons_zero, List.setIfInBounds_toArray, List.set_cons_zero, List.set_cons_succ]
                    refine wpAnyH_ready (rs := [27]) (by kernel_rfl) (by simp) ?_
                    refine AllReadyH.cons rfl (fun K hK => ?_) AllReadyH.nil
                    go_simp
                    refine hK.out _ _ (by assumption) (fun hHeld => ?_)
                    clear hK K
                    try simp only [Act.put, List.getElem_toArray, List.getElem_cons_succ, List.getElem_cons_zero, List.setIfInBounds_toArray, List.set_cons_zero, List.set_cons_succ]
                    refine wpAnyH_done (by kernel_rfl) ?_ _
                    have HG3 := hideIt hg3
                    clear HVq HCS hS0 hS3 hc3 hp3 hbd hg3
                    go_wp2
                    go_loopw [6] (fun p wq => ∃ p' : Nat, p' ≤ i + 1 ∧ p = .int .i64 (p' : Int) ∧ Hid (∀ j s', j < p' → ts[j]? = some s' → ∀ x ∈ t, x ∉ s') ∧ Good w2 wq) (fun p _ => i + 1 - (intOf p).toNat)
                    case atStart => exact ⟨0, by omega, rfl, fun j s' hj => by omega, HG3.out⟩
                    case round =>
                      obtain ⟨p, hp, rfl, HP, hgq⟩ := hrel
                      clear HG3
                      by_cases hpl : p < i + 1
                      · obtain ⟨s', hs'⟩ : ∃ s', ts[p]? = some s' := ⟨ts[p]'(by omega), List.getElem?_eq_getElem (by omega)⟩
                        have y1 : (p : Int) < (i : Int) + 1 := by omega
                        have y2 : (0 : Int) ≤ (p : Int) := by omega
                        have y3 : (p : Int) < (n : Int) := by omega
                        have HS' := hideIt hs'
                        obtain ⟨z, cz, e4, iZ, _⟩ := HCt2.out _ hgq p s' hs'
                        have HIn := hideIt (fun v u (hu : Good wr u) => l05In_any s' v s'.length z cz (by have := lnS_mem (List.mem_of_getElem? hs'); omega) u (iZ.up hu))
                        have HE4 : Hid (∀ u, Good wr u → u.cell? ⟨b, off + p, none⟩ = some (.slice z s'.length cz)) := fun u hu => by rw [hu.cell (Nat.lt_of_lt_of_le hbl2 hgq.size)]; exact e4
                        have HGq := hideIt hgq
                        clear hs' iZ hgq e4
                        go_wp2
                        go_loopw [7] (fun r wz => ∃ j : Nat, j ≤ m2 ∧ r = .int .i64 (j : Int) ∧ Hid (∀ d x, d < j → (vsL t)[d]? = some x → x ∉ s') ∧ Good wr wz) (fun r _ => m2 - (intOf r).toNat)
                        case atStart => exact ⟨0, by omega, rfl, fun d x hd => by omega, Good.refl _⟩
                        case round =>
                          obtain ⟨j, hj, rfl, HJ, hgz⟩ := hrel
                          by_cases hjl : j < m2
                          · obtain ⟨v, hv⟩ : ∃ v, (vsL t)[j]? = some v := ⟨(vsL t)[j]'(by have := HM2.out; omega), List.getElem?_eq_getElem _⟩
                            have hgz2 := HGq.out.up hgz
                            have c1 := HCr.out _ hgz2 j v hv
                            obtain ⟨k6, k7⟩ := HC0.out _ (HG2.out.up hgz2)
                            have e4 := HE4.out _ hgz
                            have y4 : (0 : Int) ≤ (j : Int) := by omega
                            have y5 : (j : Int) < (m2 : Int) := by omega
                            have HInv := hideIt (fun u (hu : Good wr u) => HIn.out v u (hgz.up hu))
                            have HGz := hideIt hgz
                            have HGz2 := hideIt hgz2
                            by_cases hin : v ∈ s'
                            · rw [decide_eq_true hin] at HInv
                              have HN : Hid (¬ FP N ts) := fun hp => (hp.2.2.2.1 (i + 1) t HT.out).2.2.2 p s' hpl HS'.out v ((vsL_mem t v).1 (List.mem_of_getElem? hv)).2 hin
                              clear hv HJ hin HK HS hgz hgz2 HIn
                              go_wp2
                              go_quiet ((go_at_call 101; exact Calls.quiet_of_same (HInv.out _ (below_drewN (Good.refl _) _))))
                              go_wp2
                              go_ret
                              exact ⟨false, rfl, ⟨fun h => (by cases h), fun h => absurd h HN.out⟩, HB0.out.up (HG2.out.up (below_drewN HGz2.out _))⟩
                            · rw [decide_eq_false hin] at HInv
                              have HJ2 : Hid (∀ d x, d < j + 1 → (vsL t)[d]? = some x → x ∉ s') := fun d x hd hx => by
                                by_cases hdj : d = j
                                · rw [hdj, hv] at hx
                                  cases hx
                                  exact hin
                                · exact HJ.out d x (by omega) hx
                              clear hv HJ hin hgz hgz2 HIn
                              go_wp2
                              go_quiet ((go_at_call 101; exact Calls.quiet_of_same (HInv.out _ (below_drewN (Good.refl _) _))))
                              go_wp2
                              exact ⟨⟨j + 1, by omega, by go_num, HJ2, below_drewN HGz.out _⟩, by simp [intOf]; omega⟩
                          · obtain rfl : j = m2 := by omega
                            have HP2 : Hid (∀ d s2, d < p + 1 → ts[d]? = some s2 → ∀ x ∈ t, x ∉ s2) := fun d s2 hd hs2 x hx => by
                              by_cases hdp : d = p
                              · rw [hdp, HS'.out] at hs2
                                cases hs2
                                obtain ⟨r, hr⟩ := List.mem_iff_getElem?.1 ((vs_mem_of HBt.out).2 hx)
                                exact HJ.out r x (by have := (List.getElem?_eq_some_iff.1 hr).1; have := HM2.out; omega) hr
                              · exact HP.out d s2 (by omega) hs2 x hx
                            clear HJ HP
                            go_wp2
                            exact ⟨⟨p + 1, by omega, by go_num, HP2, HGq.out.up hgz⟩, by simp [intOf]; omega⟩
                      · obtain rfl : p = i + 1 := by omega
                        have HS2 : Hid (s + m2 = cntV ts (i + 1 + 1)) := by show _ = _; rw [cntV_succ HT.out, HM2.out, HS.out]
                        have HK2 : Hid (∀ j, j < i + 1 + 1 → FAt N ts j) := fun j hj => by
                          by_cases hji : j = i + 1
                          · subst hji
                            intro t' ht'
                            rw [HT.out] at ht'
                            cases ht'
                            exact ⟨HBt.out, HLt.out, fun j s' hj hs' => by
                              obtain rfl : j = i := by omega
                              rw [HQ.out] at hs'
                              cases hs'
                              exact HLess.out, fun d s' hd hs' => HP.out d s' hd hs'⟩
                          · exact HK.out j (by omega)
                        clear HP HK HS
                        go_wp2
                        exact ⟨⟨i + 1 + 1, s + m2, by omega, by omega, by go_num, by go_num, HS2, HK2, HG2.out.up hgq⟩, by simp [intOf]; omega⟩
                  · have d2 : decide (mnV t ≤ mnV q) = true := decide_eq_true (by omega)
                    have HN : Hid (¬ FP N ts) := fun hp => hLess ((hp.2.2.2.1 (i + 1) t HT.out).2.2.1 i q rfl hq)
                    clear ek hq hBq iQ k4 k5 l0 f0 e1 hLess HK HS
                    go_upto_region 11 with fail
                    refine wp_region_held_drew (S := (fun u => (u.cell? ⟨w.heap.size, 0, none⟩ = some (.int .i64 N) ∧ u.cell? ⟨w.heap.size, 1, none⟩ = some (.slice (some ⟨b, off, none⟩) n c)) ∧ (u.cell? ⟨g, m2 - 1, none⟩ = some (.int .i64 lst) ∧ u.cell? ⟨g, 0, none⟩ = some (.int .i64 (mnV t))) ∧ u.cell? ⟨b, off + i, none⟩ = some (.slice y q.length cy))) (by kernel_rfl) hS0 (fun hHeld => ?_)
                    refine wpAnyH_take (i := 0) (v := ?_) rfl (by kernel_rfl) (by kernel_rfl) (by kernel_rfl) (fun _ _ _ h => h) (Or.inl ⟨by rfl, ?_⟩) (by assumption) ?_
                    rotate_left
                    · intro w hSw; (try dsimp only at hSw); go_simp; try with_reducible rfl
                    try simp only [Act.put, List.getElem_toArray, List.getElem_cons_zero, List.setIfInBounds_toArray, List.set_cons_zero, List.set_cons_succ]
                    refine wpAnyH_take (i := 1) (v := ?_) rfl (by kernel_rfl) (by kernel_rfl) (by kernel_rfl) (fun _ _ _ h => h) (Or.inl ⟨by rfl, ?_⟩) (by assumption) ?_
                    rotate_left
                    · intro w hSw; (try dsimp only at hSw); go_simp; try with_reducible rfl
                    try simp only [Act.put, List.getElem_toArray, List.getElem_cons_succ, List.getElem_cons_zero, List.setIfInBounds_toArray, List.set_cons_zero, List.set_cons_succ]
                    refine wpAnyH_take (i := 2) (v := ?_) rfl (by kernel_rfl) (by kernel_rfl) (by kernel_rfl) (fun _ _ _ h => h) (Or.inl ⟨by rfl, ?_⟩) (by assumption) ?_
                    rotate_left
                    · intro w hSw; (try dsimp only at hSw); go_simp; try with_reducible rfl
                    try simp only [Act.put, List.getElem_toArray, List.getElem_cons_succ, List.getElem_cons_zero, List.setIfInBounds_toArray, List.set_cons_zero, List.set_cons_succ]
                    refine wpAnyH_take (i := 3) (v := ?_) rfl (by kernel_rfl) (by kernel_rfl) (by kernel_rfl) (fun _ _ _ h => h) (Or.inl ⟨by rfl, ?_⟩) (by assumption) ?_
                    rotate_left
                    · intro w hSw; (try dsimp only at hSw); go_simp; try with_reducible rfl
                    try simp only [Act.put, List.getElem_toArray, List.getElem_cons_succ, List.getElem_cons_zero, List.setIfInBounds_toArray, List.set_cons_zero, List.set_cons_succ]
                    refine wpAnyH_take (i := 4) (v := ?_) rfl (by kernel_rfl) (by kernel_rfl) (by kernel_rfl) (fun _ _ _ h => h) (Or.inl ⟨by rfl, ?_⟩) (by assumption) ?_
                    rotate_left
                    · intro w hSw; (try dsimp only at hSw); go_simp; try with_reducible rfl
                    try simp only [Act.put, List.getElem_toArray, List.getElem_cons_succ, List.getElem_cons_zero, List.setIfInBounds_toArray, List.set_cons_zero, List.set_cons_succ]
                    refine wpAnyH_take (i := 5) (v := ?_) rfl (by kernel_rfl) (by kernel_rfl) (by kernel_rfl) (fun _ _ _ h => h) (Or.inl ⟨by rfl, ?_⟩) (by assumption) ?_
                    rotate_left
                    · intro w hSw; (try dsimp only at hSw); go_simp; try with_reducible rfl
                    try simp only [Act.put, List.getElem_toArray, List.getElem_cons_succ, List.getElem_cons_zero, List.setIfInBounds_toArray, List.set_cons_zero, List.set_cons_succ]
                    refine wpAnyH_take (i := 6) (v := ?_) rfl (by kernel_rfl) (by kernel_rfl) (by kernel_rfl) (fun _ _ _ h => h) (Or.inl ⟨by rfl, ?_⟩) (by assumption) ?_
                    rotate_left
                    · intro w hSw; (try dsimp only at hSw); go_simp; try with_reducible rfl
                    try simp only [Act.put, List.getElem_toArray, List.getElem_cons_succ, List.getElem_cons_zero, List.setIfInBounds_toArray, List.set_cons_zero, List.set_cons_succ]
                    refine wpAnyH_take (i := 7) (v := ?_) rfl (by kernel_rfl) (by kernel_rfl) (by kernel_rfl) (fun _ _ _ h => h) (Or.inl ⟨by rfl, ?_⟩) (by assumption) ?_
                    rotate_left
                    · intro w hSw; (try dsimp only at hSw); go_simp; try with_reducible rfl
                    try simp only [Act.put, List.getElem_toArray, List.getElem_cons_succ, List.getElem_cons_zero, List.setIfInBounds_toArray, List.set_cons_zero, List.set_cons_succ]
                    refine wpAnyH_take (i := 8) (v := ?_) rfl (by kernel_rfl) (by kernel_rfl) (by kernel_rfl) (fun _ _ _ h => h) (Or.inl ⟨by rfl, ?_⟩) (by assumption) ?_
                    rotate_left
                    · intro w hSw; (try dsimp only at hSw); go_simp; try with_reducible rfl
                    try simp only [Act.put, List.getElem_toArray, List.getElem_cons_succ, List.getElem_cons_zero, List.setIfInBounds_toArray, List.set_cons_zero, List.set_cons_succ]
                    refine wpAnyH_take (i := 9) (v := ?_) rfl (by kernel_rfl) (by kernel_rfl) (by kernel_rfl) (fun _ _ _ h => h) (Or.inl ⟨by rfl, ?_⟩) (by assumption) ?_
                    rotate_left
                    · intro w hSw; (try dsimp only at hSw); go_simp; try with_reducible rfl
                    try simp only [Act.put, List.getElem_toArray, List.getElem_cons_succ, List.getElem_cons_zero, List.setIfInBounds_toArray, List.set_cons_zero, List.set_cons_succ]
                    refine wpAnyH_take (i := 10) (v := ?_) rfl (by kernel_rfl) (by kernel_rfl) (by kernel_rfl) (fun _ _ _ h => h) (Or.inl ⟨by rfl, ?_⟩) (by assumption) ?_
                    rotate_left
                    · intro w hSw; (try dsimp only at hSw); go_simp; try with_reducible rfl
                    try simp only [Act.put, List.getElem_toArray, List.getElem_cons_succ, List.getElem_cons_zero, List.setIfInBounds_toArray, List.set_cons_zero, List.set_cons_succ]
                    refine wpAnyH_take (i := 11) (v := ?_) rfl (by kernel_rfl) (by kernel_rfl) (by kernel_rfl) (fun _ _ _ h => h) (Or.inl ⟨by rfl, ?_⟩) (by assumption) ?_
                    rotate_left
                    · intro w hSw; (try dsimp only at hSw); go_simp; try with_reducible rfl
                    try simp only [Act.put, List.getElem_toArray, List.getElem_cons_succ, List.getElem_cons_zero, List.setIfInBounds_toArray, List.set_cons_zero, List.set_cons_succ]
                    refine wpAnyH_take (i := 12) (v := ?_) rfl (by kernel_rfl) (by kernel_rfl) (by kernel_rfl) (fun _ _ _ h => h) (Or.inl ⟨by rfl, ?_⟩) (by assumption) ?_
                    rotate_left
                    · intro w hSw; (try dsimp only at hSw); go_simp; try with_reducible rfl
                    try simp only [Act.put, List.getElem_toArray, List.getElem_cons_succ, List.getElem_cons_zero, List.setIfInBounds_toArray, List.set_cons_zero, List.set_cons_succ]
                    refine wpAnyH_take (i := 13) (v := ?_) rfl (by kernel_rfl) (by kernel_rfl) (by kernel_rfl) (fun _ _ _ h => h) (Or.inl ⟨by rfl, ?_⟩) (by assumption) ?_
                    rotate_left
                    · intro w hSw; (try dsimp only at hSw); go_simp; try with_reducible rfl
                    try simp only [Act.put, List.getElem_toArray, List.getElem_cons_succ, List.getElem_cons_zero, List.setIfInBounds_toArray, List.set_cons_zero, List.set_cons_succ]
                    refine wpAnyH_take (i := 14) (v := ?_) rfl (by kernel_rfl) (by kernel_rfl) (by kernel_rfl) (fun _ _ _ h => h) (Or.inl ⟨by rfl, ?_⟩) (by assumption) ?_
                    rotate_left
                    · intro w hSw; (try dsimp only at hSw); go_simp; try with_reducible rfl
                    try simp only [Act.put, List.getElem_toArray, List.getElem_cons_succ, List.getElem_cons_zero, List.setIfInBounds_toArray, List.set_cons_zero, List.set_cons_succ]
                    refine wpAnyH_take (i := 15) (v := ?_) rfl (by kernel_rfl) (by kernel_rfl) (by kernel_rfl) (fun _ _ _ h => h) (Or.inl ⟨by rfl, ?_⟩) (by assumption) ?_
                    rotate_left
                    · intro w hSw; (try dsimp only at hSw); go_simp; try with_reducible rfl
                    try simp only [Act.put, List.getElem_toArray, List.getElem_cons_succ, List.getElem_cons_zero, List.setIfInBounds_toArray, List.set_cons_zero, List.set_cons_succ]
                    refine wpAnyH_take (i := 16) (v := ?_) rfl (by kernel_rfl) (by kernel_rfl) (by kernel_rfl) (fun _ _ _ h => h) (Or.inl ⟨by rfl, ?_⟩) (by assumption) ?_
                    rotate_left
                    · intro w hSw; (try dsimp only at hSw); go_simp; try with_reducible rfl
                    try simp only [Act.put, List.getElem_toArray, List.getElem_cons_succ, List.getElem_cons_zero, List.setIfInBounds_toArray, List.set_cons_zero, List.set_cons_succ]
                    refine wpAnyH_take (i := 17) (v := ?_) rfl (by kernel_rfl) (by kernel_rfl) (by kernel_rfl) (fun _ _ _ h => h) (Or.inl ⟨by rfl, ?_⟩) (by assumption) ?_
                    rotate_left
                    · intro w hSw; (try dsimp only at hSw); go_simp; try with_reducible rfl
                    try simp only [Act.put, List.getElem_toArray, List.getElem_cons_succ, List.getElem_cons_zero, List.setIfInBounds_toArray, List.set_cons_zero, List.set_cons_succ]
                    refine wpAnyH_take (i := 18) (v := ?_) rfl (by kernel_rfl) (by kernel_rfl) (by kernel_rfl) (fun _ _ _ h => h) (Or.inl ⟨by rfl, ?_⟩) (by assumption) ?_
                    rotate_left
                    · intro w hSw; (try dsimp only at hSw); go_simp; try with_reducible rfl
                    try simp only [Act.put, List.getElem_toArray, List.getElem_cons_succ, List.getElem_cons_zero, List.setIfInBounds_toArray, List.set_cons_zero, List.set_cons_succ]
                    refine wpAnyH_take (i := 22) (v := ?_) rfl (by kernel_rfl) (by kernel_rfl) (by kernel_rfl) (fun _ _ _ h => h) (Or.inl ⟨by rfl, ?_⟩) (by assumption) ?_
                    rotate_left
                    · intro w hSw; (try dsimp only at hSw); go_simp; try with_reducible rfl
                    try simp only [Act.put, List.getElem_toArray, List.getElem_cons_succ, List.getElem_cons_zero, List.setIfInBounds_toArray, List.set_cons_zero, List.set_cons_succ]
                    refine wpAnyH_take (i := 23) (v := ?_) rfl (by kernel_rfl) (by kernel_rfl) (by kernel_rfl) (fun _ _ _ h => h) (Or.inl ⟨by rfl, ?_⟩) (by assumption) ?_
                    rotate_left
                    · intro w hSw; (try dsimp only at hSw); go_simp; try with_reducible rfl
                    try simp only [Act.put, List.getElem_toArray, List.getElem_cons_succ, List.getElem_cons_zero, List.setIfInBounds_toArray, List.set_cons_zero, List.set_cons_succ]
                    refine wpAnyH_take (i := 24) (v := ?_) rfl (by kernel_rfl) (by kernel_rfl) (by kernel_rfl) (fun _ _ _ h => h) (Or.inl ⟨by rfl, ?_⟩) (by assumption) ?_
                    rotate_left
                    · intro w hSw; (try dsimp only at hSw); go_simp; try with_reducible rfl
                    try simp only [Act.put, List.getElem_toArray, List.getElem_cons_succ, List.getElem_cons_zero, List.setIfInBounds_toArray, List.set_cons_zero, List.set_cons_succ]
                    refine wpAnyH_ready (rs := [19]) (by kernel_rfl) (by simp) ?_
                    refine AllReadyH.cons rfl (fun K hK => ?_) AllReadyH.nil
                    go_wp2_with (go_at_call 90; refine (HVq.out _ hbd).mono ?_; rintro e w3 ⟨g3, m3, c3, rfl, hp3, hc3, hg3⟩; have hS3 := HCS.out _ hg3; refine Hid.out ?_)
                    refine (show ∀ {p : Prop}, p → Hid p from fun h => h) ?_
                    refine hK.out _ _ hS3 (fun hHeld => ?_)
                    clear hK K
                    try simp only [Act.put, List.getElem_toArray, List.getElem_cons_succ, List.getElem_cons_zero, List.setIfInBounds_toArray, List.set_cons_zero, List.set_cons_succ]
                    refine wpAnyH_ready (rs := [20]) (by kernel_rfl) (by simp) ?_
                    refine AllReadyH.cons rfl (fun K hK => ?_) AllReadyH.nil
                    go_simp
                    refine hK.out _ _ (by assumption) (fun hHeld => ?_)
                    clear hK K
                    try simp only [Act.put, List.getElem_toArray, List.getElem_cons_succ, List.getElem_cons_zero, List.setIfInBounds_toArray, List.set_cons_zero, List.set_cons_succ]
                    refine wpAnyH_ready (rs := [21]) (by kernel_rfl) (by simp) ?_
                    refine AllReadyH.cons rfl (fun K hK => ?_) AllReadyH.nil
                    go_simp
                    refine hK.out _ _ (by assumption) (fun hHeld => ?_)
                    clear hK K
                    try simp only [Act.put, List.getElem_toArray, List.getElem_cons_succ, List.getElem_cons_zero, List.setIfInBounds_toArray, List.set_cons_zero, List.set_cons_succ]
                    refine wpAnyH_ready (rs := [25]) (by kernel_rfl) (by simp) ?_
                    refine AllReadyH.cons rfl (fun K hK => ?_) AllReadyH.nil
                    go_simp
                    refine hK.out _ _ (by assumption) (fun hHeld => ?_)
                    clear hK K
                    try simp only [Act.put, List.getElem_toArray, List.getElem_cons_succ, List.getElem_cons_zero, List.setIfInBounds_toArray, List.set_cons_zero, List.set_cons_succ]
                    refine wpAnyH_ready (rs := [26]) (by kernel_rfl) (by simp) ?_
                    refine AllReadyH.cons rfl (fun K hK => ?_) AllReadyH.nil
                    go_simp
                    refine hK.out _ _ (by assumption) (fun hHeld => ?_)
                    clear hK K
                    try simp only [Act.put, List.getElem_toArray, List.getElem_cons_succ, List.getElem_cons_zero, List.setIfInBounds_toArray, List.set_cons_zero, List.set_cons_succ]
                    refine wpAnyH_ready (rs := [27]) (by kernel_rfl) (by simp) ?_
                    refine AllReadyH.cons rfl (fun K hK => ?_) AllReadyH.nil
                    go_simp
                    refine hK.out _ _ (by assumption) (fun hHeld => ?_)
                    clear hK K
                    try simp only [Act.put, List.getElem_toArray, List.getElem_cons_succ, List.getElem_cons_zero, List.setIfInBounds_toArray, List.set_cons_zero, List.set_cons_succ]
                    refine wpAnyH_done (by kernel_rfl) ?_ _
                    go_wp2
                    go_ret
                    exact ⟨false, rfl, ⟨fun h => (by cases h), fun h => absurd h HN.out⟩, HB0.out.up (HG2.out.up hg3)⟩
              · have d1 : decide (N ≤ lst) = true := decide_eq_true (by omega)
                have HN : Hid (¬ FP N ts) := fun hp => hL (HLst.out.1 (hp.2.2.2.1 k t HT.out).2.1)
                clear HLst hL HK HS
                go_wp2
                go_quiet (fail)
                go_wp2
                go_ret
                exact ⟨false, rfl, ⟨fun h => (by cases h), fun h => absurd h HN.out⟩, HB0.out.up (below_drewN HG2.out _)⟩
        · obtain rfl : k = n := by omega
          have HE : Hid (((s : Int) == N) = true ↔ FP N ts) := by
            show _ ↔ _
            rw [beq_iff_eq]
            constructor
            · intro hs
              exact ⟨h11, h12, by omega, fun i t ht => HK.out i (by have := (List.getElem?_eq_some_iff.1 ht).1; omega) t ht, by rw [hlen, ← HS.out]; exact hs⟩
            · intro hp
              have := hp.2.2.2.2
              rw [hlen, ← HS.out] at this
              exact this
          clear HK HS
          go_wp2
          go_ret
          exact ⟨_, rfl, HE.out, HB0.out.up hg⟩
    · have r2 : decide (12 < (n : Int)) = true := decide_eq_true (by omega)
      have HN : Hid (¬ FP N ts) := fun hp => by have := hp.2.2.1; omega
      go_enter Tryz.func34, Tryz.ntmps34
      go_wp2_with (go_at_call 88; refine (HI.out _ _ _ _).mono ?_; rintro e w1 ⟨rfl, hw⟩; have hw' := hw.symm; subst hw'; clear hw)
      go_ret
      exact ⟨false, rfl, ⟨fun h => (by cases h), fun h => absurd h HN.out⟩, HB0.out⟩
  · have r1 : decide (1 ≤ N ∧ N ≤ 12) = false := decide_eq_false h1
    have HN : Hid (¬ FP N ts) := fun hp => h1 ⟨hp.1, hp.2.1⟩
    go_enter Tryz.func34, Tryz.ntmps34
    go_wp2_with (go_at_call 88; refine (HI.out _ _ _ _).mono ?_; rintro e w1 ⟨rfl, hw⟩; have hw' := hw.symm; subst hw'; clear hw)
    go_ret
    exact ⟨false, rfl, ⟨fun h => (by cases h), fun h => absurd h HN.out⟩, HB0.out⟩
end Go.Proofs.YtgjnlhdgekfieaaGreat
namespace Go.Proofs.YtgjnlhdgekfieaaGreat
open Go.RowKit

/-- a header of a row that is new, or of one that was handed in -/
def NewOr (w : World) (bi offi : Nat) (v : Value) : Prop := (∀ b off s n c, v = .slice (some ⟨b, off, s⟩) n c → w.heap.size ≤ b) ∨ ∃ j, w.cell? ⟨bi, offi + j, none⟩ = some v
/-- .. and does not lie in the answer's place -/
def PV (w : World) (bi offi : Nat) (v : Value) : Prop := HdN (w.heap.size + 1) v ∧ NewOr w bi offi v
/-- tours by their least vertices, in the making -/
structure GSt (w9 : World) (X : Value → Prop) (N : Int) (a : Option Addr) (m c : Nat) (cur : List (List Int)) (u : World) : Prop where
  box : Box7 u w9.heap.size 57 (.int .i64 N) (.slice a m c)
  own : ∃ hs, u.ownsRow (w9.heap.size + 1) 44 1 (.slice a m c) m hs ∧ HdT u w9.heap.size hs cur ∧ ∀ v ∈ hs, X v
  bel : Below w9.heap.size w9 u
theorem GSt.up {w9 : World} {X : Value → Prop} {N : Int} {a : Option Addr} {m c : Nat} {cur : List (List Int)} {u v : World} (h : GSt w9 X N a m c cur u) (hb : Below u.heap.size u v) : GSt w9 X N a m c cur v := by
  obtain ⟨hs, h1, h2, h3⟩ := h.own
  exact ⟨h.box.up hb, ⟨hs, own_up h1 hb, h2.below hb h.bel.size, h3⟩, h.bel.trans (hb.mono h.bel.size)⟩
theorem newsW (w : World) (x : Value) : ∀ j u, ([x] : List Value)[j]? = some u → (w.alloc (.cells #[x] 44)).cell? ((⟨w.heap.size, 0, none⟩ : Addr).add j) = some u := by
  intro j u hj
  rcases j with _ | j
  · simp at hj; subst hj; simp [Addr.add]
  · simp at hj
/-- those of the first i with least vertex v -/
theorem flt_take {L : List (List Int)} {i v : Nat} {t : List Int} (h : L[i]? = some t) : (L.take (i + 1)).filter (fun t => decide (mnV t = (v : Int))) = (L.take i).filter (fun t => decide (mnV t = (v : Int))) ++ if mnV t = (v : Int) then [t] else [] := by
  rw [take_snocF L i t h, List.filter_append]
  by_cases hc : mnV t = (v : Int) <;> simp [hc]
theorem srtK_le {L : List (List Int)} {N v i : Nat} (h : ∀ t ∈ L, ∃ j, j < N ∧ mnV t = ((j : Nat) : Int)) (hv : v < N) : (srtK L v ++ (L.take i).filter (fun t => decide (mnV t = (v : Int)))).length ≤ L.length := by
  have h1 := (srtK_perm h).length_eq
  have h2 : ∀ k d, (srtK L k).length ≤ (srtK L (k + d)).length := fun k d => by
    induction d with
    | zero => exact Nat.le_refl _
    | succ d ih =>
      show _ ≤ (srtK L (k + d + 1)).length
      simp only [srtK, List.length_append]
      omega
  have h3 := h2 (v + 1) (N - (v + 1))
  rw [show v + 1 + (N - (v + 1)) = N by omega, h1] at h3
  have h4 : ((L.take i).filter (fun t => decide (mnV t = (v : Int)))).length ≤ (L.filter (fun t => decide (mnV t = (v : Int)))).length := by
    conv => rhs; rw [← List.take_append_drop i L, List.filter_append, List.length_append]
    omega
  simp only [srtK, List.length_append] at h3 ⊢
  omega

/-- what l07With answers, laid into a place of its own -/
theorem with_set {u : World} {lo X : Nat} {a : Option Addr} {m c : Nat} {hs : List Value} {ts : List (List Int)} (h : u.ownsRow lo 44 1 (.slice a m c) m hs ∧ HdT u u.heap.size hs ts) (hX : X < lo) (hn : ∀ v ∈ hs, HdN X v) (v0 v1 : Value) :
    ((u.setCell ⟨X, 0, none⟩ v0).setCell ⟨X, 1, none⟩ v1).ownsRow lo 44 1 (.slice a m c) m hs ∧ HdT ((u.setCell ⟨X, 0, none⟩ v0).setCell ⟨X, 1, none⟩ v1) ((u.setCell ⟨X, 0, none⟩ v0).setCell ⟨X, 1, none⟩ v1).heap.size hs ts :=
  ⟨own_setLow (own_setLow h.1 X 0 v0 hX) X 1 v1 hX, ((h.2.set hn v0 (j := 0)).set hn v1 (j := 1)).mono (by simp [World.setCell])⟩
end Go.Proofs.YtgjnlhdgekfieaaGreat
namespace Go.Proofs.YtgjnlhdgekfieaaGreat
open Go.RowKit

/-- the answer of Link, Cut, ForestNew: a forest of the answer's own -/
def FAns (w : World) (N : Int) (o : Option (List (List Int))) (e : Ending) (w' : World) : Prop :=
  ∃ a m c R, e = .returned (.tuple #[.agg #[.int .i64 (if o.isSome then N else 0), .slice a m c], .bool o.isSome]) ∧ FB w' w.heap.size w'.heap.size a m c R ∧ rts R = o.getD [] ∧ Below w.heap.size w w'
/-- .. that is only read -/
def RAns (w : World) (N : Int) (o : Option (List (List Int))) (e : Ending) (w' : World) : Prop :=
  ∃ a m c hs, e = .returned (.tuple #[.agg #[.int .i64 (if o.isSome then N else 0), .slice a m c], .bool o.isSome]) ∧ (w'.ownsRow w.heap.size 44 1 (.slice a m c) m hs ∧ HdT w' w'.heap.size hs (o.getD []) ∧ ∀ v ∈ hs, HdL w.heap.size v) ∧ Below w.heap.size w w'
theorem RAns.ts {w : World} {N : Int} {o : Option (List (List Int))} {e : Ending} {w' : World} (h : RAns w N o e w') : ∃ a m c, e = .returned (.tuple #[.agg #[.int .i64 (if o.isSome then N else 0), .slice a m c], .bool o.isSome]) ∧ Ts w' w'.heap.size a m (o.getD []) ∧ Below w.heap.size w w' := by
  obtain ⟨a, m, c, hs, h1, h2, h3⟩ := h
  exact ⟨a, m, c, h1, h2.2.1.ts h2.1, h3⟩
theorem fans_no {w u : World} {N : Int} {o : Option (List (List Int))} (ho : o = none) (h : Below w.heap.size w u) : FAns w N o (.returned (.tuple #[.agg #[.int .i64 0, .slice none 0 0], .bool false])) u := by
  subst ho
  exact ⟨none, 0, 0, [], rfl, FB.nil _ _, rfl, h⟩

/-- behind the three boxes -/
def w3of (w : World) (N : Int) (a : Option Addr) (n c : Nat) (f : EdgeV) : World := ((w.alloc (.cells #[.int .i64 N, .slice a n c] 57)).alloc (.cells #[.int .i64 f.1, .int .i64 f.2] 28)).alloc (.cells #[.int .i64 0, .slice none 0 0] 57)
theorem w3_size (w : World) (N : Int) (a : Option Addr) (n c : Nat) (f : EdgeV) : (w3of w N a n c f).heap.size = w.heap.size + 3 := by simp [w3of]
theorem w3_good (w : World) (N : Int) (a : Option Addr) (n c : Nat) (f : EdgeV) : Good w (w3of w N a n c f) := (((Good.refl w).alloc _).alloc _).alloc _
theorem w3_res (w : World) (N : Int) (a : Option Addr) (n c : Nat) (f : EdgeV) : Box7 (w3of w N a n c f) (w.heap.size + 2) 57 (.int .i64 0) (.slice none 0 0) := Box7.new _ _ _ _ _ (by simp)
theorem w3_f (w : World) (N : Int) (a : Option Addr) (n c : Nat) (f : EdgeV) : Box7 (w3of w N a n c f) w.heap.size 57 (.int .i64 N) (.slice a n c) := ((Box7.new w _ _ _ _ rfl).alloc _).alloc _
theorem w3_e (w : World) (N : Int) (a : Option Addr) (n c : Nat) (f : EdgeV) : Box7 (w3of w N a n c f) (w.heap.size + 1) 28 (.int .i64 f.1) (.int .i64 f.2) := (Box7.new _ _ _ _ _ (by simp)).alloc _
/-- what can be read there -/
theorem w3_cells {w : World} {N : Int} {a : Option Addr} {n c : Nat} {f : EdgeV} {u : World} (h : Good (w3of w N a n c f) u) :
    (u.cell? ⟨w.heap.size, 0, none⟩ = some (.int .i64 N) ∧ u.cell? ⟨w.heap.size, 1, none⟩ = some (.slice a n c)) ∧ u.cell? ⟨w.heap.size + 1, 0, none⟩ = some (.int .i64 f.1) ∧ u.cell? ⟨w.heap.size + 1, 1, none⟩ = some (.int .i64 f.2) :=
  ⟨⟨((w3_f w N a n c f).up h).cell0, ((w3_f w N a n c f).up h).cell1⟩, ((w3_e w N a n c f).up h).cell0, ((w3_e w N a n c f).up h).cell1⟩
theorem w3_out {w : World} {N : Int} {a : Option Addr} {n c : Nat} {f : EdgeV} {u : World} (h : Below (w.heap.size + 3) (w3of w N a n c f) u) :
    (u.cell? ⟨w.heap.size + 2, 0, none⟩ = some (.int .i64 0) ∧ u.cell? ⟨w.heap.size + 2, 1, none⟩ = some (.slice none 0 0)) ∧ u.frozen? ⟨w.heap.size + 2, 0, none⟩ = false ∧ u.frozen? ⟨w.heap.size + 2, 1, none⟩ = false := by
  have b := (w3_res w N a n c f).below h (by omega)
  exact ⟨⟨b.cell0, b.cell1⟩, b.frozen 0, b.frozen 1⟩
/-- tours in order that are those of a list -/
theorem ord_is {N : Nat} {X L : List (List Int)} (h1 : 1 ≤ N) (h2 : N ≤ 12) (hQ : FQ (N : Int) L) (hp : X.Perm L) (ha : X.Pairwise fun s t => mnV s < mnV t) : X = srtK L N :=
  asc_uniq ha ((FP_iff _ _).1 (FP_srt h1 h2 hQ)).2.2.2 (hp.trans (srt_perm hQ).symm)
/-- no edge of a tree links it -/
theorem jo_same {a : List Int} {u v : Int} (hu : u ∈ a) : joO a u a v = none := by
  unfold joO
  rw [if_neg]
  rintro ⟨_, _, h⟩
  have hc : comB a a = true := by
    unfold comB
    rw [List.any_eq_true]
    exact ⟨u, hu, decide_eq_true hu⟩
  rw [hc] at h
  cases h
end Go.Proofs.YtgjnlhdgekfieaaGreat
namespace Go.Proofs.YtgjnlhdgekfieaaGreat
open Go.RowKit

theorem Good.set {w u : World} (h : Good w u) (b j : Nat) (v : Value) (hb : w.heap.size ≤ b) : Good w (u.setCell ⟨b, j, none⟩ v) := Below.setCell h (p := ⟨b, j, none⟩) hb v
theorem Box7.set {w : World} {b : Nat} {t : TypeId} {v0 v1 : Value} (h : Box7 w b t v0 v1) (u0 u1 : Value) : Box7 ((w.setCell ⟨b, 0, none⟩ u0).setCell ⟨b, 1, none⟩ u1) b t u0 u1 := by
  have h1 : Box7 (w.setCell ⟨b, 0, none⟩ u0) b t u0 v1 := by
    unfold Box7
    rw [heap_setCell_same w b 0 _ t u0 h]; rfl
  exact h1.set1 u1
theorem own_typed {u : World} {lo b j n : Nat} {v x : Value} {xs : List Value} {cs : Array Value} {fr : Nat × Nat} (h : u.ownsRow lo 44 1 v n xs) (hb : u.heap[b]? = some (.cells cs 57 fr)) : (u.setCell ⟨b, j, none⟩ x).ownsRow lo 44 1 v n xs := by
  refine World.ownsRow.kept h (grownSet u b j x) (.inr fun e => ?_)
  rcases h.2 with ⟨rfl, _⟩ | ⟨g, cap, cur, rfl, _, hg, _⟩
  · simp [Value.ownBlock] at e
  · simp [Value.ownBlock] at e
    rw [e, hb] at hg
    simp at hg
def Keep7 (u v : World) : Prop := ∀ b t x y, Box7 u b t x y → Box7 v b t x y
theorem Keep7.of {u v : World} (h : Below u.heap.size u v) : Keep7 u v := fun _ _ _ _ hb => hb.up h
theorem Keep7.nil {u v : World} (h : Keep7 u v) {b : Nat} (hb : Box7 u b 57 (.int .i64 0) (.slice none 0 0)) : Box7 v b 57 (.int .i64 0) (.slice none 0 0) := h _ _ _ _ hb
def Away (u : World) (hs : List Value) : Prop := ∀ b, Box7 u b 57 (.int .i64 0) (.slice none 0 0) → ∀ v ∈ hs, HdN b v
theorem FP_small {N : Int} {ts : List (List Int)} (h : FP N ts) : ts.length + lnS ts ≤ 1000 := by
  have h1 := h.2.2.1
  have h2 : ∀ l : List (List Int), (∀ t ∈ l, tB t = true) → lnS l ≤ 23 * l.length := fun l hl => by
    induction l with
    | nil => simp [lnS]
    | cons t r ih =>
      have h3 := tB_len (hl t (by simp))
      have h4 := ih fun s hs => hl s (by simp [hs])
      simp only [lnS, List.map_cons, List.sum_cons, List.length_cons] at h4 ⊢
      omega
  have h5 := h2 ts fun t ht => (h.q.1 t ht).1
  omega
end Go.Proofs.YtgjnlhdgekfieaaGreat
namespace Go.Proofs.YtgjnlhdgekfieaaGreat
open Go.RowKit

theorem info5 : (Tryz.prog.info? 5).map (fun i => (i.zero, i.size, i.bytes)) = some (some (.int .u8 0), 1, 1) := by kernel_rfl

/-- the cells of the bytes l -/
def bv (l : List UInt8) : List Value := l.map fun b => Value.int .u8 (b.toNat : Int)

theorem bv_snoc (l : List UInt8) (b : UInt8) (n : Int) (h : (b.toNat : Int) = n) : bv l ++ [Value.int .u8 n] = bv (l ++ [b]) := by
  subst h; simp [bv]

theorem one_new (w : World) (v : Value) (t : TypeId) : ∀ j u, [v][j]? = some u → (w.alloc (.cells #[v] t)).cell? ((⟨w.heap.size, 0, none⟩ : Addr).add j) = some u := by
  intro j u hj
  match j, hj with
  | 0, hj => simp at hj; subst hj; simp [Addr.add]

/-- behind an append to a row of the call's own, nothing below B has turned -/
theorem below_app {B : Nat} {w wr w1 : World} {v : Value} {n : Nat} {xs : List Value} {o : Obj} (hb : Below B w wr) (hB : B ≤ w.heap.size)
    (hown : wr.ownsRow B 5 1 v n xs) (hg : (wr.alloc o).grownBy w1 v.ownBlock) : Below B w w1 :=
  (hb.alloc (by have := hb.size; omega) _).grown hg (by have := hb.size; simp; omega) (fun k hk => (hown.lt k hk).1)

theorem below_appD {B : Nat} {w wr w1 : World} {v : Value} {n : Nat} {xs : List Value} {o : Obj} (hb : Below B w wr) (hB : B ≤ w.heap.size)
    (hown : wr.ownsRow B 5 1 v n xs) (hg : ((wr.alloc o).drew).grownBy w1 v.ownBlock) : Below B w w1 :=
  below_app (o := o) hb hB hown ⟨hg.os, hg.tape, hg.output, hg.size, hg.block⟩

/-- 'string(out)' of a row of bytes of the call's own -/
theorem conv_own {B n : Nat} {v : Value} {l : List UInt8} {w : World} (hown : w.ownsRow B 5 1 v n (bv l)) (hv : ¬ v = .slice none 0 0) :
    ∃ g cap, v = .slice (some ⟨g, 0, none⟩) l.length cap ∧ (convert 22 9 (.slice (some ⟨g, 0, none⟩) l.length cap)).run Tryz.prog w = .ok (.string ⟨l.toArray⟩) w := by
  have hn : l.length = n := by have := hown.1; simpa [bv] using this
  subst hn
  have hown0 := hown
  rcases hown.2 with ⟨h, _⟩ | ⟨g, cap, cur, rfl, -, -, -, -, -, -⟩
  · exact absurd h hv
  · exact ⟨g, cap, rfl, run_convert_bytes_back (P := Tryz.prog) w 22 9 5 ⟨g, 0, none⟩ cap l Tryz.underlying22 Tryz.underlying5 Tryz.underlying9 (fun j hj => hown0.cells (g := g) rfl j _ (by simp [bv, hj]))⟩

theorem conv_at {B n g cap : Nat} {l : List UInt8} {w : World} (hown : w.ownsRow B 5 1 (.slice (some ⟨g, 0, none⟩) n cap) n (bv l)) :
    (convert 22 9 (.slice (some ⟨g, 0, none⟩) n cap)).run Tryz.prog w = .ok (.string ⟨l.toArray⟩) w := by
  obtain ⟨g', cap', hv, hcv⟩ := conv_own hown (by simp)
  rw [hv]
  exact hcv

end Go.Proofs.YtgjnlhdgekfieaaGreat
namespace Go.Proofs.YtgjnlhdgekfieaaGreat
open Go.RowKit

theorem and_small (x : Int) (b : Nat) (hb : b < 4611686018427387904) : 0 ≤ bits .and .i64 x (b : Int) ∧ bits .and .i64 x (b : Int) ≤ (b : Int) := by
  have h2 : (BitVec.ofInt 64 (b : Int)).toNat = b := by
    rw [BitVec.ofInt_natCast, BitVec.toNat_ofNat]; exact Nat.mod_eq_of_lt (by omega)
  have e : bits .and .i64 x (b : Int) = IntKind.i64.wrap ((BitVec.ofInt 64 x &&& BitVec.ofInt 64 (b : Int)).toNat : Int) := rfl
  rw [e, BitVec.toNat_and, h2, IntKind.wrap_i64]
  have := Nat.and_le_right (n := (BitVec.ofInt 64 x).toNat) (m := b)
  omega

theorem and255 (x : Int) : 0 ≤ bits .and .i64 x 255 ∧ bits .and .i64 x 255 ≤ 255 := and_small x 255 (by omega)
theorem and30 (x : Int) : 0 ≤ bits .and .i64 x 1073741823 ∧ bits .and .i64 x 1073741823 ≤ 1073741823 := and_small x 1073741823 (by omega)

/-- the bytes that the draws are drawn from: none, or a row of bytes in a block of its own -/
def Code (w : World) (G : Nat) (a : Option Addr) (len : Nat) : Prop :=
  len = 0 ∨ ∃ b off, a = some ⟨b, off, none⟩ ∧ b < w.heap.size ∧ b ≠ G ∧ ∀ j, j < len → ∃ z : Nat, z ≤ 255 ∧ w.cell? ⟨b, off + j, none⟩ = some (.int .u8 (z : Int))

/-- the cursor in block G -/
def Cur (w : World) (G : Nat) (a : Option Addr) (len cap : Nat) : Prop :=
  ∃ (i : Nat) (h : Int), i ≤ len ∧ w.heap[G]? = some (.cells #[.slice a len cap, .int .i64 (i : Int), .int .i64 h] 178 (0, 0))

theorem grownT {a b c : World} {row : Option Nat} (h : a.grownBy b row) (k : b.grownBy c row) : a.grownBy c row :=
  ⟨k.os.trans h.os, k.tape.trans h.tape, k.output.trans h.output, Nat.le_trans h.size k.size, fun i hi hr => (k.block i (Nat.lt_of_lt_of_le hi h.size) hr).trans (h.block i hi hr)⟩

theorem Code.kept {w w' : World} {G : Nat} {a : Option Addr} {len : Nat} (h : Code w G a len) (hg : w.grownBy w' (some G)) : Code w' G a len := by
  rcases h with h | ⟨b, off, ha, hb, hn, hc⟩
  · exact .inl h
  · refine .inr ⟨b, off, ha, Nat.lt_of_lt_of_le hb hg.size, hn, fun j hj => ?_⟩
    obtain ⟨z, hz, hcell⟩ := hc j hj
    refine ⟨z, hz, ?_⟩
    rw [World.cell?_of_block (w := w) (hg.block b hb (by simp; exact hn))]
    exact hcell

theorem set1 {w : World} {G : Nat} {A B C D : Value} {t : TypeId} (h : w.heap[G]? = some (.cells #[A, B, C] t (0, 0))) : (w.setCell ⟨G, 1, none⟩ D).heap[G]? = some (.cells #[A, D, C] t (0, 0)) := by
  rw [heap_setCell_same w G 1 _ t D h]; rfl
theorem set2 {w : World} {G : Nat} {A B C D : Value} {t : TypeId} (h : w.heap[G]? = some (.cells #[A, B, C] t (0, 0))) : (w.setCell ⟨G, 2, none⟩ D).heap[G]? = some (.cells #[A, B, D] t (0, 0)) := by
  rw [heap_setCell_same w G 2 _ t D h]; rfl
theorem grown_set (w : World) (G j : Nat) (u : Value) : w.grownBy (w.setCell ⟨G, j, none⟩ u) (some G) :=
  ⟨rfl, rfl, rfl, by simp [World.setCell], fun k _ hk => heap_setCell_other w ⟨G, j, none⟩ k u (fun e => hk (by simp [e]))⟩
theorem grown_draws (w : World) (n : Nat) (row : Option Nat) : w.grownBy (w.drewN n) row := ⟨rfl, rfl, rfl, Nat.le_refl _, fun _ _ _ => rfl⟩

theorem fin_byte {y : Int} {R : Prop} (h : 0 ≤ y ∧ y ≤ 255) (hr : R) : ∃ x : Nat, x ≤ 255 ∧ Ending.returned (.int .i64 y) = .returned (.int .i64 (x : Int)) ∧ R :=
  ⟨y.toNat, by omega, by rw [Int.toNat_of_nonneg h.1], hr⟩

set_option maxRecDepth 100000 in
set_option maxHeartbeats 2000000 in
theorem l01Byte_any (w : World) (G : Nat) (a : Option Addr) (len cap : Nat) (hl : len ≤ 1048576) (hcur : Cur w G a len cap) (hcode : Code w G a len) :
    Calls Tryz.prog 115 #[.pointer (some ⟨G, 0, none⟩)] w fun e w' => ∃ x : Nat, x ≤ 255 ∧ e = .returned (.int .i64 (x : Int)) ∧ Cur w' G a len cap ∧ w.grownBy w' (some G) := by
  obtain ⟨i, h, hi, hG⟩ := hcur
  have c0 : w.cell? ⟨G, 0, none⟩ = some (.slice a len cap) := by rw [cell_of_row w G 0 _ _ _ hG]; rfl
  have c1 : w.cell? ⟨G, 1, none⟩ = some (.int .i64 (i : Int)) := by rw [cell_of_row w G 1 _ _ _ hG]; rfl
  have c2 : w.cell? ⟨G, 2, none⟩ = some (.int .i64 h) := by rw [cell_of_row w G 2 _ _ _ hG]; rfl
  have f1 : w.frozen? ⟨G, 1, none⟩ = false := frozen_of_row w G 1 _ _ hG
  have f2 : w.frozen? ⟨G, 2, none⟩ = false := frozen_of_row w G 2 _ _ hG
  have HG : Hid _ := hG
  clear hG
  by_cases hlt : i < len
  · have e1 : decide ((i : Int) < (len : Int)) = true := by simp; omega
    rcases hcode with h0 | ⟨b, off, rfl, hb, hne, hc⟩
    · omega
    · obtain ⟨z, hz, hcell⟩ := hc i hlt
      have b1 : (0 : Int) ≤ (i : Int) := by omega
      have b2 : (i : Int) < (len : Int) := by omega
      have hcell2 : ∀ v, (w.setCell ⟨G, 2, none⟩ v).cell? ⟨b, off + i, none⟩ = some (.int .u8 (z : Int)) := fun v => by
        rw [World.cell?_of_block (w := w) (heap_setCell_other w ⟨G, 2, none⟩ b v (by exact hne))]
        exact hcell
      clear hc
      go_enter Tryz.func115, Tryz.ntmps115
      go_wp2
      go_quiet (fail)
      go_wp2
      go_quiet (fail)
      go_wp2
      go_quiet (fail)
      go_wp2
      go_ret
      refine fin_byte (and255 _) ⟨?_, ?_⟩
      · exact ⟨i + 1, _, by omega, set1 (set2 HG.out)⟩
      · exact grownT (grownT (grown_set w G 2 _) (grown_set _ G 1 _)) (grown_draws _ _ _)
  · have e1 : decide ((i : Int) < (len : Int)) = false := by simp; omega
    go_enter Tryz.func115, Tryz.ntmps115
    go_wp2
    go_quiet (fail)
    go_wp2
    go_quiet (fail)
    go_wp2
    go_ret
    refine fin_byte (and255 _) ⟨?_, ?_⟩
    · exact ⟨i, _, hi, set2 HG.out⟩
    · exact grownT (grownT (grown_set w G 2 _) (grown_draws _ _ _)) (grown_draws _ _ _)

/-- what a draw leaves: the cursor, the bytes, the rest as it was -/
structure Drawn (w w' : World) (G : Nat) (a : Option Addr) (len cap : Nat) : Prop where
  cur : Cur w' G a len cap
  code : Code w' G a len
  grown : w.grownBy w' (some G)

theorem Drawn.trans {w w1 w2 : World} {G : Nat} {a : Option Addr} {len cap : Nat} (h : Drawn w w1 G a len cap) (k : Drawn w1 w2 G a len cap) : Drawn w w2 G a len cap :=
  ⟨k.cur, k.code, grownT h.grown k.grown⟩

theorem l01Byte_drawn (w : World) (G : Nat) (a : Option Addr) (len cap : Nat) (hl : len ≤ 1048576) (hcur : Cur w G a len cap) (hcode : Code w G a len) :
    Calls Tryz.prog 115 #[.pointer (some ⟨G, 0, none⟩)] w fun e w' => ∃ x : Nat, x ≤ 255 ∧ e = .returned (.int .i64 (x : Int)) ∧ Drawn w w' G a len cap :=
  (l01Byte_any w G a len cap hl hcur hcode).mono fun _ _ ⟨x, hx, he, hc, hg⟩ => ⟨x, hx, he, hc, hcode.kept hg, hg⟩

theorem fin_rem {y n : Int} {R : Prop} (h : 0 < n) (hr : R) : ∃ x : Nat, (x : Int) < n ∧ Ending.returned (.int .i64 (y % n)) = .returned (.int .i64 (x : Int)) ∧ R := by
  have h1 := Int.emod_lt_of_pos y h
  have h2 := Int.emod_nonneg y (show n ≠ 0 by omega)
  exact ⟨(y % n).toNat, by omega, by rw [Int.toNat_of_nonneg h2], hr⟩

set_option maxRecDepth 100000 in
set_option maxHeartbeats 2000000 in
theorem l01Below_any (n : Int) (h0 : 0 < n) (h1 : n ≤ 4294967296) (w : World) (G : Nat) (a : Option Addr) (len cap : Nat) (hl : len ≤ 1048576) (hcur : Cur w G a len cap) (hcode : Code w G a len) :
    Calls Tryz.prog 72 #[.pointer (some ⟨G, 0, none⟩), .int .i64 n] w fun e w' => ∃ x : Nat, (x : Int) < n ∧ e = .returned (.int .i64 (x : Int)) ∧ Drawn w w' G a len cap := by
  have B := fun (W : World) (hc : Cur W G a len cap) (hd : Code W G a len) => l01Byte_drawn W G a len cap hl hc hd
  have HB := (show ∀ {p : Prop}, p → Hid p from fun h => h) B
  clear B
  have H1 := (show ∀ {p : Prop}, p → Hid p from fun h => h) hcur
  have H2 := (show ∀ {p : Prop}, p → Hid p from fun h => h) hcode
  clear hcur hcode
  by_cases hs : n ≤ 256
  · go_enter Tryz.func72, Tryz.ntmps72
    go_wp2_with (go_at_call 115; refine (HB.out _ H1.out H2.out).mono ?_; rintro e w1 ⟨x, hx, rfl, hd⟩)
    go_ret
    exact fin_rem h0 hd
  · go_enter Tryz.func72, Tryz.ntmps72
    go_wp2_with (go_at_call 115; refine (HB.out _ H1.out H2.out).mono ?_; rintro e w1 ⟨x, hx, rfl, d1⟩; refine Hid.out ?_)
    refine (show ∀ {p : Prop}, p → Hid p from fun h => h) ?_
    go_wp2_with (go_at_call 115; refine (HB.out _ d1.cur d1.code).mono ?_; rintro e w2 ⟨y, hy, rfl, d2⟩; refine Hid.out ?_)
    refine (show ∀ {p : Prop}, p → Hid p from fun h => h) ?_
    go_wp2_with (go_at_call 115; refine (HB.out _ d2.cur d2.code).mono ?_; rintro e w3 ⟨z, hz, rfl, d3⟩; refine Hid.out ?_)
    refine (show ∀ {p : Prop}, p → Hid p from fun h => h) ?_
    go_wp2_with (go_at_call 115; refine (HB.out _ d3.cur d3.code).mono ?_; rintro e w4 ⟨v, hv, rfl, d4⟩; refine Hid.out ?_)
    refine (show ∀ {p : Prop}, p → Hid p from fun h => h) ?_
    go_wp2
    go_ret
    exact fin_rem h0 (d1.trans (d2.trans (d3.trans d4)))

theorem cur_new (w : World) (a : Option Addr) (len cap : Nat) (h : Int) : Cur (w.alloc (.cells #[.slice a len cap, .int .i64 0, .int .i64 h] 178)) w.heap.size a len cap :=
  ⟨0, h, Nat.zero_le _, heap_alloc_new w _⟩

theorem code_new {w : World} {a : Option Addr} {len : Nat} (h : Code w w.heap.size a len) (o : Obj) : Code (w.alloc o) w.heap.size a len := by
  rcases h with h | ⟨b, off, ha, hb, hn, hc⟩
  · exact .inl h
  · refine .inr ⟨b, off, ha, by simp; omega, hn, fun j hj => ?_⟩
    obtain ⟨z, hz, hcell⟩ := hc j hj
    exact ⟨z, hz, by rw [World.cell?_of_block (w := w) (Below.heap_alloc w o b hb)]; exact hcell⟩

set_option maxRecDepth 100000 in
set_option maxHeartbeats 2000000 in
theorem l01New_any (w : World) (a : Option Addr) (len cap : Nat) (hl : len ≤ 1048576) (hcode : Code w w.heap.size a len) :
    Calls Tryz.prog 69 #[.slice a len cap] w fun e w' => e = .returned (.pointer (some ⟨w.heap.size, 0, none⟩)) ∧ Cur w' w.heap.size a len cap ∧ Code w' w.heap.size a len ∧ Below w.heap.size w w' ∧ w.heap.size < w'.heap.size := by
  have HC := hideIt hcode
  clear hcode
  go_enter Tryz.func69, Tryz.ntmps69
  go_wp2
  go_loop [3, 4] (fun hh i => ∃ (k : Nat) (h : Int), k ≤ len ∧ 0 ≤ h ∧ h ≤ 2147483648 ∧ i = .int .i64 k ∧ hh = .int .i64 h) (fun _ i => len - (intOf i).toNat)
  case atStart => exact ⟨0, 13501 + (len : Int), by omega, by omega, by omega, rfl, rfl⟩
  case round =>
    obtain ⟨k, h, hk, h0, h1, rfl, rfl⟩ := hrel
    by_cases hlt : k < len
    · have e0 : decide ((k : Int) < (len : Int)) = true := by simp; omega
      by_cases h4 : k < 4000
      · have e1 : decide ((k : Int) < 4000) = true := by simp; omega
        rcases HC.out with hz | ⟨b, off, rfl, hb, hne, hc⟩
        · omega
        · obtain ⟨z, hz, hcell⟩ := hc k hlt
          have b1 : (0 : Int) ≤ (k : Int) := by omega
          have b2 : (k : Int) < (len : Int) := by omega
          clear hc HC
          go_wp2
          have ha := and30 (h * 131 + (z : Int) + 7)
          go_round
          case rel => exact ⟨k + 1, _, by omega, ha.1, by omega, by go_num, rfl⟩
          case measure => simp [intOf]; omega
      · have e1 : decide ((k : Int) < 4000) = false := by simp; omega
        go_wp2
        go_ret
        exact ⟨rfl, cur_new w a len cap h, code_new HC.out _, (Below.refl _ _).alloc (Nat.le_refl _) _, by simp⟩
    · have e0 : decide ((k : Int) < (len : Int)) = false := by simp; omega
      go_wp2
      go_ret
      exact ⟨rfl, cur_new w a len cap h, code_new HC.out _, (Below.refl _ _).alloc (Nat.le_refl _) _, by simp⟩

theorem l01Once_any (n : Int) (h0 : 0 < n) (h1 : n ≤ 4294967296) (w : World) (G : Nat) (a : Option Addr) (len cap : Nat) (hl : len ≤ 1048576) (hcur : Cur w G a len cap) (hcode : Code w G a len) :
    Calls Tryz.prog 71 #[.pointer (some ⟨G, 0, none⟩), .int .i64 n] w fun e w' => ∃ b : Bool, e = .returned (.bool b) ∧ Drawn w w' G a len cap := by
  have HB := hideIt (l01Below_any n h0 h1 w G a len cap hl hcur hcode)
  clear hcur hcode
  go_enter Tryz.func71, Tryz.ntmps71
  go_wp2_with (go_at_call 72; refine HB.out.mono ?_; rintro e w1 ⟨x, hx, rfl, hd⟩)
  go_ret
  exact ⟨_, rfl, hd⟩

theorem l01PickInt_any (L n : Nat) (c : Nat) (hn : 0 < n) (hn2 : n ≤ 1000) (w : World) (G : Nat) (a : Option Addr) (len cap : Nat) (hl : len ≤ 1048576) (hcur : Cur w G a len cap) (hcode : Code w G a len) (hL : L < w.heap.size) (hLG : L ≠ G)
    (hcells : ∀ j, j < n → ∃ z : Int, w.cell? ⟨L, j, none⟩ = some (.int .i64 z)) :
    Calls Tryz.prog 167 #[.pointer (some ⟨G, 0, none⟩), .slice (some ⟨L, 0, none⟩) n c] w fun e w' => ∃ x : Int, e = .returned (.int .i64 x) ∧ Drawn w w' G a len cap := by
  have HB := hideIt (l01Below_any (n : Int) (by omega) (by omega) w G a len cap hl hcur hcode)
  have HL := hideIt hcells
  clear hcur hcode hcells
  go_enter Tryz.func167, Tryz.ntmps167
  go_wp2_with (go_at_call 72; refine HB.out.mono ?_; rintro e w1 ⟨x, hx, rfl, hd⟩; refine Hid.out ?_)
  refine (show ∀ {p : Prop}, p → Hid p from fun h => h) ?_
  have hxn : x < n := by omega
  obtain ⟨z, hz⟩ := HL.out x hxn
  have hz1 : w1.cell? ⟨L, x, none⟩ = some (.int .i64 z) := by rw [World.cell?_of_block (w := w) (hd.grown.block L hL (by simp; exact hLG))]; exact hz
  have b1 : (0 : Int) ≤ (x : Int) := by omega
  clear HB HL hz
  go_wp2
  go_ret
  exact ⟨_, rfl, hd⟩

end Go.Proofs.YtgjnlhdgekfieaaGreat
