/- The program's Labels. -/
import Derived.Test.YtfkoddhojcjohaaIMember
namespace Go.Proofs.Ytfkoddhojcjohaa
open Go.RowKit

theorem MSt.lt {B g n : Nat} {P : Nat → Option Nat} {u : World} (h : MSt B g n P u) : B ≤ g ∧ g < u.heap.size := by
  obtain ⟨xs, ho⟩ := h.own
  exact ho.lt g rfl
theorem MSt.up {B g n : Nat} {P : Nat → Option Nat} {u v : World} (h : MSt B g n P u) (hb : Below u.heap.size u v) : MSt B g n P v := by
  have hl := h.lt
  obtain ⟨xs, ho⟩ := h.own
  refine ⟨⟨xs, own_up ho hb⟩, fun i hi => ?_⟩
  obtain ⟨c0, c1⟩ := h.cell i hi
  exact ⟨by rw [hb.cell (p := ⟨g, _, none⟩) hl.2]; exact c0, by rw [hb.cell (p := ⟨g, _, none⟩) hl.2]; exact c1⟩
theorem MSt.setOther {B g n : Nat} {P : Nat → Option Nat} {u : World} (h : MSt B g n P u) (G j : Nat) (v : Value) (hG : g ≠ G) : MSt B g n P (u.setCell ⟨G, j, none⟩ v) := by
  obtain ⟨xs, ho⟩ := h.own
  refine ⟨⟨xs, own_setOther ho G j v hG⟩, fun i hi => ?_⟩
  obtain ⟨c0, c1⟩ := h.cell i hi
  exact ⟨by rw [set_other hG]; exact c0, by rw [set_other hG]; exact c1⟩

theorem infoMem : (Try.prog.info? 70).map (fun i => (i.zero, i.size, i.bytes)) = some (some (.agg #[.int .i64 0, .pointer none]), 2, 16) := by kernel_rfl

theorem made2 (n j : Nat) (hj : j < n) : (madeCells #[.int .i64 0, .pointer none] (n * 2)).toList[j * 2 + 1]? = some (.pointer none) := by
  rw [Array.getElem?_toList]
  unfold madeCells
  rw [Array.getElem?_map, Array.getElem?_eq_getElem (by simp; omega), Array.getElem_range]
  have : (j * 2 + 1) % 2 = 1 := by omega
  simp [this]

set_option maxRecDepth 100000 in
set_option maxHeartbeats 4000000 in
theorem iLabels_any (N : Int) (es : List EdgeV) (n : Nat) (a : Option Addr) (c : Nat) (hn : n ≤ 1048576) (w : World) (h : Es w w.heap.size a n es) :
    Calls Try.prog 18 #[.agg #[.int .i64 N, .slice a n c]] w fun e w' => IAns w (labE N es) e w' := by
  obtain ⟨i0, hi, hz0, hz1, hz2⟩ := info_parts info3i
  obtain ⟨im, him, hm0, hm1, hm2⟩ := info_parts infoMem
  have HGO : Hid (∀ u, InG w N a n c u → Calls Try.prog 13 #[.agg #[.int .i64 N, .slice a n c]] u fun e v => e = .returned (.bool (gB N es)) ∧ InG w N a n c v) := fun u hu =>
    (iGraphOk_any N es n a c hn u (h.up hu.below)).mono fun _ _ ⟨he, hb⟩ => ⟨he, hu.up hb⟩
  have S1 := InG.start w N a n c
  cases hG : gB N es with
  | false =>
    rw [hG] at HGO
    have HO := hideIt (show labE N es = [] by unfold labE; rw [hG, if_neg (by simp)])
    clear hG h
    go_enter Try.func18, Try.ntmps18
    go_wp2_with (go_at_call 13; refine (HGO.out _ S1).mono ?_; rintro e w4 ⟨rfl, S4⟩; refine Hid.out ?_)
    refine (show ∀ {p : Prop}, p → Hid p from fun h => h) ?_
    go_wp2
    go_ret
    rw [HO.out]
    exact ians_nil S4.below
  | true =>
    rw [hG] at HGO
    have hNb := (gB_chk hG).1
    have HEI := hideIt (esIn_of hG)
    have HO := hideIt (show labE N es = labs es N.toNat N.toNat by unfold labE; rw [hG, if_pos rfl])
    have HR := hideIt h
    have hlen := h.1
    obtain ⟨nn, rfl⟩ : ∃ nn : Nat, N = (nn : Int) := ⟨N.toNat, by omega⟩
    rw [Int.toNat_natCast] at HO HEI
    clear hG h
    have hmk : ∀ u : World, (Instr.makeSlice 67 (.int .i64 (nn : Int)) (.int .i64 (nn : Int))).run Try.prog u =
        .ok (.slice (some ⟨u.heap.size, 0, none⟩) nn nn) (u.alloc (.cells (madeCells #[.int .i64 0, .pointer none] (nn * 2)) 70)) := fun u => by
      have h := run_make (P := Try.prog) u 67 70 im _ Try.underlying67 him hm0 .i64 .i64 (nn : Int) (nn : Int) (by omega) (by omega) (by rw [hm2]; omega) (by omega)
      rw [Int.toNat_natCast] at h
      simpa [hm1, Value.cells] using h
    have hmk2 : ∀ u : World, (Instr.makeSlice 37 (.int .i64 (nn : Int)) (.int .i64 (nn : Int))).run Try.prog u =
        .ok (.slice (some ⟨u.heap.size, 0, none⟩) nn nn) (u.alloc (.cells (madeCells #[.int .i64 0] nn) 3)) := fun u => by
      have h := run_make (P := Try.prog) u 37 3 i0 _ Try.underlying37 hi hz0 .i64 .i64 (nn : Int) (nn : Int) (by omega) (by omega) (by rw [hz2]; omega) (by omega)
      rw [Int.toNat_natCast] at h
      simpa [hz1, Value.cells] using h
    go_enter Try.func18, Try.ntmps18
    go_wp2_with (go_at_call 13; refine (HGO.out _ S1).mono ?_; rintro e w4 ⟨rfl, S4⟩; refine Hid.out ?_)
    refine (show ∀ {p : Prop}, p → Hid p from fun h => h) ?_
    obtain ⟨k0, k1⟩ := S4.cells
    have z4 := S4.size
    clear HGO S1
    go_wp2
    go_loopw [17] (fun i wr => ∃ (k : Nat) (xs : List Value), k ≤ nn ∧ i = .int .i64 (k : Int) ∧ wr.ownsRow w4.heap.size 70 2 (.slice (some ⟨w4.heap.size, 0, none⟩) nn nn) nn xs ∧ Hid (∀ j, j < nn → xs[j * 2 + 1]? = some (.pointer none)) ∧ Hid (∀ j, j < k → xs[j * 2]? = some (.int .i64 (j : Int))) ∧ Below w4.heap.size w4 wr) (fun i _ => nn - (intOf i).toNat)
    case atStart => exact ⟨0, _, by omega, rfl, World.ownsRow_lit (base := w4.heap.size) (e := 70) (size := 2) w4 (madeCells #[.int .i64 0, .pointer none] (nn * 2)) nn (Nat.le_refl _) (by unfold maxLen; omega) (by simp [madeCells]), fun j hj => made2 nn j hj, fun j hj => by omega, (Below.refl _ _).alloc (Nat.le_refl _) _⟩
    case round =>
      obtain ⟨k, xs, hk, rfl, hown, hp, hv, hb⟩ := hrel
      have hl3 : xs.length = nn * 2 := hown.1
      by_cases hlt : k < nn
      · have b1 : (0 : Int) ≤ (k : Int) := by omega
        have b2 : (k : Int) < (nn : Int) := by omega
        have f0 := hown.frozenAt (k * 2)
        obtain ⟨y0, x0⟩ : ∃ y, wr.cell? ⟨w4.heap.size, k * 2, none⟩ = some y := ⟨_, by rw [hown.cellAt (k * 2) (by omega)]; exact List.getElem?_eq_getElem (by omega)⟩
        have HO2 := hideIt (hown.stored (k * 2) (.int .i64 (k : Int))).1
        have HB2 := hideIt (hb.setCell (p := ⟨w4.heap.size, k * 2, none⟩) (Nat.le_refl _) (.int .i64 (k : Int)))
        have HP2 : Hid (∀ j, j < nn → (xs.set (k * 2) (.int .i64 (k : Int)))[j * 2 + 1]? = some (.pointer none)) := fun j hj => by rw [List.getElem?_set_ne (by omega)]; exact hp.out j hj
        have HV2 : Hid (∀ j, j < k + 1 → (xs.set (k * 2) (.int .i64 (k : Int)))[j * 2]? = some (.int .i64 (j : Int))) := fun j hj => by
          by_cases hjk : j = k
          · subst hjk; rw [List.getElem?_set_self (by omega)]
          · rw [List.getElem?_set_ne (by omega)]; exact hv.out j (by omega)
        clear hown hp hv hb
        go_wp2
        exact ⟨⟨k + 1, _, by omega, by go_num, HO2.out, HP2, HV2, HB2.out⟩, by simp [intOf]; omega⟩
      · obtain rfl : k = nn := by omega
        have HM : Hid (MSt w4.heap.size w4.heap.size k (fun _ => none) wr) := ⟨⟨xs, hown⟩, fun i hi => ⟨by rw [hown.cellAt (i * 2) (by omega)]; exact hv.out i hi, by rw [hown.cellAt (i * 2 + 1) (by omega)]; exact hp.out i hi⟩⟩
        have q0 : wr.cell? ⟨w.heap.size, 1, none⟩ = some (.slice a n c) := by rw [hb.cell (p := ⟨w.heap.size, 1, none⟩) (by show w.heap.size < _; omega)]; exact k1
        have HB0 := hideIt hb
        clear hown hp hv hl3 hb
        go_wp2
        go_loopw [29] (fun i wr => ∃ (q : Nat) (P : Nat → Option Nat) (R : Nat → Nat), q ≤ n ∧ i = .int .i64 (q : Int) ∧ Hid (Uf (es.take q) k P R) ∧ MSt w4.heap.size w4.heap.size k P wr ∧ Below w4.heap.size w4 wr) (fun i _ => n - (intOf i).toNat)
        case atStart => exact ⟨0, _, _, by omega, rfl, by show Uf _ _ _ _; rw [List.take_zero]; exact Uf.start k, HM.out, HB0.out⟩
        case round =>
          obtain ⟨q, P, R, hq, rfl, hU, hM, hb⟩ := hrel
          have hg := hM.lt
          by_cases hlt2 : q < n
          · rcases HR.out.2 with hz | ⟨b, off, rfl, hbl, hc⟩
            · omega
            · obtain ⟨f, hf⟩ : ∃ f, es[q]? = some f := ⟨es[q]'(by omega), List.getElem?_eq_getElem (by omega)⟩
              obtain ⟨c0, c1⟩ := hc q f hf
              have hfi := HEI.out f (List.mem_of_getElem? hf)
              have b1 : (0 : Int) ≤ (q : Int) := by omega
              have b2 : (q : Int) < (n : Int) := by omega
              have b3 : (0 : Int) ≤ f.1 := hfi.1
              have b4 : f.1 < (k : Int) := by omega
              have b5 : (0 : Int) ≤ f.2 := by omega
              have b6 : f.2 < (k : Int) := hfi.2.2
              have hbw : Below w.heap.size w wr := S4.below.trans (hb.mono (by omega))
              have e0 : wr.cell? ⟨b, off + q * 2, none⟩ = some (.int .i64 f.1) := by rw [hbw.cell hbl]; exact c0
              have e1 : wr.cell? ⟨b, off + q * 2 + 1, none⟩ = some (.int .i64 f.2) := by rw [hbw.cell hbl]; exact c1
              have hM1 := (hM.up ((Below.refl wr.heap.size wr).alloc (Nat.le_refl _) (.cells #[.int .i64 f.1, .int .i64 f.2] 28))).drew
              have HJ := hideIt (mJoin_any hU.out f hfi _ hM1)
              rw [← take_snocF es q f hf] at HJ
              have hk4 : (wr.alloc (.cells #[.int .i64 f.1, .int .i64 f.2] 28)).drew.cell? ⟨wr.heap.size, 0, none⟩ = some (.int .i64 f.1) ∧ (wr.alloc (.cells #[.int .i64 f.1, .int .i64 f.2] 28)).drew.cell? ⟨wr.heap.size, 1, none⟩ = some (.int .i64 f.2) := ⟨by simp, by simp⟩
              have HBG : Hid (∀ v, (wr.alloc (.cells #[.int .i64 f.1, .int .i64 f.2] 28)).drew.grownBy v (some w4.heap.size) → Below w4.heap.size w4 v ∧ v.cell? ⟨wr.heap.size, 0, none⟩ = some (.int .i64 f.1) ∧ v.cell? ⟨wr.heap.size, 1, none⟩ = some (.int .i64 f.2)) := fun v hv => by
                refine ⟨((hb.alloc hb.size _).drew).grown hv (by have := hb.size; simp; omega) (fun j hj => by simp at hj; omega), ?_, ?_⟩
                · rw [World.cell?_of_block (w := (wr.alloc (.cells #[.int .i64 f.1, .int .i64 f.2] 28)).drew) (hv.block wr.heap.size (by simp) (by simp; omega))]; exact hk4.1
                · rw [World.cell?_of_block (w := (wr.alloc (.cells #[.int .i64 f.1, .int .i64 f.2] 28)).drew) (hv.block wr.heap.size (by simp) (by simp; omega))]; exact hk4.2
              clear hc hf c0 c1 hU hM hM1 hfi
              go_wp2
              go_region_held3 (fun v => v.cell? ⟨wr.heap.size, 0, none⟩ = some (.int .i64 f.1) ∧ v.cell? ⟨wr.heap.size, 1, none⟩ = some (.int .i64 f.2))
                (first | exact (HBG.out _ hg5).2 | exact hk4)
                ((go_at_call 44; refine HJ.out.mono ?_; rintro e w5 ⟨rfl, P', R', hU5, hM5, hg5⟩))
              all_goals
                have HU5 := hideIt hU5
                have hb5 := (HBG.out _ hg5).1
                clear hU5 hg5 HBG HJ
                go_wp2
                exact ⟨⟨q + 1, P', R', by omega, by go_num, HU5, hM5, hb5⟩, by simp [intOf]; omega⟩
          · obtain rfl : q = n := by omega
            rw [List.take_of_length_le (by omega)] at hU
            have HL := hideIt (lab_same HEI.out hU.out)
            have q1 : wr.cell? ⟨w.heap.size, 0, none⟩ = some (.int .i64 (k : Int)) := by rw [hb.cell (p := ⟨w.heap.size, 0, none⟩) (by show w.heap.size < _; omega)]; exact k0
            have hgsz : w4.heap.size < wr.heap.size := hM.lt.2
            have hM1 := hM.up ((Below.refl wr.heap.size wr).alloc (Nat.le_refl _) (.cells (madeCells #[.int .i64 0] k) 3))
            have HM1 := hideIt hM1
            have HB1 := hideIt (hb.alloc hb.size (.cells (madeCells #[.int .i64 0] k) 3))
            have HOw := hideIt (World.ownsRow_lit (base := wr.heap.size) (e := 3) (size := 1) wr (madeCells #[.int .i64 0] k) k (Nat.le_refl _) (by unfold maxLen; omega) (by simp [madeCells]))
            have HLe : Hid (∀ v, MSt w4.heap.size w4.heap.size k P v → ∀ i, i < k → Calls Try.prog 45 #[.pointer (some ⟨w4.heap.size, i * 2, none⟩)] v fun e w' => e = .returned (.pointer (some ⟨w4.heap.size, R i * 2, none⟩)) ∧ w' = v) := fun v hv i hi => mLeast_any hU.out v hv i hi
            have HRl := hideIt hU.out.le
            clear hM hM1 hb hU HB0 HM
            obtain ⟨W6, hW6⟩ : ∃ W6, W6 = wr := ⟨_, rfl⟩
            subst hW6
            go_wp2
            go_loopw [48] (fun i v => ∃ (j : Nat) (xs : List Value), j ≤ k ∧ i = .int .i64 (j : Int) ∧ Hid (xs.take j = ic (labR R j)) ∧ v.ownsRow W6.heap.size 3 1 (.slice (some ⟨W6.heap.size, 0, none⟩) k k) k xs ∧ MSt w4.heap.size w4.heap.size k P v ∧ Below w4.heap.size w4 v) (fun i _ => k - (intOf i).toNat)
            case atStart => exact ⟨0, _, by omega, rfl, by show _ = _; simp [ic, labR], HOw.out, HM1.out, HB1.out⟩
            case round =>
              obtain ⟨j, xs, hj, rfl, hx, hown, hM, hb⟩ := hrel
              have hl3 : xs.length = k * 1 := hown.1
              by_cases hlt3 : j < k
              · have b1 : (0 : Int) ≤ (j : Int) := by omega
                have b2 : (j : Int) < (k : Int) := by omega
                have hRj : R j < k := by have := HRl.out j hlt3; omega
                have HLj := hideIt (HLe.out _ hM j hlt3)
                obtain ⟨c0, _⟩ := hM.cell (R j) hRj
                have f0 := hown.frozenAt j
                obtain ⟨y0, x0⟩ : ∃ y, wr.cell? ⟨W6.heap.size, j, none⟩ = some y := ⟨_, by rw [hown.cellAt j (by omega)]; exact List.getElem?_eq_getElem (by omega)⟩
                have HO2 := hideIt (hown.stored j (.int .i64 ((R j : Nat) : Int))).1
                have HB2 := hideIt (hb.setCell (p := ⟨W6.heap.size, j, none⟩) (by show w4.heap.size ≤ W6.heap.size; omega) (.int .i64 ((R j : Nat) : Int)))
                have HM2 := hideIt (hM.setOther W6.heap.size j (.int .i64 ((R j : Nat) : Int)) (by omega))
                have HX : Hid ((xs.set j (.int .i64 ((R j : Nat) : Int))).take (j + 1) = ic (labR R (j + 1))) := by
                  show _ = _
                  rw [List.take_add_one, List.take_set_of_le (Nat.le_refl _), hx.out, labR_snoc, ic_snoc]
                  simp [show j < xs.length by omega]
                clear hown hM hb hx
                go_wp2_with (go_at_call 45; refine HLj.out.mono ?_; rintro e w7 ⟨rfl, rfl⟩)
                exact ⟨⟨j + 1, _, by omega, by go_num, HX, HO2.out, HM2.out, HB2.out⟩, by simp [intOf]; omega⟩
              · obtain rfl : j = k := by omega
                have HX : Hid (xs = ic (labR R j)) := by
                  show _ = _
                  have := hx.out
                  rw [List.take_of_length_le (by omega)] at this
                  exact this
                have HO2 := hideIt (own_mono hown (show w.heap.size ≤ W6.heap.size by omega))
                have HB2 := hideIt (S4.below.trans (hb.mono (show w.heap.size ≤ w4.heap.size by omega)))
                clear hown hM hb hx
                go_wp2
                go_ret
                exact ⟨_, _, _, rfl, by rw [HO.out, ← HL.out, ← HX.out]; exact HO2.out, HB2.out⟩
end Go.Proofs.Ytfkoddhojcjohaa
