/- The program's Cut. The program's stepsUp and EdgesOf. The walk of FnForests. A slice of bytes that comes in, as the walks over drawn inputs want it. -/
import Derived.Test.YtklalfkdikjkfaaGreatKDraw7
import Derived.Test.YtklalfkdikjkfaaGreatKILink7
import Derived.Test.YtklalfkdikjkfaaGreatKISplit
import Derived.Test.YtklalfkdikjkfaaGreatKCmp6
import Derived.Test.YtklalfkdikjkfaaGreatKNew7
import Derived.Test.YtklalfkdikjkfaaGreatKShelf9
import Derived.Test.YtklalfkdikjkfaaGreatKSRer
import Derived.WalkKit
import Derived.ProofKit
import Derived.OpenShut
import Derived.ChangeOld
import Derived.Below
namespace Go.Proofs.YtklalfkdikjkfaaGreat
open Go.RowKit

set_option maxRecDepth 100000 in
set_option maxHeartbeats 8000000 in
theorem iCut_any (N : Int) (ts : List (List Int)) (f : EdgeV) (n : Nat) (a : Option Addr) (c : Nat) (hn : n + lnS ts ≤ 1048576) (w : World) (h : Ts w w.heap.size a n ts) :
    Calls Tryz.prog 13 #[.agg #[.int .i64 N, .slice a n c], .agg #[.int .i64 f.1, .int .i64 f.2]] w fun e w' => FAns w N (cutO N ts f) e w' := by
  obtain ⟨W, hW⟩ : ∃ W, W = w3of w N a n c f := ⟨_, rfl⟩
  have hsz : W.heap.size = w.heap.size + 3 := by rw [hW, w3_size]
  have gW : Good w W := by rw [hW]; exact w3_good _ _ _ _ _ _
  have HA := hideIt (h.up gW)
  have HAw := hideIt h
  have hlen := h.1
  have HT : Hid (∀ x u, Good W u → Calls Tryz.prog 10 #[.agg #[.int .i64 N, .slice a n c], .int .i64 x] u fun e v => e = .returned (.int .i64 (treeO N ts x)) ∧ Good W v) := fun x u hu =>
    (iTreeOf_any N ts x n a c hn u (HA.out.up hu)).mono fun _ _ ⟨he, hb⟩ => ⟨he, hu.up hb⟩
  have HE : Hid (∀ u, Good W u → Calls Tryz.prog 52 #[.int .i64 N, .agg #[.int .i64 f.1, .int .i64 f.2]] u fun e v => e = .returned (.bool (eB N f)) ∧ Good W v) := fun u hu =>
    (iEdgeOk_any N f u).mono fun _ _ ⟨he, hb⟩ => ⟨he, hu.up hb⟩
  have HC : Hid (∀ u, Good W u → ((u.cell? ⟨w.heap.size, 0, none⟩ = some (.int .i64 N) ∧ u.cell? ⟨w.heap.size, 1, none⟩ = some (.slice a n c)) ∧ u.cell? ⟨w.heap.size + 1, 0, none⟩ = some (.int .i64 f.1) ∧ u.cell? ⟨w.heap.size + 1, 1, none⟩ = some (.int .i64 f.2)) ∧ Good W u) := fun u hu => ⟨w3_cells (hW ▸ hu), hu⟩
  have HO : Hid (∀ u, Below (w.heap.size + 3) W u → (u.cell? ⟨w.heap.size + 2, 0, none⟩ = some (.int .i64 0) ∧ u.cell? ⟨w.heap.size + 2, 1, none⟩ = some (.slice none 0 0)) ∧ u.frozen? ⟨w.heap.size + 2, 0, none⟩ = false ∧ u.frozen? ⟨w.heap.size + 2, 1, none⟩ = false) := fun u hu => w3_out (hW ▸ hu)
  have HNo : Hid (∀ u, Good W u → cutO N ts f = none → FAns w N (cutO N ts f) (.returned (.tuple #[.agg #[.int .i64 0, .slice none 0 0], .bool false])) ((u.setCell ⟨w.heap.size + 2, 0, none⟩ (.int .i64 0)).setCell ⟨w.heap.size + 2, 1, none⟩ (.slice none 0 0))) := fun u hu ho =>
    fans_no ho (((gW.up hu).setCell (p := ⟨w.heap.size + 2, 0, none⟩) (by show w.heap.size ≤ w.heap.size + 2; omega) _).setCell (p := ⟨w.heap.size + 2, 1, none⟩) (by show w.heap.size ≤ w.heap.size + 2; omega) _)
  have HS0 := hideIt (HC.out _ (Good.refl W).drew)
  have HGW := hideIt gW
  go_enter Tryz.func13, Tryz.ntmps13
  go_upto_region 1 with fail
  clear h gW
  have hW' : (((w.alloc (.cells #[.int .i64 N, .slice a n c] 26)).alloc (.cells #[.int .i64 f.1, .int .i64 f.2] 28)).alloc (.cells #[.int .i64 0, .slice none 0 0] 26)) = W := hW.symm
  rw [hW']
  clear hW hW'
  obtain ⟨⟨⟨k0, k1⟩, k2, k3⟩, _⟩ := HC.out _ (Good.refl W)
  have HT0 := hideIt (HT.out f.1 W (Good.refl W))
  clear HS0
  go_wp2_with (go_at_call 10; refine HT0.out.mono ?_; rintro e w1 ⟨rfl, G1⟩; refine Hid.out ?_)
  refine (show ∀ {p : Prop}, p → Hid p from fun h => h) ?_
  clear k0 k1 k2 k3 HT0
  · skip
    obtain ⟨⟨⟨k0, k1⟩, k2, k3⟩, _⟩ := HC.out _ G1
    have HE1 := hideIt (HE.out _ G1)
    cases hE : eB N f with
    | false =>
      rw [hE] at HE1
      have HL := hideIt (cutO_no (N := N) (ts := ts) (e := f) (fun h => by rw [hE] at h; exact absurd h.2.1 (by simp)))
      clear hE
      go_wp2_with (go_at_call 52; refine HE1.out.mono ?_; rintro e w2 ⟨rfl, G2⟩; refine Hid.out ?_)
      refine (show ∀ {p : Prop}, p → Hid p from fun h => h) ?_
      obtain ⟨⟨r0, r1⟩, r2, r3⟩ := HO.out _ (by rw [← hsz]; exact G2)
      have HN2 := hideIt (HNo.out _ G2 HL.out)
      clear k0 k1 k2 k3
      go_wp2
      exact bodyPost_ret (v := .tuple #[.agg #[.int .i64 0, .slice none 0 0], .bool false]) (by simp [results, Tryz.results13, go_sem, r0, r1]) rfl HN2.out
    | true =>
      rw [hE] at HE1
      by_cases hP : FP N ts
      · obtain ⟨M, rfl, hM1, hM2⟩ := FP_nat hP
        obtain ⟨i, j, p, q, hi, hj, hu, hv⟩ := edge_at hP hE
        have e1 : treeO (M : Int) ts f.1 = (i : Int) := (treeO_yes hP f.1).trans (trI_of hP.q hi hu)
        rw [e1]
        have hil := (List.getElem?_eq_some_iff.1 hi).1
        rcases HA.out.2 with hz | ⟨b, off, rfl, hbl, hc⟩
        · omega
        · obtain ⟨x, cx, ci, ii, hcx⟩ := hc i p hi
          have hp := tB_len (hP.q.1 p (List.mem_of_getElem? hi)).1
          have HJ : Hid (∀ u, Good W u → Calls Tryz.prog 58 #[.slice x p.length cx, .int .i64 f.1, .int .i64 f.2] u fun e v => T2Ans u (spO p f.1 f.2) e v) := fun u hu =>
            iSplitTour_any p f.1 f.2 p.length x cx (by omega) hcx u (ii.up hu)
          have HC4 : Hid (∀ u, Good W u → (((u.cell? ⟨w.heap.size, 0, none⟩ = some (.int .i64 (M : Int)) ∧ u.cell? ⟨w.heap.size, 1, none⟩ = some (.slice (some ⟨b, off, none⟩) n c)) ∧ u.cell? ⟨w.heap.size + 1, 0, none⟩ = some (.int .i64 f.1) ∧ u.cell? ⟨w.heap.size + 1, 1, none⟩ = some (.int .i64 f.2)) ∧ u.cell? ⟨b, off + i, none⟩ = some (.slice x p.length cx)) ∧ Good W u) := fun u hu =>
            ⟨⟨(HC.out u hu).1, by rw [hu.cell hbl]; exact ci⟩, hu⟩
          have b1 : (0 : Int) ≤ (i : Int) := by omega
          have b2 : (i : Int) < (n : Int) := by omega
          have d1 : decide ((i : Int) < 0) = false := decide_eq_false (by omega)
          have HAw2 := HAw
          clear hc ii ci e1
          go_wp2_with (go_at_call 52; refine HE1.out.mono ?_; rintro e w2 ⟨rfl, G2⟩; refine Hid.out ?_)
          refine (show ∀ {p : Prop}, p → Hid p from fun h => h) ?_
          have g2d : Good W w2.drew := G2.drew
          have hS2 := HC4.out _ g2d
          clear k0 k1 k2 k3 HE1
          cases hsp : (spO p f.1 f.2).2.2 with
          | false =>
            have HL := hideIt (cutO_no (N := (M : Int)) (ts := ts) (e := f) (fun h => by
              have h3 := h.2.2
              rw [trI_of hP.q hi hu, tat_at hi, hsp] at h3
              cases h3))
            have HJ2 : Hid (∀ u, Good W u → Calls Tryz.prog 58 #[.slice x p.length cx, .int .i64 f.1, .int .i64 f.2] u fun e v => ∃ aJ mJ cJ aK mK cK, e = .returned (.tuple #[.slice aJ mJ cJ, .slice aK mK cK, .bool false]) ∧ Good W v) := fun u hu =>
              (HJ.out u hu).mono fun _ _ ⟨aJ, mJ, cJ, aK, mK, cK, _, he, _, _, _, hb⟩ => ⟨aJ, mJ, cJ, aK, mK, cK, by rw [he, hsp], hu.up hb⟩
            clear hi hj hu hv hE HJ hP hsp
            go_upto_region 4 with fail
            go_region_held3 (fun u => (((u.cell? ⟨w.heap.size, 0, none⟩ = some (.int .i64 (M : Int)) ∧ u.cell? ⟨w.heap.size, 1, none⟩ = some (.slice (some ⟨b, off, none⟩) n c)) ∧ u.cell? ⟨w.heap.size + 1, 0, none⟩ = some (.int .i64 f.1) ∧ u.cell? ⟨w.heap.size + 1, 1, none⟩ = some (.int .i64 f.2)) ∧ u.cell? ⟨b, off + i, none⟩ = some (.slice x p.length cx)) ∧ Good W u)
              (first | assumption)
              (first | (go_at_call 58; refine (HJ2.out _ (And.right (by assumption))).mono ?_; rintro e w3 ⟨aJ, mJ, cJ, aK, mK, cK, rfl, G3⟩; have hS3 := HC4.out _ G3))
            all_goals
              obtain ⟨⟨r0, r1⟩, r2, r3⟩ := HO.out _ (by rw [← hsz]; exact G3)
              have HN2 := hideIt (HNo.out _ G3 HL.out)
              go_wp2
              exact bodyPost_ret (v := .tuple #[.agg #[.int .i64 0, .slice none 0 0], .bool false]) (by simp [results, Tryz.results13, go_sem, r0, r1]) rfl HN2.out
          | true =>
            obtain ⟨A, B, hS⟩ : ∃ A B, spO p f.1 f.2 = (A, B, true) := ⟨_, _, by rw [← hsp]⟩
            rw [hS] at HJ
            have HL := hideIt (cutO_yes hP hE hi hu hS)
            obtain ⟨pp, cc, hSp, hvp⟩ := cut_sp hS
            have hAl := tB_len hSp.oka
            have hBl := tB_len hSp.okb
            have hFQ := cut_fq hP hi hS
            have hWo := wo_stay1 hP.q hi hu hvp
            have HJ2 : Hid (∀ u, Good W u → Calls Tryz.prog 58 #[.slice x p.length cx, .int .i64 f.1, .int .i64 f.2] u fun e v => ∃ g cJ g' cK, e = .returned (.tuple #[.slice (some ⟨g, 0, none⟩) A.length cJ, .slice (some ⟨g', 0, none⟩) B.length cK, .bool true]) ∧ (RwB v ⟨g, cJ, A⟩ ∧ RwB v ⟨g', cK, B⟩) ∧ (w.heap.size + 3 ≤ g ∧ g < g') ∧ Good W v) := fun u hu =>
              (HJ.out u hu).mono fun _ v ⟨aJ, mJ, cJ, aK, mK, cK, mid, he, hmid, hA, hB, hb⟩ => by
                have hm : mJ = A.length := hA.len.symm
                have hm' : mK = B.length := hB.len.symm
                subst hm hm'
                obtain ⟨g, rfl, _, hg⟩ := own_some hA.own (by omega)
                obtain ⟨g', rfl, _, hg'⟩ := own_some hB.own (by omega)
                have hgm := hA.row g rfl
                exact ⟨g, cJ, g', cK, he, ⟨RwB.of_own hA.own, RwB.of_own hB.own⟩, ⟨by have := hu.size; omega, by omega⟩, hu.up hb⟩
            have HRep : Hid (∀ (u : World) (R0 : List Rw) (a1 : Option Addr) (c1 c2 : Nat × Nat), R0 = [(⟨c1.1, c1.2, A⟩ : Rw), (⟨c2.1, c2.2, B⟩ : Rw)] → Below (w.heap.size + 3) W u → FB u (w.heap.size + 3) u.heap.size a1 2 2 R0 → Calls Tryz.prog 54 #[.agg #[.int .i64 (M : Int), .slice (some ⟨b, off, none⟩) n c], .agg #[.int .i64 f.1, .int .i64 f.2], .slice a1 2 2] u fun e v => ∃ a' m' c' R, e = .returned (.agg #[.int .i64 (M : Int), .slice a' m' c']) ∧ FB v (w.heap.size + 3) v.heap.size a' m' c' R ∧ rts R = srtK (woK ts [i] ts.length ++ [A, B]) M ∧ Below (w.heap.size + 3) W v) := fun u R0 a1 c1 c2 hR0 hu hF => by
              subst hR0
              have hst : woK ts [i] ts.length = stay ts f.1 f.2 := hWo
              have hpm : (rts [(⟨c1.1, c1.2, A⟩ : Rw), (⟨c2.1, c2.2, B⟩ : Rw)] ++ stay ts f.1 f.2).Perm (woK ts [i] ts.length ++ [A, B]) := by
                rw [hst]
                exact List.perm_append_comm (l₁ := [A, B])
              refine (replanted_any (M : Int) ts f.1 f.2 n (some ⟨b, off, none⟩) c (w.heap.size + 3) _ 2 a1 2 hP (by omega) (by omega) (hFQ.perm hpm.symm) u (by have := hu.size; omega) (((HAw2.out.up HGW.out).mono (Nat.le_of_eq hsz)).below hu (Nat.le_refl _)) hF).mono ?_
              rintro e v ⟨a', m', c', R, he, h1, h2, h3, h4⟩
              exact ⟨a', m', c', R, he, h1, ord_is hM1 hM2 hFQ (h2.trans hpm) h3, hu.trans h4⟩
            clear hi hj hu hv hE HJ hP hS hsp hSp hvp hFQ hWo
            go_upto_region 4 with fail
            go_region_held3 (fun u => (((u.cell? ⟨w.heap.size, 0, none⟩ = some (.int .i64 (M : Int)) ∧ u.cell? ⟨w.heap.size, 1, none⟩ = some (.slice (some ⟨b, off, none⟩) n c)) ∧ u.cell? ⟨w.heap.size + 1, 0, none⟩ = some (.int .i64 f.1) ∧ u.cell? ⟨w.heap.size + 1, 1, none⟩ = some (.int .i64 f.2)) ∧ u.cell? ⟨b, off + i, none⟩ = some (.slice x p.length cx)) ∧ Good W u)
              (first | assumption)
              (first | (go_at_call 58; refine (HJ2.out _ (And.right (by assumption))).mono ?_; rintro e w3 ⟨g, cJ, g', cK, rfl, hrw, hgg, G3⟩; have hS3 := HC4.out _ G3))
            all_goals
              obtain ⟨⟨⟨k0, k1⟩, k2, k3⟩, _⟩ := HC.out _ G3
              have B3 : Below (w.heap.size + 3) W (w3.alloc (.cells #[.slice (some ⟨g, 0, none⟩) A.length cJ, .slice (some ⟨g', 0, none⟩) B.length cK] 39)) := by rw [← hsz]; exact G3.alloc _
              have hs3 := G3.size
              have HFb : FB (w3.alloc (.cells #[.slice (some ⟨g, 0, none⟩) A.length cJ, .slice (some ⟨g', 0, none⟩) B.length cK] 39)) (w.heap.size + 3) (w3.alloc (.cells #[.slice (some ⟨g, 0, none⟩) A.length cJ, .slice (some ⟨g', 0, none⟩) B.length cK] 39)).heap.size (some ⟨w3.heap.size, 0, none⟩) 2 2 [⟨g, cJ, A⟩, ⟨g', cK, B⟩] := by
                have h0 := World.ownsRow_lit (base := w.heap.size + 3) (e := 39) (size := 1) w3 #[.slice (some ⟨g, 0, none⟩) A.length cJ, .slice (some ⟨g', 0, none⟩) B.length cK] 2 (by omega) (by unfold maxLen; omega) (by simp)
                have hup : ∀ r, RwB w3 r → RwB (w3.alloc (.cells #[.slice (some ⟨g, 0, none⟩) A.length cJ, .slice (some ⟨g', 0, none⟩) B.length cK] 39)) r := fun r hr => hr.rng (l2 := r.g + 1) (h2 := r.g + 1) (Rng.of_below ((Below.refl _ _).alloc (Nat.le_refl _) _)) (.inl (Nat.le_refl _))
                have hr1 := hup _ hrw.1
                have hr2 := hup _ hrw.2
                refine ⟨rfl, h0, fun x hx => (h0.lt x hx).2, Nat.le_refl _, fun r hr => ?_, ?_⟩
                · simp at hr
                  rcases hr with rfl | rfl
                  · exact ⟨hr1, hgg.1, hr1.lt⟩
                  · exact ⟨hr2, by show w.heap.size + 3 ≤ g'; omega, hr2.lt⟩
                · simp
                  omega
              have HR3 := hideIt (HRep.out _ _ _ (g, cJ) (g', cK) rfl B3 HFb)
              clear HRep HFb hrw B3 HJ2 HT HE HC4 hS2 hS3
              go_wp2_with (go_at_call 54; refine HR3.out.mono ?_; rintro e w4 ⟨a4, m4, c4, R4, rfl, F4, r4, B4⟩; refine Hid.out ?_)
              refine (show ∀ {p : Prop}, p → Hid p from fun h => h) ?_
              obtain ⟨⟨r0, r1⟩, r2, r3⟩ := HO.out _ B4
              have HF5 := hideIt ((F4.setLow (x := w.heap.size + 2) (by omega) 0 (.int .i64 (M : Int))).setLow (x := w.heap.size + 2) (by omega) 1 (.slice a4 m4 c4))
              have HB5 : Hid (Below w.heap.size w ((w4.setCell ⟨w.heap.size + 2, 0, none⟩ (.int .i64 (M : Int))).setCell ⟨w.heap.size + 2, 1, none⟩ (.slice a4 m4 c4))) := ((HGW.out.trans (B4.mono (by omega))).setCell (p := ⟨w.heap.size + 2, 0, none⟩) (by show w.heap.size ≤ w.heap.size + 2; omega) _).setCell (p := ⟨w.heap.size + 2, 1, none⟩) (by show w.heap.size ≤ w.heap.size + 2; omega) _
              have HR4 := hideIt r4
              clear F4 B4 r4 k0 k1 k2 k3
              go_wp2
              exact bodyPost_ret (v := .tuple #[.agg #[.int .i64 (M : Int), .slice a4 m4 c4], .bool true]) (by simp [results, Tryz.results13, go_sem, r0, r1]) rfl ⟨a4, m4, c4, R4, by rw [HL.out]; rfl, (HF5.out.lo (by omega)).hi (by simp [World.setCell]) (by simp [World.setCell]), by rw [HL.out, HR4.out]; rfl, HB5.out⟩
      · have HL := hideIt (cutO_no (N := N) (ts := ts) (e := f) (fun h => hP h.1))
        have e1 := treeO_no hP f.1
        have d1 : decide ((-1 : Int) < 0) = true := by decide
        rw [e1]
        clear hE e1
        go_wp2_with (go_at_call 52; refine HE1.out.mono ?_; rintro e w2 ⟨rfl, G2⟩; refine Hid.out ?_)
        refine (show ∀ {p : Prop}, p → Hid p from fun h => h) ?_
        obtain ⟨⟨r0, r1⟩, r2, r3⟩ := HO.out _ (by rw [← hsz]; exact G2)
        have HN2 := hideIt (HNo.out _ G2 HL.out)
        clear k0 k1 k2 k3
        go_wp2
        exact bodyPost_ret (v := .tuple #[.agg #[.int .i64 0, .slice none 0 0], .bool false]) (by simp [results, Tryz.results13, go_sem, r0, r1]) rfl HN2.out
end Go.Proofs.YtklalfkdikjkfaaGreat
namespace Go.Proofs.YtklalfkdikjkfaaGreat
open Go.RowKit

/-- edges in the making: nothing of wb has turned -/
structure USt (wb : World) (g m c : Nat) (es : List EdgeV) (u : World) : Prop where
  own : u.ownsRow wb.heap.size 28 2 (.slice (some ⟨g, 0, none⟩) m c) m (ecells es)
  bel : Below wb.heap.size wb u
theorem USt.size {wb : World} {g m c : Nat} {es : List EdgeV} {u : World} (h : USt wb g m c es u) : wb.heap.size ≤ u.heap.size := h.bel.size
theorem USt.len {wb : World} {g m c : Nat} {es : List EdgeV} {u : World} (h : USt wb g m c es u) : es.length = m := by have := h.own.1; rw [ecells_length] at this; omega
theorem USt.up {wb : World} {g m c : Nat} {es : List EdgeV} {u v : World} (h : USt wb g m c es u) (hb : Below u.heap.size u v) : USt wb g m c es v := ⟨own_up h.own hb, h.bel.trans (hb.mono h.size)⟩
theorem USt.start (wb : World) : USt wb wb.heap.size 0 0 [] (wb.alloc (.cells #[] 28)) := by
  refine ⟨?_, (Below.refl _ _).alloc (Nat.le_refl _) _⟩
  have h0 := World.ownsRow_lit (base := wb.heap.size) (e := 28) (size := 2) wb #[] 0 (Nat.le_refl _) (by unfold maxLen; omega) (by simp)
  simpa [ecells] using h0
theorem ecells_app (a b : List EdgeV) : ecells (a ++ b) = ecells a ++ ecells b := by simp [ecells]

set_option maxRecDepth 100000 in
set_option maxHeartbeats 4000000 in
theorem stepsUp_any (t : List Int) (hB : tB t = true) (a : Option Addr) (c : Nat) (w : World) (h : Is w w.heap.size a t.length t) :
    Calls Tryz.prog 60 #[.slice a t.length c] w fun e w' => ∃ g m c', e = .returned (.slice (some ⟨g, 0, none⟩) m c') ∧ USt w g m c' (up t) w' := by
  obtain ⟨i0, hi, hz0, hz1, hz2⟩ := info_parts infoIE
  have hl := tB_len hB
  rcases h.2 with h0 | ⟨b, off, rfl, hbl, hc⟩
  · omega
  · have HC := hideIt hc
    have S0 := USt.start w
    have x1 : (1 : Int) ≤ (t.length : Int) := by omega
    clear h hc hB
    go_enter Tryz.func60, Tryz.ntmps60
    go_wp2
    go_loopw [3, 9] (fun r i wr => ∃ (k g m c1 : Nat), k + 1 ≤ t.length ∧ m ≤ k ∧ i = .int .i64 (k : Int) ∧ r = .slice (some ⟨g, 0, none⟩) m c1 ∧ USt w g m c1 (upK t k) wr) (fun _ i _ => t.length - (intOf i).toNat)
    case atStart => exact ⟨0, _, 0, 0, by omega, by omega, rfl, rfl, S0⟩
    case round =>
      obtain ⟨k, g, m, c1, hk, hm, rfl, rfl, hst⟩ := hrel
      clear S0
      by_cases hlt : k + 1 < t.length
      · have h1 : t[k]? = some t[k] := List.getElem?_eq_getElem (by omega)
        have h2 : t[k + 1]? = some t[k + 1] := List.getElem?_eq_getElem (by omega)
        obtain ⟨p, hp⟩ : ∃ p, t[k] = p := ⟨_, rfl⟩
        obtain ⟨q, hq⟩ : ∃ q, t[k + 1] = q := ⟨_, rfl⟩
        rw [hp] at h1
        rw [hq] at h2
        have e0 : wr.cell? ⟨b, off + k, none⟩ = some (.int .i64 p) := by rw [hst.bel.cell hbl]; exact HC.out k p h1
        have e1 : wr.cell? ⟨b, off + (k + 1), none⟩ = some (.int .i64 q) := by rw [hst.bel.cell hbl]; exact HC.out (k + 1) q h2
        have b1 : (0 : Int) ≤ (k : Int) := by omega
        have b2 : (k : Int) < (t.length : Int) := by omega
        have b3 : (0 : Int) ≤ (k : Int) + 1 := by omega
        have b4 : (k : Int) + 1 < (t.length : Int) := by omega
        have b5 : ((k : Int) + 1).toNat = k + 1 := by omega
        have b6 : decide ((k : Int) < (t.length : Int) - 1) = true := decide_eq_true (by omega)
        have hw1 : IntKind.i64.wrap ((k : Int) + 1) = (k : Int) + 1 := by rw [IntKind.wrap_i64]; omega
        have hsz := hst.size
        have hmt : m ≤ 23 := by omega
        by_cases hpq : p < q
        · have d1 : decide (p < q) = true := decide_eq_true hpq
          have HU := hideIt (upK_yes h1 h2 hpq)
          have HST := hideIt hst
          have HA : Hid (∀ G cap u', u'.ownsRow w.heap.size 28 2 (.slice (some ⟨G, 0, none⟩) (m + 1) cap) (m + 1) (ecells (upK t k) ++ [.int .i64 p, .int .i64 q]) → (wr.alloc (.cells #[.int .i64 p, .int .i64 q] 28)).grownBy u' (some g) → USt w G (m + 1) cap (upK t (k + 1)) u') := fun G cap u' ho hg => by
            rw [HU.out]
            refine ⟨by rw [ecells_snoc]; exact ho, ?_⟩
            exact (HST.out.bel.alloc hsz _).grown hg (by simp; omega) (fun j hj => by cases hj; exact (HST.out.own.lt g rfl).1)
          clear hst h1 h2 hp hq
          go_wp2
          go_quiet (fail)
          go_wp2
          go_region_law (refine step_append_lies _ (by rfl) _ _ _ (by rfl) w.heap.size 28 i0 _ 2 16 Tryz.underlying35 hi hz0 hz1 hz2 rfl (by omega) _ m _ (by rfl) (((HST.out.up (below_drewN (Below.refl _ _) _)).own.alloc _).drew) ⟨wr.heap.size, 0, none⟩ 1 1 [.int .i64 p, .int .i64 q] (by rfl) (by rfl) (World.news_of_block (cs := #[.int .i64 p, .int .i64 q]) (t := 28) (fr := (0, 0)) (heap_alloc_new wr _)) (by simp [Value.oneCell']) (by omega) (by unfold maxLen; omega) (by omega) (by simp; omega) (wr.heap.size + 1) (by simp) ?_; intro g1 cap1 w1 hown1 hg1 hat1 hlt1; have S1 := HA.out g1 cap1 w1 hown1 ⟨hg1.os, hg1.tape, hg1.output, hg1.size, hg1.block⟩)
          all_goals
            clear hown1 hg1
            go_wp2
            exact ⟨⟨k + 1, g1, m + 1, cap1, by omega, by omega, by go_num, rfl, S1⟩, by simp [intOf]; omega⟩
        · have d1 : decide (p < q) = false := decide_eq_false hpq
          have HU := hideIt (upK_no h1 h2 hpq)
          have HST := hideIt hst
          clear hst h1 h2 hp hq
          go_wp2
          go_quiet (fail)
          go_wp2
          exact ⟨⟨k + 1, g, m, c1, by omega, by omega, by go_num, rfl, by rw [HU.out]; exact HST.out.up (below_drewN (Below.refl _ _) _)⟩, by simp [intOf]; omega⟩
      · have b6 : decide ((k : Int) < (t.length : Int) - 1) = false := decide_eq_false (by omega)
        have HST := hideIt hst
        have HU : Hid (upK t k = up t) := by show _ = _; unfold up; rw [show t.length - 1 = k by omega]
        clear hst
        go_wp2
        go_ret
        exact ⟨g, m, c1, rfl, by rw [← HU.out]; exact HST.out⟩
set_option maxRecDepth 100000 in
set_option maxHeartbeats 2000000 in
theorem iEdgesOf_any (N : Int) (ts : List (List Int)) (n : Nat) (a : Option Addr) (c : Nat) (hn : n + lnS ts ≤ 1048576) (w : World) (h : Ts w w.heap.size a n ts) :
    Calls Tryz.prog 15 #[.agg #[.int .i64 N, .slice a n c]] w fun e w' => ∃ a' m' c', e = .returned (.slice a' m' c') ∧ w'.ownsRow w.heap.size 28 2 (.slice a' m' c') m' (ecells (edgesO N ts)) ∧ Below w.heap.size w w' := by
  obtain ⟨i0, hi, hz0, hz1, hz2⟩ := info_parts infoIE
  have b0 : Good w (w.alloc (.cells #[.int .i64 N, .slice a n c] 26)) := (Good.refl w).alloc _
  have HF := iForestOk_any N ts n a c hn _ (h.up b0)
  have HB0 := hideIt b0
  have hlen := h.1
  by_cases hP : FP N ts
  · have HF2 := hideIt (HF.mono fun e u ⟨b, he, hb, hbl⟩ => (show e = Ending.returned (.bool true) ∧ Good (w.alloc (.cells #[.int .i64 N, .slice a n c] 26)) u from ⟨by rw [he, hb.2 hP], hbl⟩))
    have HA := hideIt (h.up b0)
    have HV := hideIt (edgesO_yes hP)
    have hn12 : n ≤ 12 := by have := hP.2.2.1; omega
    have HBt : Hid (∀ t ∈ ts, tB t = true) := fun t ht => (hP.q.1 t ht).1
    clear h b0 HF hP
    go_enter Tryz.func15, Tryz.ntmps15
    go_wp2_with (go_at_call 12; refine HF2.out.mono ?_; rintro e w1 ⟨rfl, hg1⟩; refine Hid.out ?_)
    refine (show ∀ {p : Prop}, p → Hid p from fun h => h) ?_
    have cB : Hid (∀ u, Below w1.heap.size w1 u → u.cell? ⟨w.heap.size, 1, none⟩ = some (.slice a n c)) := fun u hu => by rw [(hg1.up hu).cell (by simp)]; simp
    have c0 := cB.out _ ((Below.refl _ w1).alloc (Nat.le_refl _) (.cells #[] 28))
    have S0 := USt.start w1
    have HG1 := hideIt hg1
    clear HF2 hg1
    go_wp2
    go_loopw [3, 12] (fun r i wr => ∃ (k g m c1 : Nat), k ≤ n ∧ m ≤ 23 * k ∧ i = .int .i64 (k : Int) ∧ r = .slice (some ⟨g, 0, none⟩) m c1 ∧ USt w1 g m c1 (allU (ts.take k)) wr) (fun _ i _ => n - (intOf i).toNat)
    case atStart => exact ⟨0, _, 0, 0, by omega, by omega, rfl, rfl, by rw [List.take_zero]; exact S0⟩
    case round =>
      obtain ⟨k, g, m, c1, hk, hm, rfl, rfl, hst⟩ := hrel
      clear S0 c0
      have c0 := cB.out _ hst.bel
      by_cases hlt : k < n
      · obtain ⟨t, ht⟩ : ∃ t, ts[k]? = some t := ⟨ts[k]'(by omega), List.getElem?_eq_getElem (by omega)⟩
        rcases ((HA.out.up HG1.out).up hst.bel).2 with hz | ⟨b, off, rfl, hbl, hc⟩
        · omega
        · obtain ⟨x, cx, e0, iI, _⟩ := hc k t ht
          have hBt := HBt.out t (List.mem_of_getElem? ht)
          have hl := tB_len hBt
          have b1 : (0 : Int) ≤ (k : Int) := by omega
          have b2 : (k : Int) < (n : Int) := by omega
          have HS := hideIt (stepsUp_any t hBt x cx wr iI)
          have HST := hideIt hst
          have HT2 : Hid (allU (ts.take k) ++ up t = allU (ts.take (k + 1))) := by show _ = _; rw [take_snocF ts k t ht, allU_snoc]
          have HLen : Hid ((up t).length ≤ 23) := by
            have h1 := (up_perm hBt).length_eq
            have h2 := tE_count hBt
            show (up t).length ≤ 23
            omega
          clear hc ht iI hst hBt
          go_wp2_with (go_at_call 60; refine HS.out.mono ?_; rintro e w2 ⟨g2, m2, c2, rfl, hu2⟩; refine Hid.out ?_)
          refine (show ∀ {p : Prop}, p → Hid p from fun h => h) ?_
          have hm2 := hu2.len
          have hl2 : m2 ≤ 23 := by have := HLen.out; omega
          have HST2 := hideIt (HST.out.up hu2.bel)
          have hsz := HST2.out.size
          have HNews : Hid (∀ j u, (ecells (up t))[j]? = some u → w2.cell? ((⟨g2, 0, none⟩ : Addr).add j) = some u) := fun j u hj => by
            have hj2 := (List.getElem?_eq_some_iff.1 hj).1
            rw [ecells_length] at hj2
            rw [show ((⟨g2, 0, none⟩ : Addr).add j) = ⟨g2, j, none⟩ by by_cases h0 : j = 0 <;> simp [Addr.add, h0], hu2.own.cellAt j (by omega)]
            exact hj
          have HL := hideIt (show (ecells (up t)).length = m2 * 2 by rw [ecells_length]; omega)
          have HOne : Hid (∀ u ∈ ecells (up t), u.oneCell' = true) := fun u hu => by
            simp only [ecells, List.mem_flatMap, ecell, List.mem_cons, List.not_mem_nil, or_false] at hu
            obtain ⟨f, _, rfl | rfl⟩ := hu <;> rfl
          clear HST hu2 HS hm2
          go_wp2_with (at_builtin; refine wpList_append_own _ rfl _ _ 35 rfl w1.heap.size 28 i0 _ 2 16 Tryz.underlying35 hi hz0 hz1 hz2 rfl (by decide) _ _ _ rfl HST2.out.own ⟨g2, 0, none⟩ m2 c2 (ecells (up t)) rfl HL.out HNews.out HOne.out (by unfold maxLen; omega) (by omega) (by omega) ?_)
          intro v5 w5 hown5 hg5 hnil
          obtain ⟨g5, c5, rfl⟩ : ∃ g5 c5, v5 = .slice (some ⟨g5, 0, none⟩) (m + m2) c5 := by
            rcases hown5.2 with ⟨h0, _⟩ | ⟨g5, cap5, _, hv5, _⟩
            · exact absurd h0 hnil
            · exact ⟨g5, cap5, hv5⟩
          have S5 : USt w1 g5 (m + m2) c5 (allU (ts.take (k + 1))) w5 := by
            rw [← HT2.out]
            exact ⟨by rw [ecells_app]; exact hown5, HST2.out.bel.grown hg5 HST2.out.size (fun j hj => (HST2.out.own.lt j hj).1)⟩
          clear hown5 hg5 HST2 HNews hnil
          go_wp2
          exact ⟨⟨k + 1, g5, m + m2, c5, by omega, by omega, by go_num, rfl, S5⟩, by simp [intOf]; omega⟩
      · obtain rfl : k = n := by omega
        rw [List.take_of_length_le (by omega)] at hst
        have HSo := hideIt (sortFE_any (allU ts) m _ w1.heap.size (by omega) wr hst.own)
        have HST := hideIt hst
        clear hst
        go_wp2_with (go_at_call 61; refine HSo.out.mono ?_; rintro e w2 ⟨rfl, ho2, hb2⟩)
        go_ret
        exact ⟨_, m, c1, rfl, by rw [HV.out]; exact own_mono ho2 (by have := HG1.out.size; simp at this; omega), HB0.out.up (HG1.out.up (HST.out.bel.trans (hb2 HST.out.size)))⟩
  · have HF2 := hideIt (HF.mono fun e u ⟨b, he, hb, hbl⟩ => (show e = Ending.returned (.bool false) ∧ Good (w.alloc (.cells #[.int .i64 N, .slice a n c] 26)) u from ⟨by
      have : b = false := by
        cases b with
        | false => rfl
        | true => exact absurd (hb.1 rfl) hP
      rw [he, this], hbl⟩))
    have HV := hideIt (edgesO_no hP)
    clear h b0 HF hP
    go_enter Tryz.func15, Tryz.ntmps15
    go_wp2_with (go_at_call 12; refine HF2.out.mono ?_; rintro e w1 ⟨rfl, hg1⟩)
    go_ret
    exact ⟨none, 0, 0, rfl, by rw [HV.out]; exact World.ownsRow_nil _ _ _ _, HB0.out.up hg1⟩
end Go.Proofs.YtklalfkdikjkfaaGreat
namespace Go.Proofs.YtklalfkdikjkfaaGreat
open Go.RowKit

theorem fans_some {N : Nat} {o : Option (List (List Int))} {g : List (List Int)} (ho : o = some g) {u v : World} {x : Ending} (h : FAns u (N : Int) o x v) : ∃ ag cg, x = .returned (.tuple #[.agg #[.int .i64 (N : Int), .slice ag g.length cg], .bool true]) ∧ Ts v v.heap.size ag g.length g ∧ Below u.heap.size u v := by
  subst ho
  obtain ⟨a, m, c, R, hx, hF, hr, hb⟩ := h
  have hr : rts R = g := hr
  have hm : m = g.length := by rw [← hr, rts_len, hF.len]
  subst hm
  have ht := hF.ts
  rw [hr] at ht
  exact ⟨a, c, hx, ht, hb⟩
theorem fans_none {N : Nat} {o : Option (List (List Int))} (ho : o = none) {u v : World} {x : Ending} (h : FAns u (N : Int) o x v) : ∃ ag cg, x = .returned (.tuple #[.agg #[.int .i64 0, .slice ag 0 cg], .bool false]) ∧ Below u.heap.size u v := by
  subst ho
  obtain ⟨a, m, c, R, hx, hF, hr, hb⟩ := h
  have hr : rts R = [] := hr
  have hm : m = 0 := by rw [← hF.len, ← rts_len, hr]; rfl
  subst hm
  exact ⟨a, c, hx, hb⟩
theorem tree_at {N : Nat} {ts : List (List Int)} (hP : FP (N : Int) ts) {e : EdgeV} (hE : eB (N : Int) e = true) : ∃ (i j : Nat) (s1 s2 : Nat), treeO (N : Int) ts e.1 = (i : Int) ∧ treeO (N : Int) ts e.2 = (j : Int) ∧ trI ts e.1 = (i : Int) ∧ trI ts e.2 = (j : Int) ∧ sizeO (N : Int) ts e.1 = (s1 : Int) ∧ sizeO (N : Int) ts e.2 = (s2 : Int) ∧ s1 ≤ 12 ∧ s2 ≤ 12 := by
  obtain ⟨i, j, a, b, hi, hj, hu, hv⟩ := edge_at hP hE
  have t1 := trI_of hP.q hi hu
  have t2 := trI_of hP.q hj hv
  have r1 : treeO (N : Int) ts e.1 = (i : Int) := by rw [treeO_yes hP, t1]
  have r2 : treeO (N : Int) ts e.2 = (j : Int) := by rw [treeO_yes hP, t2]
  exact ⟨i, j, (vsL a).length, (vsL b).length, r1, r2, t1, t2, sizeO_yes r1 hi, sizeO_yes r2 hj, vsL_len a, vsL_len b⟩
theorem Is.upG {u v : World} {a : Option Addr} {n : Nat} {ls : List Int} (h : Hid (Is u u.heap.size a n ls)) (hb : Good u v) : Hid (Is v v.heap.size a n ls) := h.out.up hb
set_option maxRecDepth 100000 in
set_option maxHeartbeats 16000000 in
theorem fnForests.walk (a : Option Addr) (len cap : Nat) (w : World) (hcode : Code w w.heap.size a len) :
    Calls Tryz.prog 3 #[.slice a len cap] w fun e w' => e = .returned (.bool true) ∧ Below w.heap.size w w' := by
  have HBg := hideIt (big7_any w a len cap)
  by_cases hl : len ≤ 1048576
  · have d0 : decide ((1048576 : Int) < (len : Int)) = false := decide_eq_false (by omega)
    have HD := hideIt (drawRightForest_any w a len cap hl hcode)
    rw [d0] at HBg
    clear hcode
    go_enter Tryz.func3, Tryz.ntmps3
    go_wp2_with (first | (go_at_call 8; refine HBg.out.mono ?_; rintro e w1 ⟨rfl, hw⟩; have hw' := hw.symm; subst hw'; clear hw) | (go_at_call 9; refine HD.out.mono ?_; rintro x w2 ⟨nn, a', m, c', ts, e, hn2, hn12, hP, hE, rfl, HT, G2⟩; refine Hid.out ?_))
    refine (show ∀ {p : Prop}, p → Hid p from fun h => h) ?_
    have G2 : Good w w2 := G2
    clear HD HBg
    obtain ⟨W4, bF, bE, e1, e2, e3⟩ : ∃ W4 bF bE, W4 = (w2.alloc (.cells #[.int .i64 (nn : Int), .slice a' m c'] 26)).alloc (.cells #[.int .i64 e.1, .int .i64 e.2] 28) ∧ bF = w2.heap.size ∧ bE = w2.heap.size + 1 := ⟨_, _, _, rfl, rfl, rfl⟩
    have g24 : Good w2 W4 := by rw [e1]; exact ((Good.refl w2).alloc _).alloc _
    have FX : Box7 W4 bF 26 (.int .i64 (nn : Int)) (.slice a' m c') := by rw [e1, e2]; exact (Box7.new w2 _ _ _ _ rfl).alloc _
    have EX : Box7 W4 bE 28 (.int .i64 e.1) (.int .i64 e.2) := by rw [e1, e3]; exact Box7.new _ _ _ _ _ (by simp)
    have HTs := hideIt (HT.out.up g24)
    have G4 := hideIt (G2.up g24)
    go_upto_region 4 with fail
    rw [← e1, ← e3, ← e2]
    clear e1 e2 e3 HT G2 g24
    obtain ⟨i, j, s1, s2, r1, r2, t1, t2, z1, z2, hs1, hs2⟩ := tree_at hP.out hE.out
    have hbnd : m + lnS ts ≤ 1048576 := by have := FP_small hP.out; have := HTs.out.1; omega
    have HT1 : Hid (∀ u, Good W4 u → Calls Tryz.prog 10 #[.agg #[.int .i64 (nn : Int), .slice a' m c'], .int .i64 e.1] u fun x v => x = .returned (.int .i64 (i : Int)) ∧ Good W4 v) := fun u hu => (iTreeOf_any _ ts e.1 m a' c' hbnd u (HTs.out.up hu)).mono fun _ _ ⟨hx, hb⟩ => ⟨by rw [hx, r1], hu.up hb⟩
    have HT2 : Hid (∀ u, Good W4 u → Calls Tryz.prog 10 #[.agg #[.int .i64 (nn : Int), .slice a' m c'], .int .i64 e.2] u fun x v => x = .returned (.int .i64 (j : Int)) ∧ Good W4 v) := fun u hu => (iTreeOf_any _ ts e.2 m a' c' hbnd u (HTs.out.up hu)).mono fun _ _ ⟨hx, hb⟩ => ⟨by rw [hx, r2], hu.up hb⟩
    have HOk : Hid (∀ u, Good W4 u → Calls Tryz.prog 12 #[.agg #[.int .i64 (nn : Int), .slice a' m c']] u fun x v => x = .returned (.bool true) ∧ Good W4 v) := fun u hu => (iForestOk_any _ ts m a' c' hbnd u (HTs.out.up hu)).mono fun _ _ ⟨b, hx, hbb, hb⟩ => ⟨by rw [hx, hbb.2 hP.out], hu.up hb⟩
    have HS1 : Hid (∀ u, Good W4 u → Calls Tryz.prog 14 #[.agg #[.int .i64 (nn : Int), .slice a' m c'], .int .i64 e.1] u fun x v => x = .returned (.int .i64 (s1 : Int)) ∧ Good W4 v) := fun u hu => (iSizeOf_any _ ts e.1 m a' c' hbnd u (HTs.out.up hu)).mono fun _ _ ⟨hx, hb⟩ => ⟨by rw [hx, z1], hu.up hb⟩
    have HS2 : Hid (∀ u, Good W4 u → Calls Tryz.prog 14 #[.agg #[.int .i64 (nn : Int), .slice a' m c'], .int .i64 e.2] u fun x v => x = .returned (.int .i64 (s2 : Int)) ∧ Good W4 v) := fun u hu => (iSizeOf_any _ ts e.2 m a' c' hbnd u (HTs.out.up hu)).mono fun _ _ ⟨hx, hb⟩ => ⟨by rw [hx, z2], hu.up hb⟩
    have di : decide ((i : Int) < 0) = false := decide_eq_false (by omega)
    have dj : decide ((j : Int) < 0) = false := decide_eq_false (by omega)
    have X1 := hideIt (HT1.out W4 (Good.refl W4))
    have qF0 := FX.cell0
    have qF1 := FX.cell1
    have qE0 := EX.cell0
    have qE1 := EX.cell1
    have HZ := hideIt (And.intro z1 z2)
    have HR := hideIt (And.intro t1 t2)
    clear r1 r2 t1 t2 z1 z2 HT1
    go_wp2_with (go_at_call 10; refine X1.out.mono ?_; rintro x w5 ⟨rfl, g5⟩; refine Hid.out ?_)
    refine (show ∀ {p : Prop}, p → Hid p from fun h => h) ?_
    have X2 := hideIt (HT2.out w5 g5)
    clear X1 HT2 qF0 qF1 qE0 qE1
    have qF0 := (FX.up g5).cell0
    have qF1 := (FX.up g5).cell1
    have qE0 := (EX.up g5).cell0
    have qE1 := (EX.up g5).cell1
    clear g5
    go_wp2_with (go_at_call 10; refine X2.out.mono ?_; rintro x w6 ⟨rfl, g6⟩; refine Hid.out ?_)
    refine (show ∀ {p : Prop}, p → Hid p from fun h => h) ?_
    clear X2 qF0 qF1 qE0 qE1
    have qF0 := (FX.up g6).cell0
    have qF1 := (FX.up g6).cell1
    have qE0 := (EX.up g6).cell0
    have qE1 := (EX.up g6).cell1
    by_cases hij : i = j
    · have X3 := hideIt ((iLink_any (nn : Int) ts e m a' c' hbnd w6 (HTs.out.up g6)).mono fun _ _ h => fans_none (linkO_no (fun hc => hc.2.2 (by rw [HR.out.1, HR.out.2, hij]))) h)
      have hij' := hij.symm
      subst hij'
      clear hij HR HZ
      have dn : ((j : Int) != (j : Int)) = false := by simp
      have HG6 := hideIt g6
      clear g6
      go_wp2_with (go_at_call 11; refine X3.out.mono ?_; rintro x w7 ⟨ag, cg, rfl, g7⟩; refine Hid.out ?_)
      refine (show ∀ {p : Prop}, p → Hid p from fun h => h) ?_
      obtain ⟨W7, bG, e1, e2⟩ : ∃ W7 bG, W7 = w7.alloc (.cells #[.int .i64 0, .slice ag 0 cg] 26) ∧ bG = w7.heap.size := ⟨_, _, rfl, rfl⟩
      have G7 : Good W4 W7 := by rw [e1]; exact (HG6.out.up g7).alloc _
      have GX : Box7 W7 bG 26 (.int .i64 0) (.slice ag 0 cg) := by rw [e1, e2]; exact Box7.new _ _ _ _ _ rfl
      clear X3 qF0 qF1 qE0 qE1 g7 HG6
      go_upto_region 7 with fail
      rw [← e1, ← e2]
      clear e1 e2
      have qF0 := (FX.up G7).cell0
      have qF1 := (FX.up G7).cell1
      have X4 := hideIt ((HOk.out W7 G7).mono fun _ v ⟨hx, _⟩ => hx)
      have X5 : Hid (Calls Tryz.prog 12 #[.agg #[.int .i64 (nn : Int), .slice a' m c']] W7 fun x v => x = .returned (.bool true) ∧ Good W7 v) := (iForestOk_any _ ts m a' c' hbnd W7 (HTs.out.up G7)).mono fun _ _ ⟨b, hx, hbb, hb⟩ => ⟨by rw [hx, hbb.2 hP.out], hb⟩
      have HGG := hideIt (G4.out.up G7)
      clear X4 G7 HOk HS1 HS2
      go_wp2_with (go_at_call 12; refine X5.out.mono ?_; rintro x w8 ⟨rfl, g8⟩; refine Hid.out ?_)
      refine (show ∀ {p : Prop}, p → Hid p from fun h => h) ?_
      have qG1 := (GX.up g8).cell1
      have HG8 := hideIt (HGG.out.up g8)
      clear X5 g8 qF0 qF1
      go_wp2
      go_ret
      exact ⟨by simp, HG8.out⟩
    · obtain ⟨g, h, L⟩ := law8 hP.out hE.out (by rw [HR.out.1, HR.out.2]; omega)
      have HL := hideIt L
      obtain ⟨mg, hmg⟩ : ∃ mg, mg = g.length := ⟨_, rfl⟩
      obtain ⟨mh, hmh⟩ : ∃ mh, mh = h.length := ⟨_, rfl⟩
      have X3 : Hid (Calls Tryz.prog 11 #[.agg #[.int .i64 (nn : Int), .slice a' m c'], .agg #[.int .i64 e.1, .int .i64 e.2]] w6 fun x v => ∃ ag cg, x = .returned (.tuple #[.agg #[.int .i64 (nn : Int), .slice ag mg cg], .bool true]) ∧ Hid (Ts v v.heap.size ag mg g) ∧ Good W4 v) := by
        rw [hmg]
        exact (iLink_any (nn : Int) ts e m a' c' hbnd w6 (HTs.out.up g6)).mono fun _ _ h => by
          obtain ⟨ag, cg, q1, q2, q3⟩ := fans_some L.link h
          exact ⟨ag, cg, q1, q2, g6.up q3⟩
      have hbg : mg + lnS g ≤ 1048576 := by have := FP_small L.gok; omega
      have hbh : mh + lnS h ≤ 1048576 := by have := FP_small L.hok; omega
      have hmm : m = mg + 1 := by have := HTs.out.1; have := L.len; omega
      have hw1 : IntKind.i64.wrap ((m : Int) - 1) = (mg : Int) := by rw [IntKind.wrap_i64]; omega
      have hm12 : m ≤ 12 := by have := hP.out.2.2.1; have := HTs.out.1; omega
      have dn : ((i : Int) != (j : Int)) = true := by simp; omega
      have HMG := hideIt hmg
      have HMH := hideIt hmh
      have HMM := hideIt hmm
      have hW1 := hideIt hw1
      clear hij HR hmg hmh hmm hw1 L g6
      go_wp2_with (go_at_call 11; refine X3.out.mono ?_; rintro x w7 ⟨ag, cg, rfl, HTg0, g7⟩; refine Hid.out ?_)
      refine (show ∀ {p : Prop}, p → Hid p from fun h => h) ?_
      obtain ⟨W7, bG, e1, e2⟩ : ∃ W7 bG, W7 = w7.alloc (.cells #[.int .i64 (nn : Int), .slice ag mg cg] 26) ∧ bG = w7.heap.size := ⟨_, _, rfl, rfl⟩
      have G7 : Good W4 W7 := by rw [e1]; exact g7.alloc _
      have GX : Box7 W7 bG 26 (.int .i64 (nn : Int)) (.slice ag mg cg) := by rw [e1, e2]; exact Box7.new _ _ _ _ _ rfl
      have HTg := hideIt (HTg0.out.up (show Below w7.heap.size w7 W7 by rw [e1]; exact (Good.refl w7).alloc _))
      clear X3 qF0 qF1 qE0 qE1 g7 HTg0
      go_upto_region 7 with fail
      rw [← e1, ← e2]
      clear e1 e2
      have qF0 := (FX.up G7).cell0
      have qF1 := (FX.up G7).cell1
      have X5 : Hid (Calls Tryz.prog 12 #[.agg #[.int .i64 (nn : Int), .slice a' m c']] W7 fun x v => x = .returned (.bool true) ∧ Good W7 v) := (iForestOk_any _ ts m a' c' hbnd W7 (HTs.out.up G7)).mono fun _ _ ⟨b, hx, hbb, hb⟩ => ⟨by rw [hx, hbb.2 hP.out], hb⟩
      go_wp2_with (go_at_call 12; refine X5.out.mono ?_; rintro x w8 ⟨rfl, g8⟩; refine Hid.out ?_)
      refine (show ∀ {p : Prop}, p → Hid p from fun h => h) ?_
      clear X5 qF0 qF1
      have qG0 := (GX.up g8).cell0
      have qG1 := (GX.up g8).cell1
      have qE0 := (EX.up (G7.up g8)).cell0
      have qE1 := (EX.up (G7.up g8)).cell1
      have X6 : Hid (Calls Tryz.prog 13 #[.agg #[.int .i64 (nn : Int), .slice ag mg cg], .agg #[.int .i64 e.1, .int .i64 e.2]] w8 fun x v => ∃ ah ch, x = .returned (.tuple #[.agg #[.int .i64 (nn : Int), .slice ah mh ch], .bool true]) ∧ Hid (Ts v v.heap.size ah mh h) ∧ Good W7 v) := by
        rw [HMH.out]
        exact (iCut_any (nn : Int) g e mg ag cg hbg w8 (HTg.out.up g8)).mono fun _ _ h => by
          obtain ⟨ah, ch, q1, q2, q3⟩ := fans_some HL.out.cut h
          exact ⟨ah, ch, q1, q2, g8.up q3⟩
      go_wp2_with (go_at_call 13; refine X6.out.mono ?_; rintro x w9 ⟨ah, ch, rfl, HTh0, g9⟩; refine Hid.out ?_)
      refine (show ∀ {p : Prop}, p → Hid p from fun h => h) ?_
      obtain ⟨W9, bH, e1, e2⟩ : ∃ W9 bH, W9 = w9.alloc (.cells #[.int .i64 (nn : Int), .slice ah mh ch] 26) ∧ bH = w9.heap.size := ⟨_, _, rfl, rfl⟩
      have G9 : Good W7 W9 := by rw [e1]; exact g9.alloc _
      have HX8 : Box7 W9 bH 26 (.int .i64 (nn : Int)) (.slice ah mh ch) := by rw [e1, e2]; exact Box7.new _ _ _ _ _ rfl
      have HTh := hideIt (HTh0.out.up (show Below w9.heap.size w9 W9 by rw [e1]; exact (Good.refl w9).alloc _))
      clear X6 qG0 qG1 qE0 qE1 g8 g9 HTh0
      go_upto_region 12 with fail
      rw [← e1, ← e2]
      clear e1 e2
      have hws : IntKind.i64.wrap ((s1 : Int) + (s2 : Int)) = (s1 : Int) + (s2 : Int) := by rw [IntKind.wrap_i64]; omega
      have HC9 : Hid (∀ u, Good W9 u → ((u.cell? ⟨bF, 0, none⟩ = some (.int .i64 (nn : Int)) ∧ u.cell? ⟨bF, 1, none⟩ = some (.slice a' m c')) ∧ u.cell? ⟨bE, 0, none⟩ = some (.int .i64 e.1) ∧ u.cell? ⟨bE, 1, none⟩ = some (.int .i64 e.2)) ∧ Good W9 u) := fun u hu => ⟨⟨⟨(FX.up (G7.up (G9.up hu))).cell0, (FX.up (G7.up (G9.up hu))).cell1⟩, (EX.up (G7.up (G9.up hu))).cell0, (EX.up (G7.up (G9.up hu))).cell1⟩, hu⟩
      have hS0 := HC9.out _ (Good.refl W9).drew
      have HSa : Hid (∀ u, Good W9 u → Calls Tryz.prog 14 #[.agg #[.int .i64 (nn : Int), .slice a' m c'], .int .i64 e.1] u fun x v => x = .returned (.int .i64 (s1 : Int)) ∧ Good W9 v) := fun u hu => (iSizeOf_any _ ts e.1 m a' c' hbnd u (HTs.out.up (G7.up (G9.up hu)))).mono fun _ _ ⟨hx, hb⟩ => ⟨by rw [hx, HZ.out.1], hu.up hb⟩
      have HSb : Hid (∀ u, Good W9 u → Calls Tryz.prog 14 #[.agg #[.int .i64 (nn : Int), .slice a' m c'], .int .i64 e.2] u fun x v => x = .returned (.int .i64 (s2 : Int)) ∧ Good W9 v) := fun u hu => (iSizeOf_any _ ts e.2 m a' c' hbnd u (HTs.out.up (G7.up (G9.up hu)))).mono fun _ _ ⟨hx, hb⟩ => ⟨by rw [hx, HZ.out.2], hu.up hb⟩
      go_cut [11] (fun p wx => ∃ sg : Int, p = .int .i64 sg ∧ Hid (sg = (s1 : Int) + (s2 : Int)) ∧ Good W9 wx)
      case first =>
        go_region_held3 (fun u => ((u.cell? ⟨bF, 0, none⟩ = some (.int .i64 (nn : Int)) ∧ u.cell? ⟨bF, 1, none⟩ = some (.slice a' m c')) ∧ u.cell? ⟨bE, 0, none⟩ = some (.int .i64 e.1) ∧ u.cell? ⟨bE, 1, none⟩ = some (.int .i64 e.2)) ∧ Good W9 u)
          (first | assumption)
          (first
            | (go_at_call 14; refine (HSa.out _ (And.right (by assumption))).mono ?_; clear HSa; rintro x w10 ⟨rfl, g10⟩; have hS10 := HC9.out _ g10)
            | (go_at_call 14; refine (HSb.out _ (And.right (by assumption))).mono ?_; clear HSb; rintro x w11 ⟨rfl, g11⟩; have hS11 := HC9.out _ g11))
        all_goals
          go_wp2_with fail
          go_meet
          first
            | exact ⟨_, rfl, rfl, g11⟩
            | exact ⟨_, rfl, rfl, g10⟩
      case rest =>
        obtain ⟨sg, rfl, HSG, g12⟩ := hcut
        clear hS0 HC9 HSa HSb HS1 HS2 HOk hws
        obtain ⟨eg, heg⟩ : ∃ eg, eg = (edgesO (nn : Int) g).length := ⟨_, rfl⟩
        obtain ⟨ef, hef⟩ : ∃ ef, ef = (edgesO (nn : Int) ts).length := ⟨_, rfl⟩
        have hge : eg = ef + 1 := by rw [heg, hef]; exact HL.out.more
        have hef3 : ef ≤ 1000 := by rw [hef]; exact edges_few hP.out
        have HGE := hideIt hge
        clear hge
        have HEG := hideIt heg
        have HEF := hideIt hef
        clear heg hef
        have qG0 := (GX.up (G9.up g12)).cell0
        have qG1 := (GX.up (G9.up g12)).cell1
        have X7u : Hid (∀ u, Good W9 u → Calls Tryz.prog 15 #[.agg #[.int .i64 (nn : Int), .slice ag mg cg]] u fun x v => ∃ al cl, x = .returned (.slice al eg cl) ∧ Hid (Es v v.heap.size al eg (edgesO (nn : Int) g)) ∧ Good W9 v) := fun u hu =>
          (iEdgesOf_any _ g mg ag cg hbg u (HTg.out.up (G9.up hu))).mono fun _ _ ⟨al, m', cl, hx, ho, hb⟩ => by
            have hm : m' = eg := by have := ho.1; rw [ecells_length] at this; have := HEG.out; omega
            subst hm
            exact ⟨al, cl, hx, Es_of_own ho, hu.up hb⟩
        have X7 := hideIt (X7u.out _ g12)
        go_wp2_with (go_at_call 15; refine X7.out.mono ?_; rintro x w13 ⟨al, cl, rfl, HEs, g13⟩; refine Hid.out ?_)
        refine (show ∀ {p : Prop}, p → Hid p from fun h => h) ?_
        clear X7 X7u qG0 qG1 g12
        have G13 := hideIt (G4.out.up (G7.up (G9.up g13)))
        have hw2 : IntKind.i64.wrap ((ef : Int) + 1) = (eg : Int) := by rw [IntKind.wrap_i64]; have := HGE.out; omega
        have hw1 := hW1.out
        obtain ⟨kg, hkg⟩ : ∃ kg, kg = treeO (nn : Int) g e.1 := ⟨_, rfl⟩
        have HKG := hideIt hkg
        clear hkg hW1 HGE
        have HC : Hid (∀ u, Good w13 u → (((u.cell? ⟨bF, 0, none⟩ = some (.int .i64 (nn : Int)) ∧ u.cell? ⟨bF, 1, none⟩ = some (.slice a' m c')) ∧ u.cell? ⟨bE, 0, none⟩ = some (.int .i64 e.1) ∧ u.cell? ⟨bE, 1, none⟩ = some (.int .i64 e.2)) ∧ (u.cell? ⟨bG, 0, none⟩ = some (.int .i64 (nn : Int)) ∧ u.cell? ⟨bG, 1, none⟩ = some (.slice ag mg cg)) ∧ u.cell? ⟨bH, 0, none⟩ = some (.int .i64 (nn : Int)) ∧ u.cell? ⟨bH, 1, none⟩ = some (.slice ah mh ch)) ∧ Good w13 u) := fun u hu => ⟨⟨⟨⟨(FX.up (G7.up (G9.up (g13.up hu)))).cell0, (FX.up (G7.up (G9.up (g13.up hu)))).cell1⟩, (EX.up (G7.up (G9.up (g13.up hu)))).cell0, (EX.up (G7.up (G9.up (g13.up hu)))).cell1⟩, ⟨(GX.up (G9.up (g13.up hu))).cell0, (GX.up (G9.up (g13.up hu))).cell1⟩, (HX8.up (g13.up hu)).cell0, (HX8.up (g13.up hu)).cell1⟩, hu⟩
        have HOg : Hid (∀ u, Good w13 u → Calls Tryz.prog 12 #[.agg #[.int .i64 (nn : Int), .slice ag mg cg]] u fun x v => x = .returned (.bool true) ∧ Good w13 v) := fun u hu => (iForestOk_any _ g mg ag cg hbg u (HTg.out.up (G9.up (g13.up hu)))).mono fun _ _ ⟨b, hx, hbb, hb⟩ => ⟨by rw [hx, hbb.2 HL.out.gok], hu.up hb⟩
        have HSg : Hid (∀ u, Good w13 u → Calls Tryz.prog 14 #[.agg #[.int .i64 (nn : Int), .slice ag mg cg], .int .i64 e.1] u fun x v => x = .returned (.int .i64 sg) ∧ Good w13 v) := fun u hu => (iSizeOf_any _ g e.1 mg ag cg hbg u (HTg.out.up (G9.up (g13.up hu)))).mono fun _ _ ⟨hx, hb⟩ => ⟨by rw [hx, ← HL.out.size, HZ.out.1, HZ.out.2, HSG.out], hu.up hb⟩
        have HTa : Hid (∀ u, Good w13 u → Calls Tryz.prog 10 #[.agg #[.int .i64 (nn : Int), .slice ag mg cg], .int .i64 e.1] u fun x v => x = .returned (.int .i64 kg) ∧ Good w13 v) := fun u hu => (iTreeOf_any _ g e.1 mg ag cg hbg u (HTg.out.up (G9.up (g13.up hu)))).mono fun _ _ ⟨hx, hb⟩ => ⟨by rw [hx, HKG.out], hu.up hb⟩
        have HTb : Hid (∀ u, Good w13 u → Calls Tryz.prog 10 #[.agg #[.int .i64 (nn : Int), .slice ag mg cg], .int .i64 e.2] u fun x v => x = .returned (.int .i64 kg) ∧ Good w13 v) := fun u hu => (iTreeOf_any _ g e.2 mg ag cg hbg u (HTg.out.up (G9.up (g13.up hu)))).mono fun _ _ ⟨hx, hb⟩ => ⟨by rw [hx, HKG.out, HL.out.tree], hu.up hb⟩
        have HHa : Hid (∀ u, Good w13 u → Calls Tryz.prog 16 #[.slice al eg cl, .agg #[.int .i64 e.1, .int .i64 e.2]] u fun x v => x = .returned (.bool true) ∧ Good w13 v) := fun u hu => (has_any (edgesO (nn : Int) g) e eg al cl (by have := HEG.out; have := edges_few HL.out.gok; omega) u (HEs.out.up hu)).mono fun _ _ ⟨hx, hb⟩ => ⟨by rw [hx, show hasB (edgesO (nn : Int) g) e = true from decide_eq_true HL.out.edge], hu.up hb⟩
        have HEf : Hid (∀ u, Good w13 u → Calls Tryz.prog 15 #[.agg #[.int .i64 (nn : Int), .slice a' m c']] u fun x v => ∃ ax cx, x = .returned (.slice ax ef cx) ∧ Good w13 v) := fun u hu =>
          (iEdgesOf_any _ ts m a' c' hbnd u (HTs.out.up (G7.up (G9.up (g13.up hu))))).mono fun _ _ ⟨ax, m', cx, hx, ho, hb⟩ => by
            have hm : m' = ef := by have := ho.1; rw [ecells_length] at this; have := HEF.out; omega
            subst hm
            exact ⟨ax, cx, hx, hu.up hb⟩
        have HPh : Hid (∀ u, Good w13 u → Calls Tryz.prog 18 #[.agg #[.int .i64 (nn : Int), .slice ah mh ch]] u fun x v => ∃ gp Lp, x = .returned (.slice (some ⟨gp, 0, none⟩) nn nn) ∧ Hid (PL nn h Lp) ∧ Hid (Is v v.heap.size (some ⟨gp, 0, none⟩) nn Lp) ∧ Good u v) := fun u hu => (parts_any nn h HL.out.hok mh ah ch u (HTh.out.up (g13.up hu))).mono fun _ _ ⟨gp, Lp, q1, q2, q3, q4⟩ => ⟨gp, Lp, q1, q2, q3, q4⟩
        have HPf : Hid (∀ u, Good w13 u → Calls Tryz.prog 18 #[.agg #[.int .i64 (nn : Int), .slice a' m c']] u fun x v => ∃ gp Lp, x = .returned (.slice (some ⟨gp, 0, none⟩) nn nn) ∧ Hid (PL nn ts Lp) ∧ Hid (Is v v.heap.size (some ⟨gp, 0, none⟩) nn Lp) ∧ Good u v) := fun u hu => (parts_any nn ts hP.out m a' c' u (HTs.out.up (G7.up (G9.up (g13.up hu))))).mono fun _ _ ⟨gp, Lp, q1, q2, q3, q4⟩ => ⟨gp, Lp, q1, q2, q3, q4⟩
        have HSm : Hid (∀ u gp gq Lp Lq, Hid (PL nn h Lp) → Hid (PL nn ts Lq) → Hid (Is u u.heap.size (some ⟨gp, 0, none⟩) nn Lp) → Hid (Is u u.heap.size (some ⟨gq, 0, none⟩) nn Lq) → Good w13 u → Calls Tryz.prog 17 #[.slice (some ⟨gp, 0, none⟩) nn nn, .slice (some ⟨gq, 0, none⟩) nn nn] u fun x v => x = .returned (.bool true) ∧ Good w13 v) := fun u gp gq Lp Lq h1 h2 h3 h4 hu => by
          have e0 := PL.same h2.out h1.out hP.out HL.out.part
          subst e0
          exact (sameInts_same Lp nn _ _ nn nn (by omega) u h3.out h4.out).mono fun _ _ ⟨hx, hb⟩ => ⟨hx, hu.up hb⟩
        have HSo : Hid (∀ u, Good w13 u → Calls Tryz.prog 19 #[.agg #[.int .i64 (nn : Int), .slice ah mh ch]] u fun x v => x = .returned (.bool true) ∧ Good w13 v) := fun u hu => (sForestOk_yes HL.out.hok ch hbh (HTh.out.up (g13.up hu))).mono fun _ _ ⟨hx, hb⟩ => ⟨hx, hu.up hb⟩
        have hS0 := HC.out _ (Good.refl w13).drew
        have G13 : Hid (Good w w13) := G13
        have gS : ∀ u, Good w13 u → Good w u := fun u hu => G13.out.up hu
        clear gS HTs HTg HTh HEs HL HZ HKG HEG HEF HMG HMH HMM G4 G7 G9 g13 FX EX GX HX8 hP hE
        go_upto_region 14 with fail
        refine wp_region_held_drew (S := (fun u => (((u.cell? ⟨bF, 0, none⟩ = some (.int .i64 (nn : Int)) ∧ u.cell? ⟨bF, 1, none⟩ = some (.slice a' m c')) ∧ u.cell? ⟨bE, 0, none⟩ = some (.int .i64 e.1) ∧ u.cell? ⟨bE, 1, none⟩ = some (.int .i64 e.2)) ∧ (u.cell? ⟨bG, 0, none⟩ = some (.int .i64 (nn : Int)) ∧ u.cell? ⟨bG, 1, none⟩ = some (.slice ag mg cg)) ∧ u.cell? ⟨bH, 0, none⟩ = some (.int .i64 (nn : Int)) ∧ u.cell? ⟨bH, 1, none⟩ = some (.slice ah mh ch)) ∧ Good w13 u)) (by kernel_rfl) hS0 (fun hHeld => ?_)
        refine wpAnyH_take (i := 0) (v := ?_) rfl (by kernel_rfl) (by kernel_rfl) (by kernel_rfl) (fun _ _ _ h => h) (Or.inl ⟨by kernel_rfl, ?_⟩) (by assumption) ?_
        rotate_left
        · intro w hSw; (try dsimp only at hSw); go_simp; try with_reducible rfl
        try simp only [Act.put, List.getElem_toArray, List.getElem_cons_zero, List.setIfInBounds_toArray, List.set_cons_zero, List.set_cons_succ]
        refine wpAnyH_take (i := 1) (v := ?_) rfl (by kernel_rfl) (by kernel_rfl) (by kernel_rfl) (fun _ _ _ h => h) (Or.inl ⟨by kernel_rfl, ?_⟩) (by assumption) ?_
        rotate_left
        · intro w hSw; (try dsimp only at hSw); go_simp; try with_reducible rfl
        try simp only [Act.put, List.getElem_toArray, List.getElem_cons_succ, List.getElem_cons_zero, List.setIfInBounds_toArray, List.set_cons_zero, List.set_cons_succ]
        refine wpAnyH_take (i := 2) (v := ?_) rfl (by kernel_rfl) (by kernel_rfl) (by kernel_rfl) (fun _ _ _ h => h) (Or.inl ⟨by kernel_rfl, ?_⟩) (by assumption) ?_
        rotate_left
        · intro w hSw; (try dsimp only at hSw); go_simp; try with_reducible rfl
        try simp only [Act.put, List.getElem_toArray, List.getElem_cons_succ, List.getElem_cons_zero, List.setIfInBounds_toArray, List.set_cons_zero, List.set_cons_succ]
        refine wpAnyH_ready (rs := [3]) (by kernel_rfl) (by simp) ?_
        refine AllReadyH.cons rfl (fun K hK => ?_) AllReadyH.nil
        rw [if_pos]
        rotate_left
        · kernel_rfl
        go_wp2_with (go_at_call 12; refine (HOg.out _ hHeld.2).mono ?_; rintro x w17 ⟨rfl, g17⟩; refine Hid.out ?_)
        refine (show ∀ {p : Prop}, p → Hid p from fun h => h) ?_
        refine hK.out _ _ (HC.out _ g17) (fun hHeld => ?_)
        clear hK K
        try simp only [Act.put, List.getElem_toArray, List.getElem_cons_succ, List.getElem_cons_zero, List.setIfInBounds_toArray, List.set_cons_zero, List.set_cons_succ]
        refine wpAnyH_take (i := 4) (v := ?_) rfl (by kernel_rfl) (by kernel_rfl) (by kernel_rfl) (fun _ _ _ h => h) (Or.inl ⟨by kernel_rfl, ?_⟩) (by assumption) ?_
        rotate_left
        · intro w hSw; (try dsimp only at hSw); go_simp; try with_reducible rfl
        try simp only [Act.put, List.getElem_toArray, List.getElem_cons_succ, List.getElem_cons_zero, List.setIfInBounds_toArray, List.set_cons_zero, List.set_cons_succ]
        refine wpAnyH_take (i := 5) (v := ?_) rfl (by kernel_rfl) (by kernel_rfl) (by kernel_rfl) (fun _ _ _ h => h) (Or.inl ⟨by kernel_rfl, ?_⟩) (by assumption) ?_
        rotate_left
        · intro w hSw; (try dsimp only at hSw); go_simp; try with_reducible rfl
        try simp only [Act.put, List.getElem_toArray, List.getElem_cons_succ, List.getElem_cons_zero, List.setIfInBounds_toArray, List.set_cons_zero, List.set_cons_succ]
        refine wpAnyH_take (i := 6) (v := ?_) rfl (by kernel_rfl) (by kernel_rfl) (by kernel_rfl) (fun _ _ _ h => h) (Or.inl ⟨by kernel_rfl, ?_⟩) (by assumption) ?_
        rotate_left
        · intro w hSw; (try dsimp only at hSw); go_simp; try with_reducible rfl
        try simp only [Act.put, List.getElem_toArray, List.getElem_cons_succ, List.getElem_cons_zero, List.setIfInBounds_toArray, List.set_cons_zero, List.set_cons_succ]
        refine wpAnyH_take (i := 7) (v := ?_) rfl (by kernel_rfl) (by kernel_rfl) (by kernel_rfl) (fun _ _ _ h => h) (Or.inl ⟨by kernel_rfl, ?_⟩) (by assumption) ?_
        rotate_left
        · intro w hSw; (try dsimp only at hSw); go_simp; try with_reducible rfl
        try simp only [Act.put, List.getElem_toArray, List.getElem_cons_succ, List.getElem_cons_zero, List.setIfInBounds_toArray, List.set_cons_zero, List.set_cons_succ]
        refine wpAnyH_take (i := 8) (v := ?_) rfl (by kernel_rfl) (by kernel_rfl) (by kernel_rfl) (fun _ _ _ h => h) (Or.inl ⟨by kernel_rfl, ?_⟩) (by assumption) ?_
        rotate_left
        · intro w hSw; (try dsimp only at hSw); go_simp; try with_reducible rfl
        try simp only [Act.put, List.getElem_toArray, List.getElem_cons_succ, List.getElem_cons_zero, List.setIfInBounds_toArray, List.set_cons_zero, List.set_cons_succ]
        refine wpAnyH_take (i := 9) (v := ?_) rfl (by kernel_rfl) (by kernel_rfl) (by kernel_rfl) (fun _ _ _ h => h) (Or.inl ⟨by kernel_rfl, ?_⟩) (by assumption) ?_
        rotate_left
        · intro w hSw; (try dsimp only at hSw); go_simp; try with_reducible rfl
        try simp only [Act.put, List.getElem_toArray, List.getElem_cons_succ, List.getElem_cons_zero, List.setIfInBounds_toArray, List.set_cons_zero, List.set_cons_succ]
        refine wpAnyH_take (i := 10) (v := ?_) rfl (by kernel_rfl) (by kernel_rfl) (by kernel_rfl) (fun _ _ _ h => h) (Or.inl ⟨by kernel_rfl, ?_⟩) (by assumption) ?_
        rotate_left
        · intro w hSw; (try dsimp only at hSw); go_simp; try with_reducible rfl
        try simp only [Act.put, List.getElem_toArray, List.getElem_cons_succ, List.getElem_cons_zero, List.setIfInBounds_toArray, List.set_cons_zero, List.set_cons_succ]
        refine wpAnyH_take (i := 11) (v := ?_) rfl (by kernel_rfl) (by kernel_rfl) (by kernel_rfl) (fun _ _ _ h => h) (Or.inl ⟨by kernel_rfl, ?_⟩) (by assumption) ?_
        rotate_left
        · intro w hSw; (try dsimp only at hSw); go_simp; try with_reducible rfl
        try simp only [Act.put, List.getElem_toArray, List.getElem_cons_succ, List.getElem_cons_zero, List.setIfInBounds_toArray, List.set_cons_zero, List.set_cons_succ]
        refine wpAnyH_take (i := 12) (v := ?_) rfl (by kernel_rfl) (by kernel_rfl) (by kernel_rfl) (fun _ _ _ h => h) (Or.inl ⟨by kernel_rfl, ?_⟩) (by assumption) ?_
        rotate_left
        · intro w hSw; (try dsimp only at hSw); go_simp; try with_reducible rfl
        try simp only [Act.put, List.getElem_toArray, List.getElem_cons_succ, List.getElem_cons_zero, List.setIfInBounds_toArray, List.set_cons_zero, List.set_cons_succ]
        refine wpAnyH_take (i := 13) (v := ?_) rfl (by kernel_rfl) (by kernel_rfl) (by kernel_rfl) (fun _ _ _ h => h) (Or.inl ⟨by kernel_rfl, ?_⟩) (by assumption) ?_
        rotate_left
        · intro w hSw; (try dsimp only at hSw); go_simp; try with_reducible rfl
        try simp only [Act.put, List.getElem_toArray, List.getElem_cons_succ, List.getElem_cons_zero, List.setIfInBounds_toArray, List.set_cons_zero, List.set_cons_succ]
        refine wpAnyH_take (i := 14) (v := ?_) rfl (by kernel_rfl) (by kernel_rfl) (by kernel_rfl) (fun _ _ _ h => h) (Or.inl ⟨by kernel_rfl, ?_⟩) (by assumption) ?_
        rotate_left
        · intro w hSw; (try dsimp only at hSw); go_simp; try with_reducible rfl
        try simp only [Act.put, List.getElem_toArray, List.getElem_cons_succ, List.getElem_cons_zero, List.setIfInBounds_toArray, List.set_cons_zero, List.set_cons_succ]
        refine wpAnyH_take (i := 15) (v := ?_) rfl (by kernel_rfl) (by kernel_rfl) (by kernel_rfl) (fun _ _ _ h => h) (Or.inl ⟨by kernel_rfl, ?_⟩) (by assumption) ?_
        rotate_left
        · intro w hSw; (try dsimp only at hSw); go_simp; try with_reducible rfl
        try simp only [Act.put, List.getElem_toArray, List.getElem_cons_succ, List.getElem_cons_zero, List.setIfInBounds_toArray, List.set_cons_zero, List.set_cons_succ]
        refine wpAnyH_take (i := 16) (v := ?_) rfl (by kernel_rfl) (by kernel_rfl) (by kernel_rfl) (fun _ _ _ h => h) (Or.inl ⟨by kernel_rfl, ?_⟩) (by assumption) ?_
        rotate_left
        · intro w hSw; (try dsimp only at hSw); go_simp; try with_reducible rfl
        try simp only [Act.put, List.getElem_toArray, List.getElem_cons_succ, List.getElem_cons_zero, List.setIfInBounds_toArray, List.set_cons_zero, List.set_cons_succ]
        refine wpAnyH_take (i := 17) (v := ?_) rfl (by kernel_rfl) (by kernel_rfl) (by kernel_rfl) (fun _ _ _ h => h) (Or.inl ⟨by kernel_rfl, ?_⟩) (by assumption) ?_
        rotate_left
        · intro w hSw; (try dsimp only at hSw); go_simp; try with_reducible rfl
        try simp only [Act.put, List.getElem_toArray, List.getElem_cons_succ, List.getElem_cons_zero, List.setIfInBounds_toArray, List.set_cons_zero, List.set_cons_succ]
        refine wpAnyH_take (i := 18) (v := ?_) rfl (by kernel_rfl) (by kernel_rfl) (by kernel_rfl) (fun _ _ _ h => h) (Or.inl ⟨by kernel_rfl, ?_⟩) (by assumption) ?_
        rotate_left
        · intro w hSw; (try dsimp only at hSw); go_simp; try with_reducible rfl
        try simp only [Act.put, List.getElem_toArray, List.getElem_cons_succ, List.getElem_cons_zero, List.setIfInBounds_toArray, List.set_cons_zero, List.set_cons_succ]
        refine wpAnyH_take (i := 20) (v := ?_) rfl (by kernel_rfl) (by kernel_rfl) (by kernel_rfl) (fun _ _ _ h => h) (Or.inl ⟨by kernel_rfl, ?_⟩) (by assumption) ?_
        rotate_left
        · intro w hSw; (try dsimp only at hSw); go_simp; try with_reducible rfl
        try simp only [Act.put, List.getElem_toArray, List.getElem_cons_succ, List.getElem_cons_zero, List.setIfInBounds_toArray, List.set_cons_zero, List.set_cons_succ]
        refine wpAnyH_ready (rs := [19]) (by kernel_rfl) (by simp) ?_
        refine AllReadyH.cons rfl (fun K hK => ?_) AllReadyH.nil
        rw [if_pos]
        rotate_left
        · kernel_rfl
        go_wp2_with (go_at_call 14; refine (HSg.out _ hHeld.2).mono ?_; rintro x w18 ⟨rfl, g18⟩; refine Hid.out ?_)
        refine (show ∀ {p : Prop}, p → Hid p from fun h => h) ?_
        refine hK.out _ _ (HC.out _ g18) (fun hHeld => ?_)
        clear hK K
        try simp only [Act.put, List.getElem_toArray, List.getElem_cons_succ, List.getElem_cons_zero, List.setIfInBounds_toArray, List.set_cons_zero, List.set_cons_succ]
        refine wpAnyH_take (i := 21) (v := ?_) rfl (by kernel_rfl) (by kernel_rfl) (by kernel_rfl) (fun _ _ _ h => h) (Or.inl ⟨by kernel_rfl, ?_⟩) (by assumption) ?_
        rotate_left
        · intro w hSw; (try dsimp only at hSw); go_simp; try with_reducible rfl
        try simp only [Act.put, List.getElem_toArray, List.getElem_cons_succ, List.getElem_cons_zero, List.setIfInBounds_toArray, List.set_cons_zero, List.set_cons_succ]
        refine wpAnyH_take (i := 22) (v := ?_) rfl (by kernel_rfl) (by kernel_rfl) (by kernel_rfl) (fun _ _ _ h => h) (Or.inl ⟨by kernel_rfl, ?_⟩) (by assumption) ?_
        rotate_left
        · intro w hSw; (try dsimp only at hSw); go_simp; try with_reducible rfl
        try simp only [Act.put, List.getElem_toArray, List.getElem_cons_succ, List.getElem_cons_zero, List.setIfInBounds_toArray, List.set_cons_zero, List.set_cons_succ]
        refine wpAnyH_take (i := 23) (v := ?_) rfl (by kernel_rfl) (by kernel_rfl) (by kernel_rfl) (fun _ _ _ h => h) (Or.inl ⟨by kernel_rfl, ?_⟩) (by assumption) ?_
        rotate_left
        · intro w hSw; (try dsimp only at hSw); go_simp; try with_reducible rfl
        try simp only [Act.put, List.getElem_toArray, List.getElem_cons_succ, List.getElem_cons_zero, List.setIfInBounds_toArray, List.set_cons_zero, List.set_cons_succ]
        refine wpAnyH_take (i := 24) (v := ?_) rfl (by kernel_rfl) (by kernel_rfl) (by kernel_rfl) (fun _ _ _ h => h) (Or.inl ⟨by kernel_rfl, ?_⟩) (by assumption) ?_
        rotate_left
        · intro w hSw; (try dsimp only at hSw); go_simp; try with_reducible rfl
        try simp only [Act.put, List.getElem_toArray, List.getElem_cons_succ, List.getElem_cons_zero, List.setIfInBounds_toArray, List.set_cons_zero, List.set_cons_succ]
        refine wpAnyH_take (i := 25) (v := ?_) rfl (by kernel_rfl) (by kernel_rfl) (by kernel_rfl) (fun _ _ _ h => h) (Or.inl ⟨by kernel_rfl, ?_⟩) (by assumption) ?_
        rotate_left
        · intro w hSw; (try dsimp only at hSw); go_simp; try with_reducible rfl
        try simp only [Act.put, List.getElem_toArray, List.getElem_cons_succ, List.getElem_cons_zero, List.setIfInBounds_toArray, List.set_cons_zero, List.set_cons_succ]
        refine wpAnyH_take (i := 26) (v := ?_) rfl (by kernel_rfl) (by kernel_rfl) (by kernel_rfl) (fun _ _ _ h => h) (Or.inl ⟨by kernel_rfl, ?_⟩) (by assumption) ?_
        rotate_left
        · intro w hSw; (try dsimp only at hSw); go_simp; try with_reducible rfl
        try simp only [Act.put, List.getElem_toArray, List.getElem_cons_succ, List.getElem_cons_zero, List.setIfInBounds_toArray, List.set_cons_zero, List.set_cons_succ]
        refine wpAnyH_take (i := 28) (v := ?_) rfl (by kernel_rfl) (by kernel_rfl) (by kernel_rfl) (fun _ _ _ h => h) (Or.inl ⟨by kernel_rfl, ?_⟩) (by assumption) ?_
        rotate_left
        · intro w hSw; (try dsimp only at hSw); go_simp; try with_reducible rfl
        try simp only [Act.put, List.getElem_toArray, List.getElem_cons_succ, List.getElem_cons_zero, List.setIfInBounds_toArray, List.set_cons_zero, List.set_cons_succ]
        refine wpAnyH_take (i := 29) (v := ?_) rfl (by kernel_rfl) (by kernel_rfl) (by kernel_rfl) (fun _ _ _ h => h) (Or.inl ⟨by kernel_rfl, ?_⟩) (by assumption) ?_
        rotate_left
        · intro w hSw; (try dsimp only at hSw); go_simp; try with_reducible rfl
        try simp only [Act.put, List.getElem_toArray, List.getElem_cons_succ, List.getElem_cons_zero, List.setIfInBounds_toArray, List.set_cons_zero, List.set_cons_succ]
        refine wpAnyH_take (i := 30) (v := ?_) rfl (by kernel_rfl) (by kernel_rfl) (by kernel_rfl) (fun _ _ _ h => h) (Or.inl ⟨by kernel_rfl, ?_⟩) (by assumption) ?_
        rotate_left
        · intro w hSw; (try dsimp only at hSw); go_simp; try with_reducible rfl
        try simp only [Act.put, List.getElem_toArray, List.getElem_cons_succ, List.getElem_cons_zero, List.setIfInBounds_toArray, List.set_cons_zero, List.set_cons_succ]
        refine wpAnyH_ready (rs := [27]) (by kernel_rfl) (by simp) ?_
        refine AllReadyH.cons rfl (fun K hK => ?_) AllReadyH.nil
        rw [if_pos]
        rotate_left
        · kernel_rfl
        go_wp2_with (go_at_call 10; refine (HTa.out _ hHeld.2).mono ?_; rintro x w19 ⟨rfl, g19⟩; refine Hid.out ?_)
        refine (show ∀ {p : Prop}, p → Hid p from fun h => h) ?_
        refine hK.out _ _ (HC.out _ g19) (fun hHeld => ?_)
        clear hK K
        try simp only [Act.put, List.getElem_toArray, List.getElem_cons_succ, List.getElem_cons_zero, List.setIfInBounds_toArray, List.set_cons_zero, List.set_cons_succ]
        refine wpAnyH_ready (rs := [31]) (by kernel_rfl) (by simp) ?_
        refine AllReadyH.cons rfl (fun K hK => ?_) AllReadyH.nil
        rw [if_pos]
        rotate_left
        · kernel_rfl
        go_wp2_with (go_at_call 10; refine (HTb.out _ hHeld.2).mono ?_; rintro x w20 ⟨rfl, g20⟩; refine Hid.out ?_)
        refine (show ∀ {p : Prop}, p → Hid p from fun h => h) ?_
        refine hK.out _ _ (HC.out _ g20) (fun hHeld => ?_)
        clear hK K
        try simp only [Act.put, List.getElem_toArray, List.getElem_cons_succ, List.getElem_cons_zero, List.setIfInBounds_toArray, List.set_cons_zero, List.set_cons_succ]
        refine wpAnyH_take (i := 32) (v := ?_) rfl (by kernel_rfl) (by kernel_rfl) (by kernel_rfl) (fun _ _ _ h => h) (Or.inl ⟨by kernel_rfl, ?_⟩) (by assumption) ?_
        rotate_left
        · intro w hSw; (try dsimp only at hSw); go_simp; try with_reducible rfl
        try simp only [Act.put, List.getElem_toArray, List.getElem_cons_succ, List.getElem_cons_zero, List.setIfInBounds_toArray, List.set_cons_zero, List.set_cons_succ]
        refine wpAnyH_take (i := 33) (v := ?_) rfl (by kernel_rfl) (by kernel_rfl) (by kernel_rfl) (fun _ _ _ h => h) (Or.inl ⟨by kernel_rfl, ?_⟩) (by assumption) ?_
        rotate_left
        · intro w hSw; (try dsimp only at hSw); go_simp; try with_reducible rfl
        try simp only [Act.put, List.getElem_toArray, List.getElem_cons_succ, List.getElem_cons_zero, List.setIfInBounds_toArray, List.set_cons_zero, List.set_cons_succ]
        refine wpAnyH_take (i := 34) (v := ?_) rfl (by kernel_rfl) (by kernel_rfl) (by kernel_rfl) (fun _ _ _ h => h) (Or.inl ⟨by kernel_rfl, ?_⟩) (by assumption) ?_
        rotate_left
        · intro w hSw; (try dsimp only at hSw); go_simp; try with_reducible rfl
        try simp only [Act.put, List.getElem_toArray, List.getElem_cons_succ, List.getElem_cons_zero, List.setIfInBounds_toArray, List.set_cons_zero, List.set_cons_succ]
        refine wpAnyH_take (i := 35) (v := ?_) rfl (by kernel_rfl) (by kernel_rfl) (by kernel_rfl) (fun _ _ _ h => h) (Or.inl ⟨by kernel_rfl, ?_⟩) (by assumption) ?_
        rotate_left
        · intro w hSw; (try dsimp only at hSw); go_simp; try with_reducible rfl
        try simp only [Act.put, List.getElem_toArray, List.getElem_cons_succ, List.getElem_cons_zero, List.setIfInBounds_toArray, List.set_cons_zero, List.set_cons_succ]
        refine wpAnyH_take (i := 36) (v := ?_) rfl (by kernel_rfl) (by kernel_rfl) (by kernel_rfl) (fun _ _ _ h => h) (Or.inl ⟨by kernel_rfl, ?_⟩) (by assumption) ?_
        rotate_left
        · intro w hSw; (try dsimp only at hSw); go_simp; try with_reducible rfl
        try simp only [Act.put, List.getElem_toArray, List.getElem_cons_succ, List.getElem_cons_zero, List.setIfInBounds_toArray, List.set_cons_zero, List.set_cons_succ]
        refine wpAnyH_ready (rs := [37]) (by kernel_rfl) (by simp) ?_
        refine AllReadyH.cons rfl (fun K hK => ?_) AllReadyH.nil
        rw [if_pos]
        rotate_left
        · kernel_rfl
        go_wp2_with (go_at_call 16; refine (HHa.out _ hHeld.2).mono ?_; rintro x w21 ⟨rfl, g21⟩; refine Hid.out ?_)
        refine (show ∀ {p : Prop}, p → Hid p from fun h => h) ?_
        refine hK.out _ _ (HC.out _ g21) (fun hHeld => ?_)
        clear hK K
        try simp only [Act.put, List.getElem_toArray, List.getElem_cons_succ, List.getElem_cons_zero, List.setIfInBounds_toArray, List.set_cons_zero, List.set_cons_succ]
        refine wpAnyH_take (i := 38) (v := ?_) rfl (by kernel_rfl) (by kernel_rfl) (by kernel_rfl) (fun _ _ _ h => h) (Or.inl ⟨by kernel_rfl, ?_⟩) (by assumption) ?_
        rotate_left
        · intro w hSw; (try dsimp only at hSw); go_simp; try with_reducible rfl
        try simp only [Act.put, List.getElem_toArray, List.getElem_cons_succ, List.getElem_cons_zero, List.setIfInBounds_toArray, List.set_cons_zero, List.set_cons_succ]
        refine wpAnyH_take (i := 39) (v := ?_) rfl (by kernel_rfl) (by kernel_rfl) (by kernel_rfl) (fun _ _ _ h => h) (Or.inl ⟨by kernel_rfl, ?_⟩) (by assumption) ?_
        rotate_left
        · intro w hSw; (try dsimp only at hSw); go_simp; try with_reducible rfl
        try simp only [Act.put, List.getElem_toArray, List.getElem_cons_succ, List.getElem_cons_zero, List.setIfInBounds_toArray, List.set_cons_zero, List.set_cons_succ]
        refine wpAnyH_take (i := 40) (v := ?_) rfl (by kernel_rfl) (by kernel_rfl) (by kernel_rfl) (fun _ _ _ h => h) (Or.inl ⟨by kernel_rfl, ?_⟩) (by assumption) ?_
        rotate_left
        · intro w hSw; (try dsimp only at hSw); go_simp; try with_reducible rfl
        try simp only [Act.put, List.getElem_toArray, List.getElem_cons_succ, List.getElem_cons_zero, List.setIfInBounds_toArray, List.set_cons_zero, List.set_cons_succ]
        refine wpAnyH_take (i := 41) (v := ?_) rfl (by kernel_rfl) (by kernel_rfl) (by kernel_rfl) (fun _ _ _ h => h) (Or.inl ⟨by kernel_rfl, ?_⟩) (by assumption) ?_
        rotate_left
        · intro w hSw; (try dsimp only at hSw); go_simp; try with_reducible rfl
        try simp only [Act.put, List.getElem_toArray, List.getElem_cons_succ, List.getElem_cons_zero, List.setIfInBounds_toArray, List.set_cons_zero, List.set_cons_succ]
        refine wpAnyH_take (i := 42) (v := ?_) rfl (by kernel_rfl) (by kernel_rfl) (by kernel_rfl) (fun _ _ _ h => h) (Or.inl ⟨by kernel_rfl, ?_⟩) (by assumption) ?_
        rotate_left
        · intro w hSw; (try dsimp only at hSw); go_simp; try with_reducible rfl
        try simp only [Act.put, List.getElem_toArray, List.getElem_cons_succ, List.getElem_cons_zero, List.setIfInBounds_toArray, List.set_cons_zero, List.set_cons_succ]
        refine wpAnyH_ready (rs := [43]) (by kernel_rfl) (by simp) ?_
        refine AllReadyH.cons rfl (fun K hK => ?_) AllReadyH.nil
        rw [if_pos]
        rotate_left
        · kernel_rfl
        go_wp2_with (go_at_call 15; refine (HEf.out _ hHeld.2).mono ?_; rintro x w22 ⟨ax, cx, rfl, g22⟩; refine Hid.out ?_)
        refine (show ∀ {p : Prop}, p → Hid p from fun h => h) ?_
        refine hK.out _ _ (HC.out _ g22) (fun hHeld => ?_)
        clear hK K
        try simp only [Act.put, List.getElem_toArray, List.getElem_cons_succ, List.getElem_cons_zero, List.setIfInBounds_toArray, List.set_cons_zero, List.set_cons_succ]
        refine wpAnyH_take (i := 44) (v := ?_) rfl (by kernel_rfl) (by kernel_rfl) (by kernel_rfl) (fun _ _ _ h => h) (Or.inl ⟨by kernel_rfl, ?_⟩) (by assumption) ?_
        rotate_left
        · intro w hSw; (try dsimp only at hSw); go_simp; try with_reducible rfl
        try simp only [Act.put, List.getElem_toArray, List.getElem_cons_succ, List.getElem_cons_zero, List.setIfInBounds_toArray, List.set_cons_zero, List.set_cons_succ]
        refine wpAnyH_take (i := 45) (v := ?_) rfl (by kernel_rfl) (by kernel_rfl) (by kernel_rfl) (fun _ _ _ h => h) (Or.inl ⟨by kernel_rfl, ?_⟩) (by assumption) ?_
        rotate_left
        · intro w hSw; (try dsimp only at hSw); go_simp; try with_reducible rfl
        try simp only [Act.put, List.getElem_toArray, List.getElem_cons_succ, List.getElem_cons_zero, List.setIfInBounds_toArray, List.set_cons_zero, List.set_cons_succ]
        refine wpAnyH_take (i := 46) (v := ?_) rfl (by kernel_rfl) (by kernel_rfl) (by kernel_rfl) (fun _ _ _ h => h) (Or.inl ⟨by kernel_rfl, ?_⟩) (by assumption) ?_
        rotate_left
        · intro w hSw; (try dsimp only at hSw); go_simp; try with_reducible rfl
        try simp only [Act.put, List.getElem_toArray, List.getElem_cons_succ, List.getElem_cons_zero, List.setIfInBounds_toArray, List.set_cons_zero, List.set_cons_succ]
        refine wpAnyH_take (i := 47) (v := ?_) rfl (by kernel_rfl) (by kernel_rfl) (by kernel_rfl) (fun _ _ _ h => h) (Or.inl ⟨by kernel_rfl, ?_⟩) (by assumption) ?_
        rotate_left
        · intro w hSw; (try dsimp only at hSw); go_simp; try with_reducible rfl
        try simp only [Act.put, List.getElem_toArray, List.getElem_cons_succ, List.getElem_cons_zero, List.setIfInBounds_toArray, List.set_cons_zero, List.set_cons_succ]
        refine wpAnyH_take (i := 48) (v := ?_) rfl (by kernel_rfl) (by kernel_rfl) (by kernel_rfl) (fun _ _ _ h => h) (Or.inl ⟨by kernel_rfl, ?_⟩) (by assumption) ?_
        rotate_left
        · intro w hSw; (try dsimp only at hSw); go_simp; try with_reducible rfl
        try simp only [Act.put, List.getElem_toArray, List.getElem_cons_succ, List.getElem_cons_zero, List.setIfInBounds_toArray, List.set_cons_zero, List.set_cons_succ]
        refine wpAnyH_take (i := 49) (v := ?_) rfl (by kernel_rfl) (by kernel_rfl) (by kernel_rfl) (fun _ _ _ h => h) (Or.inl ⟨by kernel_rfl, ?_⟩) (by assumption) ?_
        rotate_left
        · intro w hSw; (try dsimp only at hSw); go_simp; try with_reducible rfl
        try simp only [Act.put, List.getElem_toArray, List.getElem_cons_succ, List.getElem_cons_zero, List.setIfInBounds_toArray, List.set_cons_zero, List.set_cons_succ]
        refine wpAnyH_take (i := 51) (v := ?_) rfl (by kernel_rfl) (by kernel_rfl) (by kernel_rfl) (fun _ _ _ h => h) (Or.inl ⟨by kernel_rfl, ?_⟩) (by assumption) ?_
        rotate_left
        · intro w hSw; (try dsimp only at hSw); go_simp; try with_reducible rfl
        try simp only [Act.put, List.getElem_toArray, List.getElem_cons_succ, List.getElem_cons_zero, List.setIfInBounds_toArray, List.set_cons_zero, List.set_cons_succ]
        refine wpAnyH_ready (rs := [50]) (by kernel_rfl) (by simp) ?_
        refine AllReadyH.cons rfl (fun K hK => ?_) AllReadyH.nil
        rw [if_pos]
        rotate_left
        · kernel_rfl
        go_wp2_with (go_at_call 18; refine (HPh.out _ hHeld.2).mono ?_; rintro x w23 ⟨gph, Lh, rfl, PLh, Ih, GA1⟩; have g23 : Good w13 w23 := Good.up hHeld.2 GA1; refine Hid.out ?_)
        refine (show ∀ {p : Prop}, p → Hid p from fun h => h) ?_
        refine hK.out _ _ (HC.out _ g23) (fun hHeld => ?_)
        clear hK K
        try simp only [Act.put, List.getElem_toArray, List.getElem_cons_succ, List.getElem_cons_zero, List.setIfInBounds_toArray, List.set_cons_zero, List.set_cons_succ]
        refine wpAnyH_ready (rs := [52]) (by kernel_rfl) (by simp) ?_
        refine AllReadyH.cons rfl (fun K hK => ?_) AllReadyH.nil
        rw [if_pos]
        rotate_left
        · kernel_rfl
        go_wp2_with (go_at_call 18; refine (HPf.out _ hHeld.2).mono ?_; rintro x w24 ⟨gpf, Lf, rfl, PLf, If, GBx⟩; have g24 : Good w13 w24 := Good.up hHeld.2 GBx; refine Hid.out ?_)
        refine (show ∀ {p : Prop}, p → Hid p from fun h => h) ?_
        refine hK.out _ _ (HC.out _ g24) (fun hHeld => ?_)
        clear hK K
        try simp only [Act.put, List.getElem_toArray, List.getElem_cons_succ, List.getElem_cons_zero, List.setIfInBounds_toArray, List.set_cons_zero, List.set_cons_succ]
        refine wpAnyH_ready (rs := [53]) (by kernel_rfl) (by simp) ?_
        refine AllReadyH.cons rfl (fun K hK => ?_) AllReadyH.nil
        rw [if_pos]
        rotate_left
        · kernel_rfl
        go_wp2_with (go_at_call 17; refine (HSm.out _ gph gpf Lh Lf PLh PLf (Is.upG Ih GBx) If hHeld.2).mono ?_; rintro x w25 ⟨rfl, g25⟩; refine Hid.out ?_)
        refine (show ∀ {p : Prop}, p → Hid p from fun h => h) ?_
        refine hK.out _ _ (HC.out _ g25) (fun hHeld => ?_)
        clear hK K
        try simp only [Act.put, List.getElem_toArray, List.getElem_cons_succ, List.getElem_cons_zero, List.setIfInBounds_toArray, List.set_cons_zero, List.set_cons_succ]
        refine wpAnyH_take (i := 54) (v := ?_) rfl (by kernel_rfl) (by kernel_rfl) (by kernel_rfl) (fun _ _ _ h => h) (Or.inl ⟨by kernel_rfl, ?_⟩) (by assumption) ?_
        rotate_left
        · intro w hSw; (try dsimp only at hSw); go_simp; try with_reducible rfl
        try simp only [Act.put, List.getElem_toArray, List.getElem_cons_succ, List.getElem_cons_zero, List.setIfInBounds_toArray, List.set_cons_zero, List.set_cons_succ]
        refine wpAnyH_take (i := 55) (v := ?_) rfl (by kernel_rfl) (by kernel_rfl) (by kernel_rfl) (fun _ _ _ h => h) (Or.inl ⟨by kernel_rfl, ?_⟩) (by assumption) ?_
        rotate_left
        · intro w hSw; (try dsimp only at hSw); go_simp; try with_reducible rfl
        try simp only [Act.put, List.getElem_toArray, List.getElem_cons_succ, List.getElem_cons_zero, List.setIfInBounds_toArray, List.set_cons_zero, List.set_cons_succ]
        refine wpAnyH_take (i := 56) (v := ?_) rfl (by kernel_rfl) (by kernel_rfl) (by kernel_rfl) (fun _ _ _ h => h) (Or.inl ⟨by kernel_rfl, ?_⟩) (by assumption) ?_
        rotate_left
        · intro w hSw; (try dsimp only at hSw); go_simp; try with_reducible rfl
        try simp only [Act.put, List.getElem_toArray, List.getElem_cons_succ, List.getElem_cons_zero, List.setIfInBounds_toArray, List.set_cons_zero, List.set_cons_succ]
        refine wpAnyH_ready (rs := [57]) (by kernel_rfl) (by simp) ?_
        refine AllReadyH.cons rfl (fun K hK => ?_) AllReadyH.nil
        rw [if_pos]
        rotate_left
        · kernel_rfl
        go_wp2_with (go_at_call 19; refine (HSo.out _ hHeld.2).mono ?_; rintro x w26 ⟨rfl, g26⟩; refine Hid.out ?_)
        refine (show ∀ {p : Prop}, p → Hid p from fun h => h) ?_
        refine hK.out _ _ (HC.out _ g26) (fun hHeld => ?_)
        clear hK K
        try simp only [Act.put, List.getElem_toArray, List.getElem_cons_succ, List.getElem_cons_zero, List.setIfInBounds_toArray, List.set_cons_zero, List.set_cons_succ]
        refine wpAnyH_take (i := 58) (v := ?_) rfl (by kernel_rfl) (by kernel_rfl) (by kernel_rfl) (fun _ _ _ h => h) (Or.inl ⟨by kernel_rfl, ?_⟩) (by assumption) ?_
        rotate_left
        · intro w hSw; (try dsimp only at hSw); go_simp; try with_reducible rfl
        try simp only [Act.put, List.getElem_toArray, List.getElem_cons_succ, List.getElem_cons_zero, List.setIfInBounds_toArray, List.set_cons_zero, List.set_cons_succ]
        refine wpAnyH_take (i := 59) (v := ?_) rfl (by kernel_rfl) (by kernel_rfl) (by kernel_rfl) (fun _ _ _ h => h) (Or.inl ⟨by kernel_rfl, ?_⟩) (by assumption) ?_
        rotate_left
        · intro w hSw; (try dsimp only at hSw); go_simp; try with_reducible rfl
        try simp only [Act.put, List.getElem_toArray, List.getElem_cons_succ, List.getElem_cons_zero, List.setIfInBounds_toArray, List.set_cons_zero, List.set_cons_succ]
        refine wpAnyH_done (by kernel_rfl) ?_ _
        have HGd := hideIt (G13.up hHeld.2)
        clear hHeld
        go_wp2
        go_ret
        exact ⟨rfl, HGd.out⟩
  · have d0 : decide ((1048576 : Int) < (len : Int)) = true := decide_eq_true (by omega)
    rw [d0] at HBg
    clear hcode
    go_enter Tryz.func3, Tryz.ntmps3
    go_wp2_with (go_at_call 8; refine HBg.out.mono ?_; rintro e w1 ⟨rfl, rfl⟩)
    go_ret
    exact ⟨rfl, Below.refl _ _⟩
end Go.Proofs.YtklalfkdikjkfaaGreat
namespace Go.Proofs.YtklalfkdikjkfaaGreat
open Go.ChangeShapes Go.WideShapes Go.ChangeAt Go.RowKit

/-- a slice of bytes that came in, as the walk wants it -/
theorem code_of {H : Type} {enc : TypeId × Value → H} {W : World} {a : Option Addr} {len cap fuel : Nat} {x : DataW H × List MemPlace}
    (hf : DataW.trod enc Tryz.prog W 0 (fun _ => true) true fuel 22 [.slice a len cap] = some x) : Code W W.heap.size a len := by
  rcases open_ints Tryz.underlying22 Tryz.underlying5 (by kernel_rfl) hf with ⟨hcs, _⟩ | ⟨x, l, c, zs, hcs, _, hl, hm, hz, _, hcell, hwz⟩
  · simp at hcs
    obtain ⟨rfl, rfl, rfl⟩ := hcs
    exact .inl rfl
  · simp at hcs
    obtain ⟨rfl, rfl, rfl⟩ := hcs
    by_cases h0 : len = 0
    · exact .inl h0
    · have hzl : zs.length = cap := by simpa using hz
      obtain ⟨b, off, rfl, hc⟩ := ints_at hcell (by omega)
      have hb : b < W.heap.size := World.block_lt_of_cell? W _ (hc 0 (by omega))
      refine .inr ⟨b, off, rfl, hb, by omega, fun j hj => ?_⟩
      have hw := hwz (zs.getD j 0) (by
        rw [List.getD_eq_getElem?_getD, List.getElem?_eq_getElem (by omega)]
        exact List.getElem_mem _)
      have hr : 0 ≤ zs.getD j 0 ∧ zs.getD j 0 ≤ 255 := by simpa [Lit.wf, IntKind.min, IntKind.max, IntKind.signed, IntKind.bits] using hw
      refine ⟨(zs.getD j 0).toNat, by omega, ?_⟩
      rw [hc j (by omega), Int.toNat_of_nonneg hr.1]

end Go.Proofs.YtklalfkdikjkfaaGreat
