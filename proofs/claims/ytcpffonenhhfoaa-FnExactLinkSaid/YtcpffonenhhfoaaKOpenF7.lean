/- The specification's Link. The program's Link. The walk of FnExactLink. A forest that comes in. -/
import Derived.Test.YtcpffonenhhfoaaKCmp6
import Derived.Test.YtcpffonenhhfoaaKSJoin
import Derived.Test.YtcpffonenhhfoaaKIJoin
import Derived.Deep.DeepCutAuto
import Derived.Test.YtcpffonenhhfoaaKRer
import Derived.WalkKit
import Derived.ProofKit
import Derived.OpenShut
import Derived.ChangeOld
import Derived.ChangeArms
import Derived.Below
import Derived.ChangeSlices
namespace Go.Proofs.Ytcpffonenhhfoaa
open Go.RowKit

theorem rans_no {w u : World} {N : Int} {o : Option (List (List Int))} (ho : o = none) (h : Below w.heap.size w u) : RAns w N o (.returned (.tuple #[.agg #[.int .i64 0, .slice none 0 0], .bool false])) u := by
  subst ho
  exact ⟨none, 0, 0, [], rfl, ⟨World.ownsRow_nil _ _ _ _, HdT.nil _ _, by simp⟩, h⟩
/-- two numbers in a row -/
theorem is_two {w : World} {x y : Int} : Is (w.alloc (.cells #[.int .i64 x, .int .i64 y] 3)) (w.alloc (.cells #[.int .i64 x, .int .i64 y] 3)).heap.size (some ⟨w.heap.size, 0, none⟩) 2 [x, y] := ⟨rfl, .inr ⟨w.heap.size, 0, rfl, by simp, fun j z hz => by
  rcases j with _ | _ | j
  · simp at hz; subst hz; simp
  · simp at hz; subst hz; simp
  · simp at hz⟩⟩
theorem ts_one {w : World} {x : Option Addr} {cx : Nat} {t : List Int} (h : Is w w.heap.size x t.length t) (hc : t.length ≤ cx) : Ts (w.alloc (.cells #[.slice x t.length cx] 50)) (w.alloc (.cells #[.slice x t.length cx] 50)).heap.size (some ⟨w.heap.size, 0, none⟩) 1 [t] := ⟨rfl, .inr ⟨w.heap.size, 0, rfl, by simp, fun j s hs => by
  rcases j with _ | j
  · simp at hs
    subst hs
    exact ⟨x, cx, by simp, h.up ((Good.refl w).alloc _), hc⟩
  · simp at hs⟩⟩
set_option maxRecDepth 100000 in
set_option maxHeartbeats 8000000 in
theorem sLink_any (N : Int) (ts : List (List Int)) (f : EdgeV) (n : Nat) (a : Option Addr) (c : Nat) (hn : n + lnS ts ≤ 1048576) (w : World) (h : Ts w w.heap.size a n ts) :
    Calls Try.prog 23 #[.agg #[.int .i64 N, .slice a n c], .agg #[.int .i64 f.1, .int .i64 f.2]] w fun e w' => RAns w N (linkO N ts f) e w' := by
  obtain ⟨W, hW⟩ : ∃ W, W = w3of w N a n c f := ⟨_, rfl⟩
  have hsz : W.heap.size = w.heap.size + 3 := by rw [hW, w3_size]
  have gW : Good w W := by rw [hW]; exact w3_good _ _ _ _ _ _
  have HA := hideIt (h.up gW)
  have HAw := hideIt h
  have hlen := h.1
  have HT : Hid (∀ x u, Good W u → Calls Try.prog 22 #[.agg #[.int .i64 N, .slice a n c], .int .i64 x] u fun e v => e = .returned (.int .i64 (treeO N ts x)) ∧ Good W v) := fun x u hu =>
    (sTreeOf_any N ts x n a c hn u (HA.out.up hu)).mono fun _ _ ⟨he, hb⟩ => ⟨he, hu.up hb⟩
  have HE : Hid (∀ u, Good W u → Calls Try.prog 46 #[.int .i64 N, .agg #[.int .i64 f.1, .int .i64 f.2]] u fun e v => e = .returned (.bool (eB N f)) ∧ Good W v) := fun u hu =>
    (sEdgeOk_any N f u).mono fun _ _ ⟨he, hb⟩ => ⟨he, hu.up hb⟩
  have HC : Hid (∀ u, Good W u → ((u.cell? ⟨w.heap.size, 0, none⟩ = some (.int .i64 N) ∧ u.cell? ⟨w.heap.size, 1, none⟩ = some (.slice a n c)) ∧ u.cell? ⟨w.heap.size + 1, 0, none⟩ = some (.int .i64 f.1) ∧ u.cell? ⟨w.heap.size + 1, 1, none⟩ = some (.int .i64 f.2)) ∧ Good W u) := fun u hu => ⟨w3_cells (hW ▸ hu), hu⟩
  have HO : Hid (∀ u, Below (w.heap.size + 3) W u → (u.cell? ⟨w.heap.size + 2, 0, none⟩ = some (.int .i64 0) ∧ u.cell? ⟨w.heap.size + 2, 1, none⟩ = some (.slice none 0 0)) ∧ u.frozen? ⟨w.heap.size + 2, 0, none⟩ = false ∧ u.frozen? ⟨w.heap.size + 2, 1, none⟩ = false) := fun u hu => w3_out (hW ▸ hu)
  have HNo : Hid (∀ u, Good W u → linkO N ts f = none → RAns w N (linkO N ts f) (.returned (.tuple #[.agg #[.int .i64 0, .slice none 0 0], .bool false])) ((u.setCell ⟨w.heap.size + 2, 0, none⟩ (.int .i64 0)).setCell ⟨w.heap.size + 2, 1, none⟩ (.slice none 0 0))) := fun u hu ho =>
    rans_no ho (((gW.up hu).setCell (p := ⟨w.heap.size + 2, 0, none⟩) (by show w.heap.size ≤ w.heap.size + 2; omega) _).setCell (p := ⟨w.heap.size + 2, 1, none⟩) (by show w.heap.size ≤ w.heap.size + 2; omega) _)
  have HS0 := hideIt (HC.out _ (Good.refl W).drew)
  have HGW := hideIt gW
  go_enter Try.func23, Try.ntmps23
  go_upto_region 1 with fail
  have hW' : (((w.alloc (.cells #[.int .i64 N, .slice a n c] 27)).alloc (.cells #[.int .i64 f.1, .int .i64 f.2] 44)).alloc (.cells #[.int .i64 0, .slice none 0 0] 27)) = W := hW.symm
  rw [hW']
  clear h gW hW HS0 hW'
  obtain ⟨⟨⟨k0, k1⟩, k2, k3⟩, _⟩ := HC.out _ (Good.refl W)
  have HT0 := hideIt (HT.out f.1 W (Good.refl W))
  go_wp2_with (go_at_call 22; refine HT0.out.mono ?_; rintro e w0 ⟨rfl, G0⟩; refine Hid.out ?_)
  refine (show ∀ {p : Prop}, p → Hid p from fun h => h) ?_
  clear k0 k1 k2 k3 HT0
  obtain ⟨⟨⟨k0, k1⟩, k2, k3⟩, _⟩ := HC.out _ G0
  have HT1 := hideIt (HT.out f.2 w0 G0)
  go_wp2_with (go_at_call 22; refine HT1.out.mono ?_; rintro e w1 ⟨rfl, G1⟩; refine Hid.out ?_)
  refine (show ∀ {p : Prop}, p → Hid p from fun h => h) ?_
  clear k0 k1 k2 k3 HT1
  · skip
    obtain ⟨⟨⟨k0, k1⟩, k2, k3⟩, _⟩ := HC.out _ G1
    have HE1 := hideIt (HE.out _ G1)
    cases hE : eB N f with
    | false =>
      rw [hE] at HE1
      have HL := hideIt (linkO_no (N := N) (ts := ts) (e := f) (fun h => by rw [hE] at h; exact absurd h.2.1 (by simp)))
      clear hE
      go_wp2_with (go_at_call 46; refine HE1.out.mono ?_; rintro e w2 ⟨rfl, G2⟩; refine Hid.out ?_)
      refine (show ∀ {p : Prop}, p → Hid p from fun h => h) ?_
      obtain ⟨⟨r0, r1⟩, r2, r3⟩ := HO.out _ (by rw [← hsz]; exact G2)
      have HN2 := hideIt (HNo.out _ G2 HL.out)
      clear k0 k1 k2 k3
      go_wp2
      exact bodyPost_ret (v := .tuple #[.agg #[.int .i64 0, .slice none 0 0], .bool false]) (by simp [results, Try.results23, go_sem, r0, r1]) rfl HN2.out
    | true =>
      rw [hE] at HE1
      by_cases hP : FP N ts
      · obtain ⟨M, rfl, hM1, hM2⟩ := FP_nat hP
        obtain ⟨i, j, p, q, hi, hj, hu, hv⟩ := edge_at hP hE
        have e1 : treeO (M : Int) ts f.1 = (i : Int) := (treeO_yes hP f.1).trans (trI_of hP.q hi hu)
        have e2 : treeO (M : Int) ts f.2 = (j : Int) := (treeO_yes hP f.2).trans (trI_of hP.q hj hv)
        rw [e1, e2]
        have hil := (List.getElem?_eq_some_iff.1 hi).1
        have hjl := (List.getElem?_eq_some_iff.1 hj).1
        rcases HA.out.2 with hz | ⟨b, off, rfl, hbl, hc⟩
        · omega
        · obtain ⟨x, cx, ci, ii, hcx⟩ := hc i p hi
          obtain ⟨y, cy, cj, ij, hcy⟩ := hc j q hj
          have hp := tB_len (hP.q.1 p (List.mem_of_getElem? hi)).1
          have hq := tB_len (hP.q.1 q (List.mem_of_getElem? hj)).1
          have HJ : Hid (∀ u, Good W u → Calls Try.prog 47 #[.slice x p.length cx, .int .i64 f.1, .slice y q.length cy, .int .i64 f.2] u fun e v => TAns u (joO p f.1 q f.2) e v) := fun u hu =>
            sJoinTours_any p f.1 q f.2 p.length x cx (by omega) hcx q.length y cy (by omega) hcy u (ii.up hu) (ij.up hu)
          have HC4 : Hid (∀ u, Good W u → (((u.cell? ⟨w.heap.size, 0, none⟩ = some (.int .i64 (M : Int)) ∧ u.cell? ⟨w.heap.size, 1, none⟩ = some (.slice (some ⟨b, off, none⟩) n c)) ∧ u.cell? ⟨w.heap.size + 1, 0, none⟩ = some (.int .i64 f.1) ∧ u.cell? ⟨w.heap.size + 1, 1, none⟩ = some (.int .i64 f.2)) ∧ u.cell? ⟨b, off + i, none⟩ = some (.slice x p.length cx) ∧ u.cell? ⟨b, off + j, none⟩ = some (.slice y q.length cy)) ∧ Good W u) := fun u hu =>
            ⟨⟨(HC.out u hu).1, by rw [hu.cell hbl]; exact ci, by rw [hu.cell hbl]; exact cj⟩, hu⟩
          have b1 : (0 : Int) ≤ (i : Int) := by omega
          have b2 : (i : Int) < (n : Int) := by omega
          have b3 : (0 : Int) ≤ (j : Int) := by omega
          have b4 : (j : Int) < (n : Int) := by omega
          have d1 : decide ((i : Int) < 0) = false := decide_eq_false (by omega)
          have d2 : decide ((j : Int) < 0) = false := decide_eq_false (by omega)
          have HAw2 := HAw
          clear hc ii ij ci cj e1 e2
          go_wp2_with (go_at_call 46; refine HE1.out.mono ?_; rintro e w2 ⟨rfl, G2⟩; refine Hid.out ?_)
          refine (show ∀ {p : Prop}, p → Hid p from fun h => h) ?_
          have g2d : Good W w2.drew := G2.drew
          have hS2 := HC4.out _ g2d
          clear k0 k1 k2 k3 HE1
          by_cases hij : i = j
          · subst hij
            have HL := hideIt (linkO_no (N := (M : Int)) (ts := ts) (e := f) (fun h => h.2.2 ((trI_of hP.q hi hu).trans (trI_of hP.q hj hv).symm)))
            have d3 : ((i : Int) == (i : Int)) = true := by simp
            obtain ⟨⟨r0, r1⟩, r2, r3⟩ := HO.out _ (by rw [← hsz]; exact G2)
            have HN2 := hideIt (HNo.out _ G2 HL.out)
            clear hi hj hu hv hE HJ hP
            go_wp2
            exact bodyPost_ret (v := .tuple #[.agg #[.int .i64 0, .slice none 0 0], .bool false]) (by simp [results, Try.results23, go_sem, r0, r1]) rfl HN2.out
          · obtain ⟨J, hJ, LK⟩ := lk_is hP hi hj hij hu hv
            rw [hJ] at HJ
            have d3 : ((i : Int) == (j : Int)) = false := by simp; omega
            have HL := hideIt (linkO_yes hP hE hi hj hu hv hij hJ)
            have hJB := LK.jo.ok
            have hJl := tB_len hJB
            have hFQ := link_fq hP hi hj hu hv hij hJ
            have HJ2 : Hid (∀ u, Good W u → Calls Try.prog 47 #[.slice x p.length cx, .int .i64 f.1, .slice y q.length cy, .int .i64 f.2] u fun e v => ∃ g cJ, e = .returned (.tuple #[.slice (some ⟨g, 0, none⟩) J.length cJ, .bool true]) ∧ ((Is v v.heap.size (some ⟨g, 0, none⟩) J.length J ∧ J.length ≤ cJ) ∧ w.heap.size + 3 ≤ g) ∧ Good W v) := fun u hu =>
              (HJ.out u hu).mono fun _ v ⟨aJ, mJ, cJ, he, ho, hb⟩ => by
                have ho' : v.ownsRow u.heap.size 3 1 (.slice aJ mJ cJ) mJ (ic J) := ho
                have hm : mJ = J.length := by have := ho'.1; rw [ic_len] at this; omega
                subst hm
                obtain ⟨g, rfl, _, hg⟩ := own_some ho' (by omega)
                exact ⟨g, cJ, he, ⟨⟨Is_of_own ho', (RwB.of_own ho').cap⟩, by have := hu.size; omega⟩, hu.up hb⟩
            have HWi : Hid (∀ u no ao bi, Good W u → Is u u.heap.size ao 2 [(i : Int), (j : Int)] → Ts u u.heap.size (some ⟨bi, 0, none⟩) 1 [J] → no = 2 → Calls Try.prog 48 #[.agg #[.int .i64 (M : Int), .slice (some ⟨b, off, none⟩) n c], .slice ao 2 2, .slice (some ⟨bi, 0, none⟩) 1 1] u fun e v => ∃ a' m' c' hs, e = .returned (.agg #[.int .i64 (M : Int), .slice a' m' c']) ∧ (v.ownsRow u.heap.size 50 1 (.slice a' m' c') m' hs ∧ HdT v v.heap.size hs (srtK (woK ts [i, j] ts.length ++ [J]) M) ∧ ∀ y ∈ hs, NewOr u bi 0 y) ∧ Good W v) := fun u no ao bi hu hI hT _ => by
              have hFQ' := hFQ
              rw [hlen] at hFQ'
              refine (l07With_any M ts [i, j] [J] n (some ⟨b, off, none⟩) c 2 ao 2 1 bi 0 1 hP hFQ' (by omega) (by omega) (by omega) u (HA.out.up hu) hI hT).mono ?_
              rintro e v ⟨a', m', c', hs, he, h1, h2⟩
              exact ⟨a', m', c', hs, he, by rw [hlen]; exact h1, hu.up h2⟩
            clear hi hj hu hv hE HJ hP LK hJ hFQ
            go_upto_region 5 with fail
            go_region_held3 (fun u => (((u.cell? ⟨w.heap.size, 0, none⟩ = some (.int .i64 (M : Int)) ∧ u.cell? ⟨w.heap.size, 1, none⟩ = some (.slice (some ⟨b, off, none⟩) n c)) ∧ u.cell? ⟨w.heap.size + 1, 0, none⟩ = some (.int .i64 f.1) ∧ u.cell? ⟨w.heap.size + 1, 1, none⟩ = some (.int .i64 f.2)) ∧ u.cell? ⟨b, off + i, none⟩ = some (.slice x p.length cx) ∧ u.cell? ⟨b, off + j, none⟩ = some (.slice y q.length cy)) ∧ Good W u)
              (first | assumption)
              (first | (go_at_call 47; refine (HJ2.out _ (And.right (by assumption))).mono ?_; rintro e w3 ⟨g, cJ, rfl, hIJ, G3⟩; have hS3 := HC4.out _ G3))
            all_goals
              obtain ⟨⟨⟨k0, k1⟩, k2, k3⟩, _⟩ := HC.out _ G3
              have g4 : Good w3 (w3.alloc (.cells #[.int .i64 (i : Int), .int .i64 (j : Int)] 3)) := (Good.refl w3).alloc _
              have g5 : Good (w3.alloc (.cells #[.int .i64 (i : Int), .int .i64 (j : Int)] 3)) ((w3.alloc (.cells #[.int .i64 (i : Int), .int .i64 (j : Int)] 3)).alloc (.cells #[.slice (some ⟨g, 0, none⟩) J.length cJ] 50)) := (Good.refl _).alloc _
              have HR3 := hideIt (HWi.out _ 2 _ (w3.heap.size + 1) (G3.up (g4.up g5)) ((is_two (w := w3)).up g5) (by have := ts_one (cx := cJ) (hIJ.1.1.up g4) hIJ.1.2; simpa using this) rfl)
              have HNO : Hid (∀ y, NewOr ((w3.alloc (.cells #[.int .i64 (i : Int), .int .i64 (j : Int)] 3)).alloc (.cells #[.slice (some ⟨g, 0, none⟩) J.length cJ] 50)) (w3.heap.size + 1) 0 y → HdL (w.heap.size + 3) y) := fun y hy b off s n c e => by
                have hs3 := G3.size
                rcases hy with hy | ⟨q, hq⟩
                · have := hy b off s n c e
                  simp at this
                  omega
                · rcases q with _ | q
                  · simp [go_sem] at hq
                    rw [← hq] at e
                    simp at e
                    have := hIJ.2
                    omega
                  · have hh : (((w3.alloc (.cells #[.int .i64 (i : Int), .int .i64 (j : Int)] 3)).alloc (.cells #[.slice (some ⟨g, 0, none⟩) J.length cJ] 50))).heap[w3.heap.size + 1]? = some (.cells #[.slice (some ⟨g, 0, none⟩) J.length cJ] 50 (0, 0)) := by
                      have := heap_alloc_new (w3.alloc (.cells #[.int .i64 (i : Int), .int .i64 (j : Int)] 3)) (.cells #[.slice (some ⟨g, 0, none⟩) J.length cJ] 50)
                      simpa using this
                    rw [cell_of_row _ _ _ _ _ _ hh] at hq
                    simp at hq
              clear HWi hIJ HJ2 HT HE HC4 hS2 hS3 g4 g5
              go_wp2_with (go_at_call 48; refine HR3.out.mono ?_; rintro e w4 ⟨a4, m4, c4, hs4, rfl, F4, G4⟩; refine Hid.out ?_)
              refine (show ∀ {p : Prop}, p → Hid p from fun h => h) ?_
              obtain ⟨⟨r0, r1⟩, r2, r3⟩ := HO.out _ (by rw [← hsz]; exact G4)
              have hs3 := G3.size
              have HF5 := hideIt (with_set (X := w.heap.size + 2) ⟨F4.1, F4.2.1⟩ (by simp; omega) (fun y hy => (HNO.out y (F4.2.2 y hy)).ne (by omega)) (.int .i64 (M : Int)) (.slice a4 m4 c4))
              have HLo : Hid (∀ y ∈ hs4, HdL w.heap.size y) := fun y hy => (HNO.out y (F4.2.2 y hy)).mono (by omega)
              have hlo5 : w.heap.size ≤ ((w3.alloc (.cells #[.int .i64 (i : Int), .int .i64 (j : Int)] 3)).alloc (.cells #[.slice (some ⟨g, 0, none⟩) J.length cJ] 50)).heap.size := by simp; omega
              have HB5 : Hid (Below w.heap.size w ((w4.setCell ⟨w.heap.size + 2, 0, none⟩ (.int .i64 (M : Int))).setCell ⟨w.heap.size + 2, 1, none⟩ (.slice a4 m4 c4))) := ((HGW.out.up G4).setCell (p := ⟨w.heap.size + 2, 0, none⟩) (by show w.heap.size ≤ w.heap.size + 2; omega) _).setCell (p := ⟨w.heap.size + 2, 1, none⟩) (by show w.heap.size ≤ w.heap.size + 2; omega) _
              clear F4 G4 k0 k1 k2 k3 HNO
              go_wp2
              exact bodyPost_ret (v := .tuple #[.agg #[.int .i64 (M : Int), .slice a4 m4 c4], .bool true]) (by simp [results, Try.results23, go_sem, r0, r1]) rfl ⟨a4, m4, c4, hs4, by rw [HL.out]; rfl, by rw [HL.out]; exact ⟨own_mono HF5.out.1 hlo5, HF5.out.2, HLo.out⟩, HB5.out⟩
      · have HL := hideIt (linkO_no (N := N) (ts := ts) (e := f) (fun h => hP h.1))
        have e1 := treeO_no hP f.1
        have d1 : decide ((-1 : Int) < 0) = true := by decide
        have e2 := treeO_no hP f.2
        rw [e1, e2]
        clear hE e1 e2
        go_wp2_with (go_at_call 46; refine HE1.out.mono ?_; rintro e w2 ⟨rfl, G2⟩; refine Hid.out ?_)
        refine (show ∀ {p : Prop}, p → Hid p from fun h => h) ?_
        obtain ⟨⟨r0, r1⟩, r2, r3⟩ := HO.out _ (by rw [← hsz]; exact G2)
        have HN2 := hideIt (HNo.out _ G2 HL.out)
        clear k0 k1 k2 k3
        go_wp2
        exact bodyPost_ret (v := .tuple #[.agg #[.int .i64 0, .slice none 0 0], .bool false]) (by simp [results, Try.results23, go_sem, r0, r1]) rfl HN2.out
end Go.Proofs.Ytcpffonenhhfoaa
namespace Go.Proofs.Ytcpffonenhhfoaa
open Go.RowKit

set_option maxRecDepth 100000 in
set_option maxHeartbeats 8000000 in
theorem iLink_any (N : Int) (ts : List (List Int)) (f : EdgeV) (n : Nat) (a : Option Addr) (c : Nat) (hn : n + lnS ts ≤ 1048576) (w : World) (h : Ts w w.heap.size a n ts) :
    Calls Try.prog 25 #[.agg #[.int .i64 N, .slice a n c], .agg #[.int .i64 f.1, .int .i64 f.2]] w fun e w' => FAns w N (linkO N ts f) e w' := by
  obtain ⟨W, hW⟩ : ∃ W, W = w3of w N a n c f := ⟨_, rfl⟩
  have hsz : W.heap.size = w.heap.size + 3 := by rw [hW, w3_size]
  have gW : Good w W := by rw [hW]; exact w3_good _ _ _ _ _ _
  have HA := hideIt (h.up gW)
  have HAw := hideIt h
  have hlen := h.1
  have HT : Hid (∀ x u, Good W u → Calls Try.prog 12 #[.agg #[.int .i64 N, .slice a n c], .int .i64 x] u fun e v => e = .returned (.int .i64 (treeO N ts x)) ∧ Good W v) := fun x u hu =>
    (iTreeOf_any N ts x n a c hn u (HA.out.up hu)).mono fun _ _ ⟨he, hb⟩ => ⟨he, hu.up hb⟩
  have HE : Hid (∀ u, Good W u → Calls Try.prog 49 #[.int .i64 N, .agg #[.int .i64 f.1, .int .i64 f.2]] u fun e v => e = .returned (.bool (eB N f)) ∧ Good W v) := fun u hu =>
    (iEdgeOk_any N f u).mono fun _ _ ⟨he, hb⟩ => ⟨he, hu.up hb⟩
  have HC : Hid (∀ u, Good W u → ((u.cell? ⟨w.heap.size, 0, none⟩ = some (.int .i64 N) ∧ u.cell? ⟨w.heap.size, 1, none⟩ = some (.slice a n c)) ∧ u.cell? ⟨w.heap.size + 1, 0, none⟩ = some (.int .i64 f.1) ∧ u.cell? ⟨w.heap.size + 1, 1, none⟩ = some (.int .i64 f.2)) ∧ Good W u) := fun u hu => ⟨w3_cells (hW ▸ hu), hu⟩
  have HO : Hid (∀ u, Below (w.heap.size + 3) W u → (u.cell? ⟨w.heap.size + 2, 0, none⟩ = some (.int .i64 0) ∧ u.cell? ⟨w.heap.size + 2, 1, none⟩ = some (.slice none 0 0)) ∧ u.frozen? ⟨w.heap.size + 2, 0, none⟩ = false ∧ u.frozen? ⟨w.heap.size + 2, 1, none⟩ = false) := fun u hu => w3_out (hW ▸ hu)
  have HNo : Hid (∀ u, Good W u → linkO N ts f = none → FAns w N (linkO N ts f) (.returned (.tuple #[.agg #[.int .i64 0, .slice none 0 0], .bool false])) ((u.setCell ⟨w.heap.size + 2, 0, none⟩ (.int .i64 0)).setCell ⟨w.heap.size + 2, 1, none⟩ (.slice none 0 0))) := fun u hu ho =>
    fans_no ho (((gW.up hu).setCell (p := ⟨w.heap.size + 2, 0, none⟩) (by show w.heap.size ≤ w.heap.size + 2; omega) _).setCell (p := ⟨w.heap.size + 2, 1, none⟩) (by show w.heap.size ≤ w.heap.size + 2; omega) _)
  have HS0 := hideIt (HC.out _ (Good.refl W).drew)
  have HGW := hideIt gW
  go_enter Try.func25, Try.ntmps25
  go_upto_region 1 with fail
  clear h gW
  have hW' : (((w.alloc (.cells #[.int .i64 N, .slice a n c] 27)).alloc (.cells #[.int .i64 f.1, .int .i64 f.2] 44)).alloc (.cells #[.int .i64 0, .slice none 0 0] 27)) = W := hW.symm
  rw [hW']
  clear hW hW'
  go_cut [6, 7] (fun p q wx => p = .int .i64 (treeO N ts f.1) ∧ q = .int .i64 (treeO N ts f.2) ∧ Good W wx)
  case first =>
    have hS0 := HS0.out
    go_region_held3 (fun u => ((u.cell? ⟨w.heap.size, 0, none⟩ = some (.int .i64 N) ∧ u.cell? ⟨w.heap.size, 1, none⟩ = some (.slice a n c)) ∧ u.cell? ⟨w.heap.size + 1, 0, none⟩ = some (.int .i64 f.1) ∧ u.cell? ⟨w.heap.size + 1, 1, none⟩ = some (.int .i64 f.2)) ∧ Good W u)
      (first | assumption)
      (first | (go_at_call 12; refine (HT.out _ _ (And.right (by assumption))).mono ?_; rintro e w1 ⟨rfl, hg1⟩; have hS1 := HC.out _ hg1))
    all_goals
      go_wp2_with fail
      go_meet
      exact ⟨rfl, rfl, hg1⟩
  case rest =>
    obtain ⟨rfl, rfl, G1⟩ := hcut
    obtain ⟨⟨⟨k0, k1⟩, k2, k3⟩, _⟩ := HC.out _ G1
    have HE1 := hideIt (HE.out _ G1)
    cases hE : eB N f with
    | false =>
      rw [hE] at HE1
      have HL := hideIt (linkO_no (N := N) (ts := ts) (e := f) (fun h => by rw [hE] at h; exact absurd h.2.1 (by simp)))
      clear hE HS0
      go_wp2_with (go_at_call 49; refine HE1.out.mono ?_; rintro e w2 ⟨rfl, G2⟩; refine Hid.out ?_)
      refine (show ∀ {p : Prop}, p → Hid p from fun h => h) ?_
      obtain ⟨⟨r0, r1⟩, r2, r3⟩ := HO.out _ (by rw [← hsz]; exact G2)
      have HN2 := hideIt (HNo.out _ G2 HL.out)
      clear k0 k1 k2 k3
      go_wp2
      exact bodyPost_ret (v := .tuple #[.agg #[.int .i64 0, .slice none 0 0], .bool false]) (by simp [results, Try.results25, go_sem, r0, r1]) rfl HN2.out
    | true =>
      rw [hE] at HE1
      by_cases hP : FP N ts
      · obtain ⟨M, rfl, hM1, hM2⟩ := FP_nat hP
        obtain ⟨i, j, p, q, hi, hj, hu, hv⟩ := edge_at hP hE
        have e1 : treeO (M : Int) ts f.1 = (i : Int) := (treeO_yes hP f.1).trans (trI_of hP.q hi hu)
        have e2 : treeO (M : Int) ts f.2 = (j : Int) := (treeO_yes hP f.2).trans (trI_of hP.q hj hv)
        rw [e1, e2]
        have hil := (List.getElem?_eq_some_iff.1 hi).1
        have hjl := (List.getElem?_eq_some_iff.1 hj).1
        rcases HA.out.2 with hz | ⟨b, off, rfl, hbl, hc⟩
        · omega
        · obtain ⟨x, cx, ci, ii, hcx⟩ := hc i p hi
          obtain ⟨y, cy, cj, ij, hcy⟩ := hc j q hj
          have hp := tB_len (hP.q.1 p (List.mem_of_getElem? hi)).1
          have hq := tB_len (hP.q.1 q (List.mem_of_getElem? hj)).1
          have HJ : Hid (∀ u, Good W u → Calls Try.prog 50 #[.slice x p.length cx, .int .i64 f.1, .slice y q.length cy, .int .i64 f.2] u fun e v => TAns u (joO p f.1 q f.2) e v) := fun u hu =>
            iJoinTours_any p f.1 q f.2 p.length x cx (by omega) hcx q.length y cy (by omega) hcy u (ii.up hu) (ij.up hu)
          have HC4 : Hid (∀ u, Good W u → (((u.cell? ⟨w.heap.size, 0, none⟩ = some (.int .i64 (M : Int)) ∧ u.cell? ⟨w.heap.size, 1, none⟩ = some (.slice (some ⟨b, off, none⟩) n c)) ∧ u.cell? ⟨w.heap.size + 1, 0, none⟩ = some (.int .i64 f.1) ∧ u.cell? ⟨w.heap.size + 1, 1, none⟩ = some (.int .i64 f.2)) ∧ u.cell? ⟨b, off + i, none⟩ = some (.slice x p.length cx) ∧ u.cell? ⟨b, off + j, none⟩ = some (.slice y q.length cy)) ∧ Good W u) := fun u hu =>
            ⟨⟨(HC.out u hu).1, by rw [hu.cell hbl]; exact ci, by rw [hu.cell hbl]; exact cj⟩, hu⟩
          have b1 : (0 : Int) ≤ (i : Int) := by omega
          have b2 : (i : Int) < (n : Int) := by omega
          have b3 : (0 : Int) ≤ (j : Int) := by omega
          have b4 : (j : Int) < (n : Int) := by omega
          have d1 : decide ((i : Int) < 0) = false := decide_eq_false (by omega)
          have HAw2 := HAw
          have HSame : Hid (i = j → x = y ∧ cx = cy) := fun h => by
            subst h
            rw [ci] at cj
            simp at cj
            exact ⟨cj.1, cj.2.2⟩
          clear hc ii ij ci cj e1 e2 HS0
          go_wp2_with (go_at_call 49; refine HE1.out.mono ?_; rintro e w2 ⟨rfl, G2⟩; refine Hid.out ?_)
          refine (show ∀ {p : Prop}, p → Hid p from fun h => h) ?_
          have g2d : Good W w2.drew := G2.drew
          have hS2 := HC4.out _ g2d
          clear k0 k1 k2 k3 HE1
          by_cases hij : i = j
          · obtain ⟨rfl, rfl⟩ := HSame.out hij
            subst hij
            have hpq : p = q := by rw [hi] at hj; exact Option.some.inj hj
            subst hpq
            rw [jo_same hu] at HJ
            have HL := hideIt (linkO_no (N := (M : Int)) (ts := ts) (e := f) (fun h => h.2.2 ((trI_of hP.q hi hu).trans (trI_of hP.q hi hv).symm)))
            have HJ2 : Hid (∀ u, Good W u → Calls Try.prog 50 #[.slice x p.length cx, .int .i64 f.1, .slice x p.length cx, .int .i64 f.2] u fun e v => ∃ aJ mJ cJ, e = .returned (.tuple #[.slice aJ mJ cJ, .bool false]) ∧ Good W v) := fun u hu =>
              (HJ.out u hu).mono fun _ _ ⟨aJ, mJ, cJ, he, _, hb⟩ => ⟨aJ, mJ, cJ, he, hu.up hb⟩
            have HC5 : Hid (∀ u, Good W u → (((u.cell? ⟨w.heap.size, 0, none⟩ = some (.int .i64 (M : Int)) ∧ u.cell? ⟨w.heap.size, 1, none⟩ = some (.slice (some ⟨b, off, none⟩) n c)) ∧ u.cell? ⟨w.heap.size + 1, 0, none⟩ = some (.int .i64 f.1) ∧ u.cell? ⟨w.heap.size + 1, 1, none⟩ = some (.int .i64 f.2)) ∧ u.cell? ⟨b, off + i, none⟩ = some (.slice x p.length cx)) ∧ Good W u) := fun u hu => ⟨⟨(HC4.out u hu).1.1, (HC4.out u hu).1.2.1⟩, hu⟩
            have hS5 := HC5.out _ g2d
            clear hS2
            clear hi hj hu hv hE HJ hP
            go_upto_region 4 with fail
            go_region_held3 (fun u => (((u.cell? ⟨w.heap.size, 0, none⟩ = some (.int .i64 (M : Int)) ∧ u.cell? ⟨w.heap.size, 1, none⟩ = some (.slice (some ⟨b, off, none⟩) n c)) ∧ u.cell? ⟨w.heap.size + 1, 0, none⟩ = some (.int .i64 f.1) ∧ u.cell? ⟨w.heap.size + 1, 1, none⟩ = some (.int .i64 f.2)) ∧ u.cell? ⟨b, off + i, none⟩ = some (.slice x p.length cx)) ∧ Good W u)
              (first | assumption)
              (first | (go_at_call 50; refine (HJ2.out _ (And.right (by assumption))).mono ?_; rintro e w3 ⟨aJ, mJ, cJ, rfl, G3⟩; have hS3 := HC5.out _ G3))
            all_goals
              obtain ⟨⟨r0, r1⟩, r2, r3⟩ := HO.out _ (by rw [← hsz]; exact G3)
              have HN2 := hideIt (HNo.out _ G3 HL.out)
              go_wp2
              exact bodyPost_ret (v := .tuple #[.agg #[.int .i64 0, .slice none 0 0], .bool false]) (by simp [results, Try.results25, go_sem, r0, r1]) rfl HN2.out
          · obtain ⟨J, hJ, LK⟩ := lk_is hP hi hj hij hu hv
            rw [hJ] at HJ
            have HL := hideIt (linkO_yes hP hE hi hj hu hv hij hJ)
            have hJB := LK.jo.ok
            have hJl := tB_len hJB
            have hFQ := link_fq hP hi hj hu hv hij hJ
            have hWo := wo_stay hP.q hi hj hu hv
            have HJ2 : Hid (∀ u, Good W u → Calls Try.prog 50 #[.slice x p.length cx, .int .i64 f.1, .slice y q.length cy, .int .i64 f.2] u fun e v => ∃ g cJ, e = .returned (.tuple #[.slice (some ⟨g, 0, none⟩) J.length cJ, .bool true]) ∧ RwB v ⟨g, cJ, J⟩ ∧ w.heap.size + 3 ≤ g ∧ Good W v) := fun u hu =>
              (HJ.out u hu).mono fun _ v ⟨aJ, mJ, cJ, he, ho, hb⟩ => by
                have ho' : v.ownsRow u.heap.size 3 1 (.slice aJ mJ cJ) mJ (ic J) := ho
                have hm : mJ = J.length := by have := ho'.1; rw [ic_len] at this; omega
                subst hm
                obtain ⟨g, rfl, _, hg⟩ := own_some ho' (by omega)
                exact ⟨g, cJ, he, RwB.of_own ho', by have := hu.size; omega, hu.up hb⟩
            have HRep : Hid (∀ (u : World) (R0 : List Rw) (a1 : Option Addr) (c1 : Nat × Nat), lnS ts ≤ 1048576 → R0 = [(⟨c1.1, c1.2, J⟩ : Rw)] → Below (w.heap.size + 3) W u → FB u (w.heap.size + 3) u.heap.size a1 1 1 R0 → Calls Try.prog 51 #[.agg #[.int .i64 (M : Int), .slice (some ⟨b, off, none⟩) n c], .agg #[.int .i64 f.1, .int .i64 f.2], .slice a1 1 1] u fun e v => ∃ a' m' c' R, e = .returned (.agg #[.int .i64 (M : Int), .slice a' m' c']) ∧ FB v (w.heap.size + 3) v.heap.size a' m' c' R ∧ rts R = srtK (woK ts [i, j] ts.length ++ [J]) M ∧ Below (w.heap.size + 3) W v) := fun u R0 a1 c1 _ hR0 hu hF => by
              subst hR0
              have hst : woK ts [i, j] ts.length = stay ts f.1 f.2 := hWo
              have hpm : (rts [(⟨c1.1, c1.2, J⟩ : Rw)] ++ stay ts f.1 f.2).Perm (woK ts [i, j] ts.length ++ [J]) := by
                rw [hst]
                exact List.perm_append_comm (l₁ := [J])
              refine (replanted_any (M : Int) ts f.1 f.2 n (some ⟨b, off, none⟩) c (w.heap.size + 3) _ 1 a1 1 hP (by omega) (by omega) (hFQ.perm hpm.symm) u (by have := hu.size; omega) (((HAw2.out.up HGW.out).mono (Nat.le_of_eq hsz)).below hu (Nat.le_refl _)) hF).mono ?_
              rintro e v ⟨a', m', c', R, he, h1, h2, h3, h4⟩
              exact ⟨a', m', c', R, he, h1, ord_is hM1 hM2 hFQ (h2.trans hpm) h3, hu.trans h4⟩
            clear hi hj hu hv hE HJ hP LK hJ hFQ hWo
            go_upto_region 4 with fail
            go_region_held3 (fun u => (((u.cell? ⟨w.heap.size, 0, none⟩ = some (.int .i64 (M : Int)) ∧ u.cell? ⟨w.heap.size, 1, none⟩ = some (.slice (some ⟨b, off, none⟩) n c)) ∧ u.cell? ⟨w.heap.size + 1, 0, none⟩ = some (.int .i64 f.1) ∧ u.cell? ⟨w.heap.size + 1, 1, none⟩ = some (.int .i64 f.2)) ∧ u.cell? ⟨b, off + i, none⟩ = some (.slice x p.length cx) ∧ u.cell? ⟨b, off + j, none⟩ = some (.slice y q.length cy)) ∧ Good W u)
              (first | assumption)
              (first | (go_at_call 50; refine (HJ2.out _ (And.right (by assumption))).mono ?_; rintro e w3 ⟨g, cJ, rfl, hrw, hgg, G3⟩; have hS3 := HC4.out _ G3))
            all_goals
              obtain ⟨⟨⟨k0, k1⟩, k2, k3⟩, _⟩ := HC.out _ G3
              have B3 : Below (w.heap.size + 3) W (w3.alloc (.cells #[.slice (some ⟨g, 0, none⟩) J.length cJ] 50)) := by rw [← hsz]; exact G3.alloc _
              have hs3 := G3.size
              have HFb : FB (w3.alloc (.cells #[.slice (some ⟨g, 0, none⟩) J.length cJ] 50)) (w.heap.size + 3) (w3.alloc (.cells #[.slice (some ⟨g, 0, none⟩) J.length cJ] 50)).heap.size (some ⟨w3.heap.size, 0, none⟩) 1 1 [⟨g, cJ, J⟩] := by
                have h0 := World.ownsRow_lit (base := w.heap.size + 3) (e := 50) (size := 1) w3 #[.slice (some ⟨g, 0, none⟩) J.length cJ] 1 (by omega) (by unfold maxLen; omega) (by simp)
                have hr2 : RwB (w3.alloc (.cells #[.slice (some ⟨g, 0, none⟩) J.length cJ] 50)) ⟨g, cJ, J⟩ := hrw.rng (l2 := g + 1) (h2 := g + 1) (Rng.of_below ((Below.refl _ _).alloc (Nat.le_refl _) _)) (.inl (Nat.le_refl _))
                exact ⟨rfl, h0, fun x hx => (h0.lt x hx).2, Nat.le_refl _, fun r hr => by
                  simp at hr
                  subst hr
                  exact ⟨hr2, hgg, hr2.lt⟩, by simp⟩
              have HR3 := hideIt (HRep.out _ _ _ (g, cJ) (by omega) rfl B3 HFb)
              clear HRep HFb hrw B3 HJ2 HT HE HC4 hS2 hS3
              go_wp2_with (go_at_call 51; refine HR3.out.mono ?_; rintro e w4 ⟨a4, m4, c4, R4, rfl, F4, r4, B4⟩; refine Hid.out ?_)
              refine (show ∀ {p : Prop}, p → Hid p from fun h => h) ?_
              obtain ⟨⟨r0, r1⟩, r2, r3⟩ := HO.out _ B4
              have HF5 := hideIt ((F4.setLow (x := w.heap.size + 2) (by omega) 0 (.int .i64 (M : Int))).setLow (x := w.heap.size + 2) (by omega) 1 (.slice a4 m4 c4))
              have HB5 : Hid (Below w.heap.size w ((w4.setCell ⟨w.heap.size + 2, 0, none⟩ (.int .i64 (M : Int))).setCell ⟨w.heap.size + 2, 1, none⟩ (.slice a4 m4 c4))) := ((HGW.out.trans (B4.mono (by omega))).setCell (p := ⟨w.heap.size + 2, 0, none⟩) (by show w.heap.size ≤ w.heap.size + 2; omega) _).setCell (p := ⟨w.heap.size + 2, 1, none⟩) (by show w.heap.size ≤ w.heap.size + 2; omega) _
              have HR4 := hideIt r4
              clear F4 B4 r4 k0 k1 k2 k3
              go_wp2
              exact bodyPost_ret (v := .tuple #[.agg #[.int .i64 (M : Int), .slice a4 m4 c4], .bool true]) (by simp [results, Try.results25, go_sem, r0, r1]) rfl ⟨a4, m4, c4, R4, by rw [HL.out]; rfl, (HF5.out.lo (by omega)).hi (by simp [World.setCell]) (by simp [World.setCell]), by rw [HL.out, HR4.out]; rfl, HB5.out⟩
      · have HL := hideIt (linkO_no (N := N) (ts := ts) (e := f) (fun h => hP h.1))
        have e1 := treeO_no hP f.1
        have d1 : decide ((-1 : Int) < 0) = true := by decide
        rw [e1]
        clear hE HS0 e1
        go_wp2_with (go_at_call 49; refine HE1.out.mono ?_; rintro e w2 ⟨rfl, G2⟩; refine Hid.out ?_)
        refine (show ∀ {p : Prop}, p → Hid p from fun h => h) ?_
        obtain ⟨⟨r0, r1⟩, r2, r3⟩ := HO.out _ (by rw [← hsz]; exact G2)
        have HN2 := hideIt (HNo.out _ G2 HL.out)
        clear k0 k1 k2 k3
        go_wp2
        exact bodyPost_ret (v := .tuple #[.agg #[.int .i64 0, .slice none 0 0], .bool false]) (by simp [results, Try.results25, go_sem, r0, r1]) rfl HN2.out
end Go.Proofs.Ytcpffonenhhfoaa
namespace Go.Proofs.Ytcpffonenhhfoaa
open Go.RowKit

/-- an edge as the machine bears it -/
def FitE7 (f : EdgeV) : Prop := (Lit.int .i64 f.1).wf = true ∧ (Lit.int .i64 f.2).wf = true
theorem FP_small {N : Int} {ts : List (List Int)} (h : FP N ts) : ts.length + lnS ts ≤ 1000 := by
  have h1 := h.2.2.1
  have h2 : ∀ l : List (List Int), (∀ t ∈ l, tB t = true) → lnS l ≤ 23 * l.length := fun l hl => by
    induction l with
    | nil => simp [lnS]
    | cons t r ih =>
      have h3 := tB_len (hl t (by simp))
      have h4 := ih fun s hs => hl s (by simp [hs])
      simp only [lnS, List.map_cons, List.sum_cons, List.length_cons] at h4 ⊢
      omega
  have h5 := h2 ts fun t ht => (h.q.1 t ht).1
  omega
theorem linkO_len {N : Int} {ts : List (List Int)} {x : EdgeV} : ((linkO N ts x).getD []).length + lnS ((linkO N ts x).getD []) ≤ 1000 := by
  by_cases h : FP N ts ∧ eB N x = true ∧ trI ts x.1 ≠ trI ts x.2
  · obtain ⟨M, rfl, hM1, hM2⟩ := FP_nat h.1
    obtain ⟨i, j, p, q, hi, hj, hu, hv⟩ := edge_at h.1 h.2.1
    have hij : i ≠ j := fun e => h.2.2 (by rw [trI_of h.1.q hi hu, trI_of h.1.q hj hv, e])
    obtain ⟨J, hJ, LK⟩ := lk_is h.1 hi hj hij hu hv
    rw [linkO_yes h.1 h.2.1 hi hj hu hv hij hJ]
    exact FP_small (FP_srt hM1 hM2 (link_fq h.1 hi hj hu hv hij hJ))
  · rw [linkO_no h]
    simp [lnS]
set_option maxRecDepth 100000 in
set_option maxHeartbeats 8000000 in
theorem fnExactLink.walk (N : Int) (_hN : (Lit.int .i64 N).wf = true) (fs : List (List Int)) (hft : ∀ f ∈ fs, f.length ≤ maxLen) (n : Nat) (a : Option Addr) (c : Nat) (hn : n ≤ maxLen) (x : EdgeV) (_hx : FitE7 x) (w : World) (h : Ts w w.heap.size a n fs) :
    Calls Try.prog 7 #[.agg #[.int .i64 N, .slice a n c], .agg #[.int .i64 x.1, .int .i64 x.2]] w fun e w' => e = .returned (.bool true) ∧ Below w.heap.size w w' := by
  have HS := hideIt (szForest_any N fs n a c hn hft (lw7 w N a n c x) (h.up (LG7.start w N a n c x).below))
  have HF := hideIt h
  have HB := hideIt (LG7.start w N a n c x).below
  clear h
  by_cases hn1 : n + lnS fs ≤ 1048576
  · have d1 : decide (szv n fs < 0) = false := decide_eq_false (by unfold szv; rw [if_pos hn1]; omega)
    generalize szv n fs = zz0 at *
    have hgl := linkO_len (N := N) (ts := fs) (x := x)
    have HDs := hideIt (fun u0 u (hu : Good u0 u) B g R ho (hR : Hid (rts R = fs)) => ans_S (fun g w h => sLink_any N fs x n (some ⟨g, 0, none⟩) n hn1 w h) hu (B := B) (g := g) (R := R) ho hR.out)
    have HDi := hideIt (fun u0 u (hu : Good u0 u) B g R ho (hR : Hid (rts R = fs)) => ans_I (fun g w h => iLink_any N fs x n (some ⟨g, 0, none⟩) n hn1 w h) hu (B := B) (g := g) (R := R) ho hR.out)
    have HA := hideIt (fun u0 u (hu : Good u0 u) B m aa R ho => toEdge_G7 x hu (B := B) (n := m) (aa := aa) (R := R) ho)
    generalize (if (linkO N fs x).isSome then N else 0) = M at *
    generalize (linkO N fs x).isSome = fl at *
    generalize (linkO N fs x).getD [] = gs at *
    have hff : (fl != fl) = false := by simp
    go_enter Try.func7, Try.ntmps7
    go_wp2_with (go_at_call 18; refine (show Calls Try.prog 18 _ (lw7 w N a n c x) _ from HS.out).mono ?_; rintro e w2 ⟨rfl, hb1⟩; refine Hid.out ?_)
    refine (show ∀ {p : Prop}, p → Hid p from fun h => h) ?_
    have L2 : LG7 w N a n c x w2 := (LG7.start w N a n c x).up hb1
    clear hb1 HS
    obtain ⟨⟨c0, c1⟩, c2, c3⟩ := L2.cells
    have HC := hideIt (fun u (hu : Good w2 u) => And.intro (L2.good hu).cells hu)
    have hS2 := HC.out _ (Good.refl w2).drew
    have zz := L2.size
    go_upto_region 5 with fail
    go_cut [6, 7] (fun p ok wx => ∃ b aw mw cw, p = .pointer (some ⟨b, 0, none⟩) ∧ ok = .bool fl ∧ Good w2 wx ∧ TBox wx wx.heap.size b M aw mw cw gs)
    case first =>
      have HT := hideIt (fun u (hu : Good w2 u) => toForest_G N fs n a c hn1 (L2.ts HF.out) hu)
      go_region_held3 (fun u => ((u.cell? ⟨w.heap.size, 0, none⟩ = some (.int .i64 N) ∧ u.cell? ⟨w.heap.size, 1, none⟩ = some (.slice a n c)) ∧ u.cell? ⟨w.heap.size + 1, 0, none⟩ = some (.int .i64 x.1) ∧ u.cell? ⟨w.heap.size + 1, 1, none⟩ = some (.int .i64 x.2)) ∧ Good w2 u)
        (first | assumption | exact HC.out _ (Good.alloc (And.right (by assumption)) _) | exact HC.out _ (Good.set (Good.set (And.right (by assumption)) _ _ _ (by omega)) _ _ _ (by omega)))
        (first
          | (go_at_call 20; refine (HT.out _ (And.right (by assumption))).mono ?_; rintro e w3 ⟨g3, R3, rfl, ho3, hr3, hg3, hk3⟩; have hS3 := HC.out _ hg3; have z3 := hg3.size; try (have bx := hk3.nil (Box7.new w2 _ _ _ _ rfl)))
          | (go_at_call 24; refine (HA.out w2 _ (And.right (by assumption)) _ _ _ _ (by first | assumption | exact FB.keep (by assumption) ((Below.refl _ _).alloc (Nat.le_refl _) _))).mono ?_; rintro e w4 ⟨rfl, ho4, hg4, hk4⟩; have hS4 := HC.out _ hg4; have z4 := hg4.size; first | have bx := hk4.nil bx | have bx := hk4.nil (Box7.new w3 _ _ _ _ rfl) | skip)
          | (go_at_call 23; refine (HDs.out w2 _ (And.right (by assumption)) _ _ _ (by first | assumption | exact FB.keep (by assumption) ((Below.refl _ _).alloc (Nat.le_refl _) _)) hr3).mono ?_; rintro e w5 ⟨aw, mw, cw, hs5, rfl, ho5, hg5, hk5, hn5⟩; have hS5 := HC.out _ hg5; have z5 := hg5.size; (first | have nx := hn5 _ bx | have nx := hn5 _ (Box7.new w4 _ _ _ _ rfl) | skip); (first | have bx := hk5.nil bx | have bx := hk5.nil (Box7.new w4 _ _ _ _ rfl) | skip); try (have bc0 := bx.cell0; have bc1 := bx.cell1; have bz0 := bx.frozen 0; have bz1 := bx.frozen 1)))
      all_goals
        go_wp2_with fail
        go_meet
        first
          | exact ⟨_, aw, mw, cw, rfl, rfl, Good.set (Good.set hg5 _ _ _ (by omega)) _ _ _ (by omega), TBox.stored bx ho5.1 ho5.2 nx⟩
          | exact ⟨_, aw, mw, cw, rfl, rfl, Good.alloc hg5 _, TBox.laid ho5.1 ho5.2⟩
    case rest =>
      obtain ⟨b, aw, mw, cw, rfl, rfl, G3, DW⟩ := hcut
      have L3 := L2.good G3
      have z3 := L3.size
      clear c0 c1 c2 c3 HC hS2
      obtain ⟨⟨c0, c1⟩, c2, c3⟩ := L3.cells
      have HT3 := hideIt (toForest_G N fs n a c hn1 (L3.ts HF.out) (Good.refl wc))
      go_wp2_with (go_at_call 20; refine HT3.out.mono ?_; rintro e w4 ⟨g4, R4, rfl, ho4, hr4, hg4, _⟩; refine Hid.out ?_)
      refine (show ∀ {p : Prop}, p → Hid p from fun h => h) ?_
      clear HT3 c0 c1 c2 c3
      go_upto_region 7 with fail
      have hz4 := hg4.size
      have DX := OBox.laid (M := N) (lo := wc.heap.size) hz4 ho4
      have G4 := hg4.alloc (.cells #[.int .i64 N, .slice (some ⟨g4, 0, none⟩) n n] 27)
      have L4 := L3.good G4
      have DW4 := DW.up G4
      have hC0 : w.heap.size + 2 ≤ w2.heap.size := zz
      have hC1 : w2.heap.size ≤ wc.heap.size := G3.size
      clear ho4 hg4 DW G3 L3 z3 hz4
      obtain ⟨u1, bX, C1, e1, e2, e3⟩ : ∃ u1 bX C1, u1 = w4.alloc (.cells #[.int .i64 N, .slice (some ⟨g4, 0, none⟩) n n] 27) ∧ bX = w4.heap.size ∧ C1 = wc.heap.size := ⟨_, _, _, rfl, rfl, rfl⟩
      rw [← e1] at DX L4 DW4 G4 ⊢
      rw [← e2] at DX ⊢
      rw [← e3] at DX DW4 hC1
      clear e1 e2 e3 G4
      have z4 := L4.size
      have HC4 := hideIt (fun u (hu : Good u1 u) => And.intro (And.intro (DX.up hu).cells (L4.good hu).cells.2) hu)
      have hS4 := HC4.out _ (Good.refl u1).drew
      have hox := (show FB u1.drew C1 u1.drew.heap.size (some ⟨g4, 0, none⟩) n n R4 from (DX.fb.hi (Nat.le_refl _) DX.fb.there).up (Below.drew (Below.refl _ _)))
      have o1 := DX.cells.1
      have o2 := DX.cells.2
      go_cut [9, 10] (fun p ok wx => ∃ b2 ag mg cg Rg, p = .pointer (some ⟨b2, 0, none⟩) ∧ ok = .bool fl ∧ Good u1 wx ∧ Hid (rts Rg = gs) ∧ OBox wx u1.heap.size wx.heap.size b2 M ag mg cg Rg)
      case first =>
        go_region_held3 (fun u => ((u.cell? ⟨bX, 0, none⟩ = some (.int .i64 N) ∧ u.cell? ⟨bX, 1, none⟩ = some (.slice (some ⟨g4, 0, none⟩) n n)) ∧ u.cell? ⟨w.heap.size + 1, 0, none⟩ = some (.int .i64 x.1) ∧ u.cell? ⟨w.heap.size + 1, 1, none⟩ = some (.int .i64 x.2)) ∧ Good u1 u)
          (first | assumption | exact HC4.out _ (Good.alloc (And.right (by assumption)) _) | exact HC4.out _ (Good.set (Good.set (And.right (by assumption)) _ _ _ (by omega)) _ _ _ (by omega)))
          (first
            | (go_at_call 24; refine (HA.out u1 _ (And.right (by assumption)) C1 n (some ⟨g4, 0, none⟩) R4 (by first | assumption | exact FB.keep (by assumption) ((Below.refl _ _).alloc (Nat.le_refl _) _))).mono ?_; rintro e w5 ⟨rfl, ho5, hg5, hk5⟩; have hS5 := HC4.out _ hg5; have z5 := hg5.size; first | have bx := hk5.nil (Box7.new u1 _ _ _ _ rfl) | skip)
            | (go_at_call 25; refine (HDi.out u1 _ (And.right (by assumption)) C1 g4 R4 (by first | assumption | exact FB.keep (by assumption) ((Below.refl _ _).alloc (Nat.le_refl _) _)) hr4).mono ?_; rintro e w6 ⟨ag, mg, cg, Rg, rfl, ho6, hrg, hg6, hk6⟩; have hS6 := HC4.out _ hg6; have z6 := hg6.size; (first | have bx := hk6.nil bx | have bx := hk6.nil (Box7.new w5 _ _ _ _ rfl) | skip); try (have bc0 := bx.cell0; have bc1 := bx.cell1; have bz0 := bx.frozen 0; have bz1 := bx.frozen 1)))
        all_goals
          go_wp2_with fail
          go_meet
          first
            | exact ⟨_, ag, mg, cg, Rg, rfl, rfl, Good.set (Good.set hg6 _ _ _ (by omega)) _ _ _ (by omega), hrg, OBox.stored bx (by omega) ho6⟩
            | exact ⟨_, ag, mg, cg, Rg, rfl, rfl, Good.alloc hg6 _, hrg, OBox.laid (by omega) ho6⟩
      case rest =>
        obtain ⟨b2, ag, mg, cg, Rg, rfl, rfl, G5, hrg, DG⟩ := hcut
        have L5 := L4.good G5
        have DW5 := DW4.up G5
        have DX5 := DX.up G5
        have hC2 : C1 ≤ u1.heap.size := by have := DX.least; have := DX.most; omega
        have hmg : mg + lnS gs ≤ 1000 := by rw [← DG.fb.len, ← rts_len, hrg.out]; exact hgl
        have hrng : mg + rn Rg ≤ 1000 := by rw [rn_lnS, hrg.out]; exact hmg
        have hrn4 : n + rn R4 ≤ 1048576 := by rw [rn_lnS, hr4.out]; exact hn1
        clear HC4 hS4 hox o1 o2 DX DW4
        have q0 := DG.cells.1
        have q1 := DW5.cells.1
        have q2 := DG.cells.2
        have q3 := DW5.cells.2
        have HE5 := hideIt (eqOT DG DW5 hrg.out (by omega))
        go_wp2_with (go_at_call 15; refine HE5.out.mono ?_; rintro e w6 ⟨rfl, hb6⟩; refine Hid.out ?_)
        refine (show ∀ {p : Prop}, p → Hid p from fun h => h) ?_
        have L6 := L5.up hb6
        have DW6 := DW5.up hb6
        have DX6 := DX5.up hb6
        have DG6 := DG.up hb6
        have hz6 := hb6.size
        clear HE5 hb6 q0 q1 q2 q3 DG DW5 DX5 L5
        have HC6 := hideIt (fun u (hu : Good w6 u) => And.intro (And.intro (DX6.up hu).cells (L6.good hu).cells.1) hu)
        have hS6 := HC6.out _ (Good.refl w6).drew
        have HT6 := hideIt (fun u (hu : Good w6 u) => toForest_G N fs n a c hn1 (L6.ts HF.out) hu)
        have HX6 := hideIt (fun u (hu : Good w6 u) => (show Ts u u.heap.size (some ⟨g4, 0, none⟩) n fs from hr4.out ▸ (DX6.up hu).fb.ts))
        go_upto_region 10 with fail
        go_region_held3 (fun u => ((u.cell? ⟨bX, 0, none⟩ = some (.int .i64 N) ∧ u.cell? ⟨bX, 1, none⟩ = some (.slice (some ⟨g4, 0, none⟩) n n)) ∧ u.cell? ⟨w.heap.size, 0, none⟩ = some (.int .i64 N) ∧ u.cell? ⟨w.heap.size, 1, none⟩ = some (.slice a n c)) ∧ Good w6 u)
          (first | assumption)
          (first
            | (go_at_call 20; refine (HT6.out _ (And.right (by assumption))).mono ?_; rintro e w7 ⟨g7, R7, rfl, ho7, hr7, hg7, _⟩; have hS7 := HC6.out _ hg7)
            | (go_at_call 15; refine (eqForest_same N fs n _ _ _ _ hn1 _ (HX6.out _ hg7) (hr7.out ▸ ho7.ts)).mono ?_; rintro e w8 ⟨rfl, hb8⟩; have hg8 := hg7.up hb8; have hS8 := HC6.out _ hg8))
        have L8 := L6.good hg8
        have DW8 := DW6.up hg8
        have DX8 := DX6.up hg8
        have DG8 := DG6.up hg8
        have hz8 := hg8.size
        clear HC6 hS6 HT6 HX6 hS7 hS8 hg7 ho7 hb8 L6 DW6 DX6 DG6
        have q2 := DX8.cells.1
        have q3 := DX8.cells.2
        have HM8 := hideIt (markOB DX8 1 hrn4 (by omega))
        go_wp2_with (go_at_call 16; refine HM8.out.mono ?_; rintro e w9 ⟨rfl, hDX9, hr9⟩; refine Hid.out ?_)
        refine (show ∀ {p : Prop}, p → Hid p from fun h => h) ?_
        have L9 := L8.rng hr9 (by omega)
        have DW9 := DW8.rng hr9 (Nat.le_refl _)
        have DG9 := DG8.rng hr9 (.inr (Nat.le_refl _))
        clear HM8 q2 q3 L8 DW8 DX8 DG8 hr9 hDX9
        have d3 : decide ((1 : Int) + (rn R4 : Int) < 0) = false := decide_eq_false (by omega)
        have q0 := DG9.cells.1
        have q1 := DW9.cells.1
        have q2 := DG9.cells.2
        have q3 := DW9.cells.2
        have HE9 := hideIt (eqOT DG9 DW9 hrg.out (by omega))
        go_wp2_with (go_at_call 15; refine HE9.out.mono ?_; rintro e w10 ⟨rfl, hb10⟩; refine Hid.out ?_)
        refine (show ∀ {p : Prop}, p → Hid p from fun h => h) ?_
        have L10 := L9.up hb10
        have DW10 := DW9.up hb10
        have DG10 := DG9.up hb10
        clear HE9 hb10 q0 q1 q2 q3 L9 DW9 DG9
        have q0 := DG10.cells.1
        have q1 := DG10.cells.2
        have HM10 := hideIt (markOB DG10 1 (by omega) (by omega))
        go_wp2_with (go_at_call 16; refine HM10.out.mono ?_; rintro e w11 ⟨rfl, DG11, hr11⟩; refine Hid.out ?_)
        refine (show ∀ {p : Prop}, p → Hid p from fun h => h) ?_
        have L11 := L10.rng hr11 (by omega)
        have DW11 := DW10.rng hr11 (by omega)
        clear HM10 q0 q1 L10 DW10 DG10 hr11
        have q0 := DG11.cells.1
        have q1 := DG11.cells.2
        have HH11 := hideIt (heldOB 1 DG11 (by omega) (by omega))
        have d4 : decide ((1 : Int) + (rn Rg : Int) < 0) = false := decide_eq_false (by omega)
        have d5 : ((1 : Int) + (rn Rg : Int) != (1 : Int) + (rn Rg : Int)) = false := by simp
        go_wp2_with (go_at_call 17; refine HH11.out.mono ?_; rintro e w12 ⟨rfl, hb12⟩; refine Hid.out ?_)
        refine (show ∀ {p : Prop}, p → Hid p from fun h => h) ?_
        have L12 := L11.up hb12
        have DW12 := DW11.up hb12
        have DG12 := DG11.up hb12
        clear HH11 hb12 q0 q1 L11 DW11 DG11
        have HC12 := hideIt (fun u (hu : Good w12 u) => And.intro (L12.good hu).cells hu)
        have hS12 := HC12.out _ (Good.refl w12).drew
        have zz12 := L12.size
        obtain ⟨⟨c0, c1⟩, c2, c3⟩ := L12.cells
        go_upto_region 24 with fail
        go_cut [14, 15] (fun p ok wx => ∃ b3 ah mh ch Rh, p = .pointer (some ⟨b3, 0, none⟩) ∧ ok = .bool fl ∧ Good w12 wx ∧ Hid (rts Rh = gs) ∧ OBox wx w12.heap.size wx.heap.size b3 M ah mh ch Rh)
        case first =>
          have HT := hideIt (fun u (hu : Good w12 u) => toForest_G N fs n a c hn1 (L12.ts HF.out) hu)
          go_region_held3 (fun u => ((u.cell? ⟨w.heap.size, 0, none⟩ = some (.int .i64 N) ∧ u.cell? ⟨w.heap.size, 1, none⟩ = some (.slice a n c)) ∧ u.cell? ⟨w.heap.size + 1, 0, none⟩ = some (.int .i64 x.1) ∧ u.cell? ⟨w.heap.size + 1, 1, none⟩ = some (.int .i64 x.2)) ∧ Good w12 u)
            (first | assumption | exact HC12.out _ (Good.alloc (And.right (by assumption)) _) | exact HC12.out _ (Good.set (Good.set (And.right (by assumption)) _ _ _ (by omega)) _ _ _ (by omega)))
            (first
              | (go_at_call 20; refine (HT.out _ (And.right (by assumption))).mono ?_; rintro e w3 ⟨g3, R3, rfl, ho3, hr3, hg3, hk3⟩; have hS3 := HC12.out _ hg3; have z3 := hg3.size; try (have bx := hk3.nil (Box7.new w12 _ _ _ _ rfl)))
              | (go_at_call 24; refine (HA.out w12 _ (And.right (by assumption)) _ _ _ _ (by first | assumption | exact FB.keep (by assumption) ((Below.refl _ _).alloc (Nat.le_refl _) _))).mono ?_; rintro e w4 ⟨rfl, ho4, hg4, hk4⟩; have hS4 := HC12.out _ hg4; have z4 := hg4.size; first | have bx := hk4.nil bx | have bx := hk4.nil (Box7.new w3 _ _ _ _ rfl) | skip)
              | (go_at_call 25; refine (HDi.out w12 _ (And.right (by assumption)) _ _ _ (by first | assumption | exact FB.keep (by assumption) ((Below.refl _ _).alloc (Nat.le_refl _) _)) hr3).mono ?_; rintro e w5 ⟨ah, mh, ch, Rh, rfl, ho5, hrh, hg5, hk5⟩; have hS5 := HC12.out _ hg5; have z5 := hg5.size; (first | have bx := hk5.nil bx | have bx := hk5.nil (Box7.new w4 _ _ _ _ rfl) | skip); try (have bc0 := bx.cell0; have bc1 := bx.cell1; have bz0 := bx.frozen 0; have bz1 := bx.frozen 1)))
          all_goals
            go_wp2_with fail
            go_meet
            first
              | exact ⟨_, ah, mh, ch, Rh, rfl, rfl, Good.set (Good.set hg5 _ _ _ (by omega)) _ _ _ (by omega), hrh, OBox.stored bx (by omega) ho5⟩
              | exact ⟨_, ah, mh, ch, Rh, rfl, rfl, Good.alloc hg5 _, hrh, OBox.laid (by omega) ho5⟩
        case rest =>
          obtain ⟨b3, ah, mh, ch, Rh, rfl, rfl, G13, hrh, DH⟩ := hcut
          have L13 := L12.good G13
          have DW13 := DW12.up G13
          have DG13 := DG12.up G13
          have hmh : mh + lnS gs ≤ 1000 := by rw [← DH.fb.len, ← rts_len, hrh.out]; exact hgl
          clear c0 c1 c2 c3 HC12 hS12 L12 DW12 DG12
          have q0 := DH.cells.1
          have q1 := DW13.cells.1
          have q2 := DH.cells.2
          have q3 := DW13.cells.2
          have HE13 := hideIt (eqOT DH DW13 hrh.out (by omega))
          go_wp2_with (go_at_call 15; refine HE13.out.mono ?_; rintro e w14 ⟨rfl, hb14⟩; refine Hid.out ?_)
          refine (show ∀ {p : Prop}, p → Hid p from fun h => h) ?_
          have L14 := L13.up hb14
          have DG14 := DG13.up hb14
          clear HE13 hb14 q0 q1 q2 q3 L13 DW13 DG13
          have q0 := DG14.cells.1
          have q1 := DG14.cells.2
          have HH14 := hideIt (heldOB 1 DG14 (by omega) (by omega))
          go_wp2_with (go_at_call 17; refine HH14.out.mono ?_; rintro e w15 ⟨rfl, hb15⟩)
          go_ret
          exact ⟨rfl, (L14.up hb15).below⟩
  · have HV : Hid (szv n fs = -1) := by show _ = _; unfold szv; rw [if_neg hn1]
    have d1 : decide (szv n fs < 0) = true := decide_eq_true (by have := HV.out; omega)
    generalize szv n fs = zz0 at *
    go_enter Try.func7, Try.ntmps7
    go_wp2_with (go_at_call 18; refine (show Calls Try.prog 18 _ (lw7 w N a n c x) _ from HS.out).mono ?_; rintro e w1 ⟨rfl, hb1⟩)
    go_ret
    exact ⟨rfl, HB.out.trans (Below.mono hb1 (by rw [lw7_size]; omega))⟩
end Go.Proofs.Ytcpffonenhhfoaa
namespace Go.Proofs.Ytcpffonenhhfoaa
open Go.RowKit Go.ChangeShapes Go.WideShapes Go.ChangeAt

theorem two7 {α : Type} {l : List α} (h : l.length = 2) : ∃ a b, l = [a, b] := by
  match l, h with
  | [a, b], _ => exact ⟨a, b, rfl⟩
/-- a row of numbers -/
theorem open_int1 {H : Type} {enc : TypeId × Value → H} {W : World} {fuel : Nat} {cs : List Value} {y : DataW H × List MemPlace}
    (h : DataW.trod enc Try.prog W 0 (fun _ => true) true fuel 50 cs = some y) : ∃ (a : Option Addr) (n c : Nat) (ls : List Int), cs = [.slice a n c] ∧ n ≤ maxLen ∧ n ≤ c ∧ Is W W.heap.size a n ls := by
  rcases open_ints Try.underlying50 Try.underlying3 (by kernel_rfl) h with ⟨hcs, _⟩ | ⟨x, l, c, zs, hcs, _, hl, hm, hz, _, hcell, hwz⟩
  · exact ⟨none, 0, 0, [], hcs, by unfold maxLen; omega, by omega, ⟨rfl, .inl rfl⟩⟩
  · have hzl : zs.length = c := by simpa using hz
    by_cases h0 : l = 0
    · subst h0
      exact ⟨_, 0, c, [], hcs, by unfold maxLen; omega, by omega, ⟨rfl, .inl rfl⟩⟩
    · obtain ⟨b, off, rfl, hc⟩ := ints_at hcell (by omega)
      have hb : b < W.heap.size := World.block_lt_of_cell? W _ (hc 0 (by omega))
      refine ⟨_, l, c, zs.take l, hcs, by omega, by omega, ⟨by rw [List.length_take]; omega, .inr ⟨b, off, rfl, hb, fun j x hx => ?_⟩⟩⟩
      have hj : j < l := by have := (List.getElem?_eq_some_iff.1 hx).1; rw [List.length_take] at this; omega
      rw [List.getElem?_take_of_lt hj] at hx
      rw [hc j (by omega), List.getD_eq_getElem?_getD, hx]
      rfl
theorem open_intSS {H : Type} {enc : TypeId × Value → H} {W : World} {a : Option Addr} {len cap fuel : Nat} {x : DataW H × List MemPlace}
    (h : DataW.trod enc Try.prog W 0 (fun _ => true) true fuel 25 [.slice a len cap] = some x) : len ≤ maxLen ∧ ∃ ts : List (List Int), Ts W W.heap.size a len ts ∧ ∀ t ∈ ts, t.length ≤ maxLen := by
  rcases DataW.trod_slice Try.underlying25 h with ⟨hcs, _⟩ | ⟨ad, l, c, elems, rest, n, _, hcs, _, _, hlc, hm, hel, hei, _, _⟩
  · simp at hcs
    obtain ⟨rfl, rfl, rfl⟩ := hcs
    exact ⟨by unfold maxLen; omega, [], ⟨rfl, .inl rfl⟩, by simp⟩
  · simp at hcs
    obtain ⟨rfl, rfl, rfl⟩ := hcs
    refine ⟨by omega, ?_⟩
    have each : ∀ i, i < len → ∃ t : List Int, (∃ (a' : Option Addr) (c' : Nat), W.cell? ((ad.add i).add 0) = some (.slice a' t.length c') ∧ Is W W.heap.size a' t.length t ∧ t.length ≤ c') ∧ t.length ≤ maxLen := by
      intro i hi
      have h1 := hei i hi
      obtain ⟨y, hy⟩ : ∃ y, elems[i]? = some y := ⟨elems[i]'(by omega), List.getElem?_eq_getElem _⟩
      rw [hy, Option.bind_eq_some_iff] at h1
      obtain ⟨cs', hc, ht⟩ := h1
      obtain ⟨a', n', c', ls, rfl, q1, q2, q3⟩ := open_int1 ht
      rw [show Try.prog.cellsOf 50 = 1 by kernel_rfl] at hc
      have hcell := (World.cells?_some hc).2.2
      have hn := q3.1
      subst hn
      refine ⟨ls, ⟨a', c', ?_, q3, q2⟩, q1⟩
      simpa using hcell 0 (by omega)
    by_cases h0 : len = 0
    · subst h0
      exact ⟨[], ⟨rfl, .inl rfl⟩, by simp⟩
    · obtain ⟨f0, ⟨_, _, hc0, _⟩, _⟩ := each 0 (by omega)
      obtain ⟨b, off, spot⟩ := ad
      have hspot : spot = none := by simpa [Addr.add] using World.cell?_spot hc0
      subst hspot
      have hb : b < W.heap.size := by
        have := World.block_lt_of_cell? W _ hc0
        simpa [Addr.add] using this
      obtain ⟨F, hF⟩ := Classical.axiomOfChoice (fun i : Fin len => each i.1 i.2)
      refine ⟨List.ofFn F, ⟨by simp, .inr ⟨b, off, rfl, hb, fun j f hf => ?_⟩⟩, fun f hf => ?_⟩
      · obtain ⟨hj, rfl⟩ := List.getElem?_eq_some_iff.1 hf
        have hj' : j < len := by simpa using hj
        obtain ⟨⟨a', c', c0, c1⟩, _⟩ := hF ⟨j, hj'⟩
        rw [add_plain, add_plain, Nat.add_zero] at c0
        simp only [List.getElem_ofFn]
        exact ⟨a', c', c0, c1⟩
      · obtain ⟨i, rfl⟩ := List.mem_ofFn.1 hf
        exact (hF i).2
set_option maxRecDepth 100000 in
/-- a forest that comes in -/
theorem open_forest {H : Type} {enc : TypeId × Value → H} {W : World} {r : Reach} {base : Nat} {v : Value} {d : DataW H} {p : List MemPlace}
    (hv : Value.okWide Try.prog W r base 35 v) (h : DataW.Trod enc Try.prog W 0 (fun _ => true) true 35 v d p) :
    ∃ (N : Int) (a : Option Addr) (n c : Nat) (ts : List (List Int)), v = .agg #[.int .i64 N, .slice a n c] ∧ (Lit.int .i64 N).wf = true ∧ n ≤ maxLen ∧ Ts W W.heap.size a n ts ∧ ∀ t ∈ ts, t.length ≤ maxLen := by
  obtain ⟨cs, rfl, hcs⟩ := okWide_struct Try.underlying35 hv
  obtain ⟨fuel, hf⟩ := h
  obtain ⟨xs, n, _, _, hl, hlen, hfi⟩ := DataW.trod_struct Try.underlying35 hf
  rw [show Try.prog.cellsOf 35 = 2 by kernel_rfl] at hcs hl
  obtain ⟨l⟩ := cs
  obtain ⟨c0, c1, rfl⟩ := two7 (by simpa using hcs : l.length = 2)
  have ec : (Value.agg (List.toArray [c0, c1])).cells.toList = [c0, c1] := by simp [Value.cells]
  rw [ec] at hfi
  have h0 : DataW.trod enc Try.prog W 0 (fun _ => true) true n 3 (([c0, c1].drop 0).take (Try.prog.cellsOf 3)) = xs[0]? := hfi 0 _ rfl
  have h1 : DataW.trod enc Try.prog W 0 (fun _ => true) true n 25 (([c0, c1].drop 1).take (Try.prog.cellsOf 25)) = xs[1]? := hfi 1 _ rfl
  rw [show Try.prog.cellsOf 3 = 1 by kernel_rfl] at h0
  rw [show Try.prog.cellsOf 25 = 1 by kernel_rfl] at h1
  have g : ∀ i, i < 2 → ∃ z, xs[i]? = some z := fun i hi => ⟨xs[i]'(by simp at hlen; omega), List.getElem?_eq_getElem _⟩
  obtain ⟨z0, e0⟩ := g 0 (by omega)
  obtain ⟨z1, e1⟩ := g 1 (by omega)
  rw [e0] at h0
  rw [e1] at h1
  obtain ⟨k0, hk0, _, w0⟩ := DataW.trod_int Try.underlying3 h0
  simp at hk0
  subst hk0
  have h1' : DataW.trod enc Try.prog W 0 (fun _ => true) true n 25 [c1] = some z1 := by simpa using h1
  rcases DataW.trod_slice Try.underlying25 h1' with ⟨hx, _⟩ | ⟨ad, l, c, _, _, _, _, hx, _⟩
  · simp at hx
    subst hx
    obtain ⟨q1, fs, q2, q3⟩ := open_intSS h1'
    exact ⟨k0, _, _, _, fs, rfl, w0, q1, q2, q3⟩
  · simp at hx
    subst hx
    obtain ⟨q1, fs, q2, q3⟩ := open_intSS h1'
    exact ⟨k0, _, _, _, fs, rfl, w0, q1, q2, q3⟩
theorem open_edge1 {H : Type} {enc : TypeId × Value → H} {W : World} {fuel : Nat} {cs : List Value} {y : DataW H × List MemPlace}
    (h : DataW.trod enc Try.prog W 0 (fun _ => true) true fuel 42 cs = some y) : ∃ f : Int × Int, cs = [.int .i64 f.1, .int .i64 f.2] ∧ ((Lit.int .i64 f.1).wf = true ∧ (Lit.int .i64 f.2).wf = true) := by
  obtain ⟨xs, n, _, _, hl, hlen, hf⟩ := DataW.trod_struct Try.underlying42 h
  rw [show Try.prog.cellsOf 42 = 2 by kernel_rfl] at hl
  obtain ⟨c0, c1, rfl⟩ := two7 hl
  have h0 : DataW.trod enc Try.prog W 0 (fun _ => true) true n 3 (([c0, c1].drop 0).take (Try.prog.cellsOf 3)) = xs[0]? := hf 0 _ rfl
  have h1 : DataW.trod enc Try.prog W 0 (fun _ => true) true n 3 (([c0, c1].drop 1).take (Try.prog.cellsOf 3)) = xs[1]? := hf 1 _ rfl
  rw [show Try.prog.cellsOf 3 = 1 by kernel_rfl] at h0 h1
  have g : ∀ i, i < 2 → ∃ z, xs[i]? = some z := fun i hi => ⟨xs[i]'(by simp at hlen; omega), List.getElem?_eq_getElem _⟩
  obtain ⟨z0, e0⟩ := g 0 (by omega)
  obtain ⟨z1, e1⟩ := g 1 (by omega)
  rw [e0] at h0
  rw [e1] at h1
  obtain ⟨k0, hk0, _, w0⟩ := DataW.trod_int Try.underlying3 h0
  obtain ⟨k1, hk1, _, w1⟩ := DataW.trod_int Try.underlying3 h1
  simp at hk0 hk1
  subst hk0 hk1
  exact ⟨⟨k0, k1⟩, rfl, w0, w1⟩
set_option maxRecDepth 100000 in
/-- an edge that comes in -/
theorem open_edge {H : Type} {enc : TypeId × Value → H} {W : World} {r : Reach} {base : Nat} {v : Value} {d : DataW H} {p : List MemPlace}
    (hv : Value.okWide Try.prog W r base 42 v) (h : DataW.Trod enc Try.prog W 0 (fun _ => true) true 42 v d p) :
    ∃ f : Int × Int, v = .agg #[.int .i64 f.1, .int .i64 f.2] ∧ ((Lit.int .i64 f.1).wf = true ∧ (Lit.int .i64 f.2).wf = true) := by
  obtain ⟨cs, rfl, hcs⟩ := okWide_struct Try.underlying42 hv
  obtain ⟨fuel, hf⟩ := h
  obtain ⟨f, hcs2, hft⟩ := open_edge1 hf
  refine ⟨f, ?_, hft⟩
  have : (Value.agg cs).cells.toList = [.int .i64 f.1, .int .i64 f.2] := hcs2
  obtain ⟨l⟩ := cs
  simp [Value.cells] at this
  rw [this]
end Go.Proofs.Ytcpffonenhhfoaa
