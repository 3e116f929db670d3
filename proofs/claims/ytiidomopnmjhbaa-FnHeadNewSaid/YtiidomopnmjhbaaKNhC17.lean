/- A new head is right; what a question that makes no sense makes of it. -/
import Derived.Test.YtiidomopnmjhbaaKNhB17
import Derived.Deep.AppendLies
import Derived.Deep.RegionLaw
namespace Go.Proofs.Ytiidomopnmjhbaa
open Go.RowKit

abbrev hkC (N : Int) (vO vL vN vS : Value) : Array Value := #[.int .i64 N, vO, .slice none 0 0, vL, vN, .int .i64 0, .int .i64 0, .int .i64 0, .int .i64 0, .int .i64 0, .int .i64 0, .int .i64 0, .slice none 0 0, .int .i64 0, vS]
theorem BxA.same {w : World} {b : Nat} {t : TypeId} {vs : Array Value} (h : BxA w b t vs) (i : Nat) {v : Value} (hv : vs[i]? = some v) : BxA (w.setCell ⟨b, i, none⟩ v) b t vs := by
  have h1 := h.set i v
  have e : vs.setIfInBounds i v = vs := by
    apply Array.ext_getElem?
    intro j
    rw [Array.getElem?_setIfInBounds]
    by_cases hj : i = j
    · subst hj
      rw [if_pos rfl, hv]
      have := (Array.getElem?_eq_some_iff.1 hv).1
      simp [this]
    · rw [if_neg hj]
  rw [e] at h1
  exact h1
theorem grB {w u : World} {B i : Nat} {v : Value} (h : w.grownBy u (some B)) : w.grownBy (u.setCell ⟨B, i, none⟩ v) (some B) := by
  have hs := grownSet u B i v
  exact ⟨hs.os.trans h.os, hs.tape.trans h.tape, hs.output.trans h.output, Nat.le_trans h.size hs.size, fun k hk hne => (hs.block k (Nat.lt_of_lt_of_le hk h.size) hne).trans (h.block k hk hne)⟩
theorem BxA.cellsOf {w u : World} {b : Nat} {t : TypeId} {vs : Array Value} (h : BxA w b t vs) (e : u.heap[b]? = w.heap[b]?) : BxA u b t vs := by unfold BxA; rw [e]; exact h
set_option maxRecDepth 100000 in
set_option maxHeartbeats 8000000 in
theorem say_new (N : Int) (aO : Option Addr) (nO cO : Nat) (aL : Option Addr) (nL cL : Nat) (aN : Option Addr) (nN cN : Nat) (B : Nat) (w : World) (hX : BxA w B 37 (hkC N (.slice aO nO cO) (.slice aL nL cL) (.slice aN nN cN) (.slice none 0 0))) :
    Calls Try.prog 68 #[.pointer (some ⟨B, 0, none⟩), .agg #[.int .i64 5, .int .i64 9, .int .i64 0, .int .i64 0], .int .i64 3] w fun e w' => e = .returned (.int .i64 1) ∧ ∃ g c, BxA w' B 37 (hkC N (.slice aO nO cO) (.slice aL nL cL) (.slice aN nN cN) (.slice (some ⟨g, 0, none⟩) 1 c)) ∧ w'.ownsRow w.heap.size 72 6 (.slice (some ⟨g, 0, none⟩) 1 c) 1 [.int .i64 5, .int .i64 5, .int .i64 9, .int .i64 0, .int .i64 0, .int .i64 3] ∧ w.grownBy w' (some B) := by
  obtain ⟨i0, hi, hz0, hz1, hz2⟩ := info_parts infoSd
  have lB := hX.lt
  have HX := hideIt hX
  have x14 := hX.cell 14 rfl
  have x0 := hX.cell 0 rfl
  have f14 := hX.frozen 14
  have HA : Hid (∀ (g1 c1 : Nat) (w1 : World), w1.ownsRow w.heap.size 72 6 (.slice (some ⟨g1, 0, none⟩) 1 c1) 1 [.int .i64 5, .int .i64 5, .int .i64 9, .int .i64 0, .int .i64 0, .int .i64 3] → Below w.heap.size w w1 → w1.cell? ⟨B, 14, none⟩ = some (.slice none 0 0) ∧ w1.frozen? ⟨B, 14, none⟩ = false ∧ BxA w1 B 37 (hkC N (.slice aO nO cO) (.slice aL nL cL) (.slice aN nN cN) (.slice none 0 0))) := fun g1 c1 w1 _ hb => by
    have Y := HX.out.up hb
    exact ⟨Y.cell 14 rfl, Y.frozen 14, Y⟩
  have HNw : Hid (((w.alloc (.cells #[.int .i64 5, .int .i64 9, .int .i64 0, .int .i64 0] 30)).alloc (.cells #[.int .i64 5, .int .i64 5, .int .i64 9, .int .i64 0, .int .i64 0, .int .i64 3] 72)).drew.heap[w.heap.size + 1]? = some (.cells #[.int .i64 5, .int .i64 5, .int .i64 9, .int .i64 0, .int .i64 0, .int .i64 3] 72 (0, 0)) ∧ ((w.alloc (.cells #[.int .i64 5, .int .i64 9, .int .i64 0, .int .i64 0] 30)).drew.alloc (.cells #[.int .i64 5, .int .i64 5, .int .i64 9, .int .i64 0, .int .i64 0, .int .i64 3] 72)).heap[w.heap.size + 1]? = some (.cells #[.int .i64 5, .int .i64 5, .int .i64 9, .int .i64 0, .int .i64 0, .int .i64 3] 72 (0, 0))) := by
    have h := heap_alloc_new (w.alloc (.cells #[.int .i64 5, .int .i64 9, .int .i64 0, .int .i64 0] 30)) (.cells #[.int .i64 5, .int .i64 5, .int .i64 9, .int .i64 0, .int .i64 0, .int .i64 3] 72)
    rw [show (w.alloc (.cells #[.int .i64 5, .int .i64 9, .int .i64 0, .int .i64 0] 30)).heap.size = w.heap.size + 1 by simp] at h
    exact ⟨h, h⟩
  clear hX
  go_enter Try.func68, Try.ntmps68
  go_wp2
  go_region_law (refine step_append_lies _ (by rfl) _ _ _ (by rfl) w.heap.size 72 i0 _ 6 48 Try.underlying35 hi hz0 hz1 hz2 rfl (by omega) _ 0 _ (by rfl) (World.ownsRow_nil _ _ _ _) ⟨w.heap.size + 1, 0, none⟩ 1 1 [.int .i64 5, .int .i64 5, .int .i64 9, .int .i64 0, .int .i64 0, .int .i64 3] (by rfl) (by rfl) (World.news_of_block (cs := #[.int .i64 5, .int .i64 5, .int .i64 9, .int .i64 0, .int .i64 0, .int .i64 3]) (t := 72) (fr := (0, 0)) (by first | exact HNw.out.1 | exact HNw.out.2)) (by simp [Value.oneCell']) (by omega) (by unfold maxLen; omega) (by omega) (by simp <;> omega) (w.heap.size + 2) (by simp) ?_; intro g1 cap1 w1 hown1 hg1 hat1 hlt1; have bz : Below w.heap.size w w1 := (by first | exact ((((Below.refl _ w).alloc (Nat.le_refl _) _).alloc (by simp) _).grown hg1 (by simp <;> omega) (fun j hj => by simp [Value.ownBlock] at hj)) | exact (((((Below.refl _ w).alloc (Nat.le_refl _) _).alloc (by simp) _).drew).grown hg1 (by simp <;> omega) (fun j hj => by simp [Value.ownBlock] at hj))); obtain ⟨q14, qf14, Y⟩ := HA.out g1 cap1 w1 hown1 bz)
  all_goals
    have Z := Y.set 14 (.slice (some ⟨g1, 0, none⟩) 1 cap1)
    have hZ : BxA (w1.setCell ⟨B, 14, none⟩ (.slice (some ⟨g1, 0, none⟩) 1 cap1)) B 37 (hkC N (.slice aO nO cO) (.slice aL nL cL) (.slice aN nN cN) (.slice (some ⟨g1, 0, none⟩) 1 cap1)) := Z
    obtain ⟨W2, hW2⟩ : ∃ W2, W2 = w1.setCell ⟨B, 14, none⟩ (.slice (some ⟨g1, 0, none⟩) 1 cap1) := ⟨_, rfl⟩
    have lg := (hown1.lt g1 rfl).1
    have hO2 := own_setOther hown1 B 14 (.slice (some ⟨g1, 0, none⟩) 1 cap1) (by omega)
    go_upto_region 2 with fail
    have hG2 : w.grownBy W2 (some B) := by
      rw [hW2]
      have hs := grownSet w1 B 14 (.slice (some ⟨g1, 0, none⟩) 1 cap1)
      exact ⟨hs.os.trans bz.os, hs.tape.trans bz.tape, hs.output.trans bz.output, Nat.le_trans bz.size hs.size, fun k hk hne => (hs.block k (Nat.lt_of_lt_of_le hk bz.size) hne).trans (bz.block k hk)⟩
    rw [← hW2] at hZ hO2 ⊢
    have z5 := hZ.cell 5 rfl
    have fz5 := hZ.frozen 5
    have z6 := hZ.cell 6 rfl
    have fz6 := hZ.frozen 6
    have z7 := hZ.cell 7 rfl
    have fz7 := hZ.frozen 7
    have z8 := hZ.cell 8 rfl
    have fz8 := hZ.frozen 8
    have z9 := hZ.cell 9 rfl
    have fz9 := hZ.frozen 9
    have z10 := hZ.cell 10 rfl
    have fz10 := hZ.frozen 10
    have z11 := hZ.cell 11 rfl
    have fz11 := hZ.frozen 11
    have z12 := hZ.cell 12 rfl
    have fz12 := hZ.frozen 12
    have z13 := hZ.cell 13 rfl
    have fz13 := hZ.frozen 13
    have HZ := hideIt hZ
    have HO := hideIt hO2
    have HG := hideIt hG2
    have HL := hideIt (show g1 ≠ B by omega)
    clear hZ hO2 hG2 hW2 Z Y bz hown1 hg1 hat1 lg q14 qf14 HA HNw HX x14 x0 f14
    go_wp2
    go_ret
    refine ⟨rfl, g1, cap1, (((((((((HZ.out.same 5 rfl).same 6 rfl).same 7 rfl).same 8 rfl).same 9 rfl).same 10 rfl).same 11 rfl).same 12 rfl).same 13 rfl), (own_setOther (own_setOther (own_setOther (own_setOther (own_setOther (own_setOther (own_setOther (own_setOther (own_setOther HO.out B 5 (.int .i64 0) HL.out) B 6 (.int .i64 0) HL.out) B 7 (.int .i64 0) HL.out) B 8 (.int .i64 0) HL.out) B 9 (.int .i64 0) HL.out) B 10 (.int .i64 0) HL.out) B 11 (.int .i64 0) HL.out) B 12 (.slice none 0 0) HL.out) B 13 (.int .i64 0) HL.out), (grB (grB (grB (grB (grB (grB (grB (grB (grB HG.out)))))))))⟩
theorem ask_new (N : Int) (aO : Option Addr) (nO cO : Nat) (aL : Option Addr) (nL cL : Nat) (aN : Option Addr) (nN cN : Nat) (B : Nat) (w : World) (hX : BxA w B 37 (hkC N (.slice aO nO cO) (.slice aL nL cL) (.slice aN nN cN) (.slice none 0 0))) :
    Calls Try.prog 28 #[.pointer (some ⟨B, 0, none⟩), .agg #[.int .i64 5, .int .i64 9, .int .i64 0, .int .i64 0]] w fun e w' => e = .returned (.int .i64 1) ∧ ∃ g c, BxA w' B 37 (hkC N (.slice aO nO cO) (.slice aL nL cL) (.slice aN nN cN) (.slice (some ⟨g, 0, none⟩) 1 c)) ∧ w'.ownsRow w.heap.size 72 6 (.slice (some ⟨g, 0, none⟩) 1 c) 1 [.int .i64 5, .int .i64 5, .int .i64 9, .int .i64 0, .int .i64 0, .int .i64 3] ∧ w.grownBy w' (some B) := by
  obtain ⟨W, hW⟩ : ∃ W, W = w.alloc (.cells #[.int .i64 5, .int .i64 9, .int .i64 0, .int .i64 0] 30) := ⟨_, rfl⟩
  have bW : Below w.heap.size w W := by rw [hW]; exact (Below.refl _ _).alloc (Nat.le_refl _) _
  have XA : BxA W w.heap.size 30 #[.int .i64 5, .int .i64 9, .int .i64 0, .int .i64 0] := by rw [hW]; exact BxA.new _ _ _
  have HA := hideIt XA
  have HX := hideIt (hX.up bW)
  have HM := hideIt (makesSense_9 B W)
  have HB := hideIt bW
  have HS := hideIt (fun (u : World) (hu : Below W.heap.size W u) => say_new N aO nO cO aL nL cL aN nN cN B u (HX.out.up hu))
  have a0 := XA.cell 0 rfl
  have a1 := XA.cell 1 rfl
  have a2 := XA.cell 2 rfl
  have a3 := XA.cell 3 rfl
  clear XA bW hX
  go_enter Try.func28, Try.ntmps28
  go_upto_region 1 with fail
  rw [← hW]
  clear hW
  go_wp2_with (go_at_call 67; refine HM.out.mono ?_; rintro e w1 ⟨rfl, hb1⟩; refine Hid.out ?_)
  refine (show ∀ {p : Prop}, p → Hid p from fun h => h) ?_
  have Y := HA.out.up hb1
  have HS1 := hideIt (HS.out w1 hb1)
  have HB1 := hideIt (HB.out.trans (hb1.mono HB.out.size))
  clear a0 a1 a2 a3
  have a0 := Y.cell 0 rfl
  have a1 := Y.cell 1 rfl
  have a2 := Y.cell 2 rfl
  have a3 := Y.cell 3 rfl
  clear Y HM HS hb1
  go_wp2_with (go_at_call 68; refine HS1.out.mono ?_; rintro e w2 ⟨rfl, g, c, hY, hO, hG⟩)
  go_ret
  have z1 := HB1.out.size
  exact ⟨rfl, g, c, hY, own_mono hO z1, hG.os.trans HB1.out.os, hG.tape.trans HB1.out.tape, hG.output.trans HB1.out.output, Nat.le_trans z1 hG.size, fun k hk hne => (hG.block k (Nat.lt_of_lt_of_le hk z1) hne).trans (HB1.out.block k hk)⟩
/-- a new head in memory -/
structure NwH (w : World) (nn sh : Nat) (aO aL aN : Option Addr) : Prop where
  o : Is w w.heap.size aO nn (ownL sh nn)
  l : Ts w w.heap.size aL sh (List.replicate sh (O.labs [] nn nn))
  n : Is w w.heap.size aN sh (List.replicate sh 0)
  h1 : 1 ≤ nn
  h2 : nn ≤ 12
  h3 : 1 ≤ sh
  h4 : sh ≤ 3
theorem NwH.up {w u : World} {nn sh : Nat} {aO aL aN : Option Addr} (h : NwH w nn sh aO aL aN) (hb : Below w.heap.size w u) : NwH u nn sh aO aL aN := ⟨h.o.up hb, h.l.up hb, h.n.up hb, h.h1, h.h2, h.h3, h.h4⟩
set_option maxRecDepth 100000 in
set_option maxHeartbeats 8000000 in
theorem headOk_new (nn sh : Nat) (aO : Option Addr) (cO : Nat) (aL : Option Addr) (cL : Nat) (aN : Option Addr) (w : World) (h : NwH w nn sh aO aL aN) :
    Calls Try.prog 11 #[.agg (hnC (nn : Int) aO nn cO aL sh cL aN sh)] w fun e w' => e = .returned (.bool true) ∧ Below w.heap.size w w' := by
  obtain ⟨W, hW⟩ : ∃ W, W = w.alloc (.cells (hnC (nn : Int) aO nn cO aL sh cL aN sh) 37) := ⟨_, rfl⟩
  have bW : Below w.heap.size w W := by rw [hW]; exact (Below.refl _ _).alloc (Nat.le_refl _) _
  have X : BxA W w.heap.size 37 (hnC (nn : Int) aO nn cO aL sh cL aN sh) := by rw [hW]; exact BxA.new _ _ _
  have HX := hideIt X
  have HB := hideIt bW
  have HH := hideIt (h.up bW)
  have HV := hideIt (O.vertsOk_any (nn : Int))
  have r1 : decide (1 ≤ (nn : Int) ∧ (nn : Int) ≤ 12) = true := decide_eq_true (by have := h.h1; have := h.h2; omega)
  rw [r1] at HV
  have HC : Hid (∀ u, Below W.heap.size W u → u.cell? ⟨w.heap.size, 0, none⟩ = some (.int .i64 (nn : Int)) ∧ u.cell? ⟨w.heap.size, 1, none⟩ = some (.slice aO nn cO) ∧ u.cell? ⟨w.heap.size, 2, none⟩ = some (.slice none 0 0) ∧ u.cell? ⟨w.heap.size, 3, none⟩ = some (.slice aL sh cL) ∧ u.cell? ⟨w.heap.size, 4, none⟩ = some (.slice aN sh sh) ∧ u.cell? ⟨w.heap.size, 5, none⟩ = some (.int .i64 0) ∧ u.cell? ⟨w.heap.size, 6, none⟩ = some (.int .i64 0) ∧ u.cell? ⟨w.heap.size, 7, none⟩ = some (.int .i64 0) ∧ u.cell? ⟨w.heap.size, 8, none⟩ = some (.int .i64 0) ∧ u.cell? ⟨w.heap.size, 9, none⟩ = some (.int .i64 0) ∧ u.cell? ⟨w.heap.size, 10, none⟩ = some (.int .i64 0) ∧ u.cell? ⟨w.heap.size, 11, none⟩ = some (.int .i64 0) ∧ u.cell? ⟨w.heap.size, 12, none⟩ = some (.slice none 0 0) ∧ u.cell? ⟨w.heap.size, 13, none⟩ = some (.int .i64 0) ∧ u.cell? ⟨w.heap.size, 14, none⟩ = some (.slice none 0 0)) := fun u hu => ⟨(HX.out.up hu).cell 0 rfl, (HX.out.up hu).cell 1 rfl, (HX.out.up hu).cell 2 rfl, (HX.out.up hu).cell 3 rfl, (HX.out.up hu).cell 4 rfl, (HX.out.up hu).cell 5 rfl, (HX.out.up hu).cell 6 rfl, (HX.out.up hu).cell 7 rfl, (HX.out.up hu).cell 8 rfl, (HX.out.up hu).cell 9 rfl, (HX.out.up hu).cell 10 rfl, (HX.out.up hu).cell 11 rfl, (HX.out.up hu).cell 12 rfl, (HX.out.up hu).cell 13 rfl, (HX.out.up hu).cell 14 rfl⟩
  have G : ∀ {f : FuncId} {u : World}, Below W.heap.size W u → Calls Try.prog f #[.agg (hnC (nn : Int) aO nn cO aL sh cL aN sh)] u (fun e v => e = .returned (.bool true) ∧ Below u.heap.size u v) → Calls Try.prog f #[.agg (hnC (nn : Int) aO nn cO aL sh cL aN sh)] u (fun e v => e = .returned (.bool true) ∧ Below W.heap.size W v) := fun hu hc => hc.mono fun e v h2 => ⟨h2.1, hu.trans (h2.2.mono hu.size)⟩
  have H1 := hideIt (fun (u : World) (hu : Below W.heap.size W u) => G hu (shardsOk_new nn sh HH.out.h3 HH.out.h4 HH.out.h2 aO cO aL cL aN u (HH.out.up hu).l (HH.out.up hu).n))
  have H2 := hideIt (fun (u : World) (hu : Below W.heap.size W u) => G hu (ownOk_new nn sh HH.out.h3 HH.out.h2 aO cO aL cL aN u (HH.out.up hu).o))
  have H3 := hideIt (fun (u : World) (hu : Below W.heap.size W u) => G hu (cuts_new (nn : Int) aO nn cO aL sh cL aN sh u))
  have H4 := hideIt (fun (u : World) (hu : Below W.heap.size W u) => G hu (saidOk_new (nn : Int) aO nn cO aL sh cL aN sh u))
  have H5 := hideIt (fun (u : World) (hu : Below W.heap.size W u) => G hu (taskOk_new (nn : Int) aO nn cO aL sh cL aN sh u))
  have b0 := hideIt (Below.refl W.heap.size W)
  obtain ⟨y0, y1, y2, y3, y4, y5, y6, y7, y8, y9, y10, y11, y12, y13, y14⟩ := HC.out W b0.out
  clear X bW h r1 G
  go_enter Try.func11, Try.ntmps11
  go_upto_region 1 with fail
  rw [← hW]
  clear hW
  go_wp2_with (first
    | (go_at_call 20; refine (HV.out _).mono ?_; rintro e w1 ⟨rfl, rfl⟩)
    | (go_at_call 30; refine (H1.out _ b0.out).mono ?_; rintro e w2 ⟨rfl, b2⟩; obtain ⟨y0, y1, y2, y3, y4, y5, y6, y7, y8, y9, y10, y11, y12, y13, y14⟩ := HC.out _ b2)
    | (go_at_call 31; refine (H2.out _ b2).mono ?_; rintro e w3 ⟨rfl, b3⟩; obtain ⟨y0, y1, y2, y3, y4, y5, y6, y7, y8, y9, y10, y11, y12, y13, y14⟩ := HC.out _ b3)
    | (go_at_call 32; refine (H3.out _ b3).mono ?_; rintro e w4 ⟨rfl, b4⟩; obtain ⟨y0, y1, y2, y3, y4, y5, y6, y7, y8, y9, y10, y11, y12, y13, y14⟩ := HC.out _ b4)
    | (go_at_call 33; refine (H4.out _ b4).mono ?_; rintro e w5 ⟨rfl, b5⟩; obtain ⟨y0, y1, y2, y3, y4, y5, y6, y7, y8, y9, y10, y11, y12, y13, y14⟩ := HC.out _ b5)
    | (go_at_call 34; refine (H5.out _ b5).mono ?_; rintro e w6 ⟨rfl, b6⟩))
  go_ret
  exact ⟨rfl, HB.out.trans (b6.mono HB.out.size)⟩
end Go.Proofs.Ytiidomopnmjhbaa
