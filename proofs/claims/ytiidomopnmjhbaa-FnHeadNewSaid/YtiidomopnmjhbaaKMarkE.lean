/- eqHead: a head is the same as itself, laid elsewhere. eqHead: a head is the same as itself, laid elsewhere. Busy, and the place of what is said, on both sides. A graph and an edge that come in, as the walks want them. What the laws over graphs share. What the laws' own marks and looks on edges answer: markEdgeS, heldEdgeS, markGraph, heldGraph. -/
import Derived.Test.YtiidomopnmjhbaaKHh13
import Derived.WalkKit
import Derived.ProofKit
import Derived.OpenShut
import Derived.ChangeOld
import Derived.ChangeArms
import Derived.Below
namespace Go.Proofs.Ytiidomopnmjhbaa
open Go.RowKit

set_option maxRecDepth 100000 in
set_option maxHeartbeats 4000000 in
theorem eqOrder_new (num op v : Int) (fs : List O.EdgeV) (n : Nat) (a a' : Option Addr) (c c' : Nat) (hn : n ≤ 1048576) (w : World) (h : O.Es w w.heap.size a n fs) (h' : O.Es w w.heap.size a' n fs) :
    Calls Try.prog 129 #[.agg #[.int .i64 num, .int .i64 op, .slice a n c, .int .i64 v], .agg #[.int .i64 num, .int .i64 op, .slice a' n c', .int .i64 v]] w fun e w' => e = .returned (.bool true) ∧ Below w.heap.size w w' := by
  have B2 : Below w.heap.size w ((w.alloc (.cells #[.int .i64 num, .int .i64 op, .slice a n c, .int .i64 v] 32)).alloc (.cells #[.int .i64 num, .int .i64 op, .slice a' n c', .int .i64 v] 32)) := ((Below.refl _ _).alloc (Nat.le_refl _) _).alloc (by simp) _
  have HT := hideIt (O.eqEdgeS_same fs n a a' c c' hn _ (h.up B2) (h'.up B2))
  have HB := hideIt B2
  clear h h' B2
  go_enter Try.func129, Try.ntmps129
  go_wp2_with (go_at_call 85; refine HT.out.mono ?_; rintro e w1 ⟨rfl, hb1⟩; refine Hid.out ?_)
  refine (show ∀ {p : Prop}, p → Hid p from fun h => h) ?_
  obtain ⟨hc, hf⟩ := bcell hb1
  have HB2 := hideIt (HB.out.trans (hb1.mono (by simp; omega)))
  have hz := hb1.size
  simp at hz
  clear HT hb1
  go_wp2
  go_ret
  exact ⟨rfl, HB2.out⟩
set_option maxRecDepth 100000 in
set_option maxHeartbeats 4000000 in
theorem eqTask_same (i o a b sh num op v : Int) (fs : List O.EdgeV) (n : Nat) (ad ad' : Option Addr) (c c' : Nat) (hn : n ≤ 1048576) (w : World) (h : O.Es w w.heap.size ad n fs) (h' : O.Es w w.heap.size ad' n fs) :
    Calls Try.prog 87 #[.agg #[.int .i64 i, .int .i64 o, .int .i64 a, .int .i64 b, .int .i64 sh, .int .i64 num, .int .i64 op, .slice ad n c, .int .i64 v], .agg #[.int .i64 i, .int .i64 o, .int .i64 a, .int .i64 b, .int .i64 sh, .int .i64 num, .int .i64 op, .slice ad' n c', .int .i64 v]] w fun e w' => e = .returned (.bool true) ∧ Below w.heap.size w w' := by
  obtain ⟨W, hW⟩ : ∃ W, W = (w.alloc (.cells #[.int .i64 i, .int .i64 o, .int .i64 a, .int .i64 b, .int .i64 sh, .int .i64 num, .int .i64 op, .slice ad n c, .int .i64 v] 34)).alloc (.cells #[.int .i64 i, .int .i64 o, .int .i64 a, .int .i64 b, .int .i64 sh, .int .i64 num, .int .i64 op, .slice ad' n c', .int .i64 v] 34) := ⟨_, rfl⟩
  have B2 : Below w.heap.size w W := by rw [hW]; exact ((Below.refl _ _).alloc (Nat.le_refl _) _).alloc (by simp) _
  have X1 := (BxA.new w 34 #[.int .i64 i, .int .i64 o, .int .i64 a, .int .i64 b, .int .i64 sh, .int .i64 num, .int .i64 op, .slice ad n c, .int .i64 v]).up (belA _ (.cells #[.int .i64 i, .int .i64 o, .int .i64 a, .int .i64 b, .int .i64 sh, .int .i64 num, .int .i64 op, .slice ad' n c', .int .i64 v] 34))
  have X2 := BxA.new (w.alloc (.cells #[.int .i64 i, .int .i64 o, .int .i64 a, .int .i64 b, .int .i64 sh, .int .i64 num, .int .i64 op, .slice ad n c, .int .i64 v] 34)) 34 #[.int .i64 i, .int .i64 o, .int .i64 a, .int .i64 b, .int .i64 sh, .int .i64 num, .int .i64 op, .slice ad' n c', .int .i64 v]
  rw [← hW] at X1 X2
  rw [show (w.alloc (.cells #[.int .i64 i, .int .i64 o, .int .i64 a, .int .i64 b, .int .i64 sh, .int .i64 num, .int .i64 op, .slice ad n c, .int .i64 v] 34)).heap.size = w.heap.size + 1 by simp] at X2
  have HA := hideIt (eqAsk_yes i o a b W)
  have HO := hideIt (fun u (hu : Below w.heap.size w u) => eqOrder_new num op v fs n ad ad' c c' hn u (h.up hu) (h'.up hu))
  have HB := hideIt B2
  have HX1 := hideIt X1
  have HX2 := hideIt X2
  have x0 := X1.cell 0 rfl
  have x1 := X1.cell 1 rfl
  have x2 := X1.cell 2 rfl
  have x3 := X1.cell 3 rfl
  have y0 := X2.cell 0 rfl
  have y1 := X2.cell 1 rfl
  have y2 := X2.cell 2 rfl
  have y3 := X2.cell 3 rfl
  have ds : (sh != sh) = false := by simp
  clear h h' B2 X1 X2
  go_enter Try.func87, Try.ntmps87
  go_upto_region 1 with fail
  rw [← hW]
  clear hW
  go_wp2_with (go_at_call 128; refine HA.out.mono ?_; rintro e w1 ⟨rfl, b1⟩; refine Hid.out ?_)
  refine (show ∀ {p : Prop}, p → Hid p from fun h => h) ?_
  have B3 := HB.out.trans (b1.mono HB.out.size)
  have HO2 := hideIt (HO.out w1 B3)
  have HB3 := hideIt B3
  have Y1 := HX1.out.up b1
  have Y2 := HX2.out.up b1
  clear x0 x1 x2 x3 y0 y1 y2 y3 B3 b1 HB HO HA HX1 HX2
  have x4 := Y1.cell 4 rfl
  have x5 := Y1.cell 5 rfl
  have x6 := Y1.cell 6 rfl
  have x7 := Y1.cell 7 rfl
  have x8 := Y1.cell 8 rfl
  have y4 := Y2.cell 4 rfl
  have y5 := Y2.cell 5 rfl
  have y6 := Y2.cell 6 rfl
  have y7 := Y2.cell 7 rfl
  have y8 := Y2.cell 8 rfl
  clear Y1 Y2
  go_wp2_with (go_at_call 129; refine HO2.out.mono ?_; rintro e w2 ⟨rfl, b2⟩)
  go_ret
  exact ⟨rfl, HB3.out.trans (b2.mono HB3.out.size)⟩
end Go.Proofs.Ytiidomopnmjhbaa
namespace Go.Proofs.Ytiidomopnmjhbaa
open Go.RowKit

/-- lists as long -/
def HpL (p p' : Hp) : Prop := p'.o.n = p.o.n ∧ p'.c.n = p.c.n ∧ p'.l.n = p.l.n ∧ p'.n.n = p.n.n ∧ p'.e.n = p.e.n ∧ p'.s.n = p.s.n
theorem HIn.lens {w w' : World} {h : Hd} {p p' : Hp} (k : HIn w h p) (k' : HIn w' h p') : HpL p p' :=
  ⟨k'.o.1.symm.trans k.o.1, k'.c.1.symm.trans k.c.1, k'.l.1.symm.trans k.l.1, k'.n.1.symm.trans k.n.1, k'.e.1.symm.trans k.e.1, k'.s.1.symm.trans k.s.1⟩
theorem HFit.of {h : Hd} {p p' : Hp} (k : HFit h p) (l : HpL p p') : HFit h p' := by
  obtain ⟨l1, l2, l3, l4, l5, l6⟩ := l
  exact ⟨by rw [l1]; exact k.o, by rw [l2]; exact k.c, by rw [l3]; exact k.l, by rw [l4]; exact k.n, by rw [l5]; exact k.e, by rw [l6]; exact k.s⟩

set_option maxRecDepth 100000 in
set_option maxHeartbeats 8000000 in
theorem eqHead_same (h : Hd) (p p' : Hp) (hf : HFit h p) (w : World) (k : HIn w h p) (k' : HIn w h p') : Calls Try.prog 37 #[.agg (hC h p), .agg (hC h p')] w fun e w' => e = .returned (.bool true) ∧ Below w.heap.size w w' := by
  have hl := k.lens k'
  obtain ⟨N, own, cuts, lab, nums, i, o, a, b, sh, num, op, es, v, said⟩ := h
  obtain ⟨⟨a1, n1, c1⟩, ⟨a2, n2, c2⟩, ⟨a3, n3, c3⟩, ⟨a4, n4, c4⟩, ⟨a5, n5, c5⟩, ⟨a6, n6, c6⟩⟩ := p
  obtain ⟨⟨a1_, m1, c1_⟩, ⟨a2_, m2, c2_⟩, ⟨a3_, m3, c3_⟩, ⟨a4_, m4, c4_⟩, ⟨a5_, m5, c5_⟩, ⟨a6_, m6, c6_⟩⟩ := p'
  obtain ⟨h1, h2, h3, h4, h5, h6⟩ := hl
  dsimp only at h1 h2 h3 h4 h5 h6
  subst h1 h2 h3 h4 h5 h6
  obtain ⟨f1, f2, f3, f4, f5, f6⟩ := hf
  obtain ⟨k1, k2, k3, k4, k5, k6⟩ := k
  obtain ⟨j1, j2, j3, j4, j5, j6⟩ := k'
  dsimp only [hC, Sx.v] at *
  obtain ⟨W, hW⟩ : ∃ W, W = (w.alloc (.cells #[.int .i64 N, .slice a1 m1 c1, .slice a2 m2 c2, .slice a3 m3 c3, .slice a4 m4 c4, .int .i64 i, .int .i64 o, .int .i64 a, .int .i64 b, .int .i64 sh, .int .i64 num, .int .i64 op, .slice a5 m5 c5, .int .i64 v, .slice a6 m6 c6] 37)).alloc (.cells #[.int .i64 N, .slice a1_ m1 c1_, .slice a2_ m2 c2_, .slice a3_ m3 c3_, .slice a4_ m4 c4_, .int .i64 i, .int .i64 o, .int .i64 a, .int .i64 b, .int .i64 sh, .int .i64 num, .int .i64 op, .slice a5_ m5 c5_, .int .i64 v, .slice a6_ m6 c6_] 37) := ⟨_, rfl⟩
  have B2 : Below w.heap.size w W := by rw [hW]; exact ((Below.refl _ _).alloc (Nat.le_refl _) _).alloc (by simp) _
  have X1 := (BxA.new w 37 #[.int .i64 N, .slice a1 m1 c1, .slice a2 m2 c2, .slice a3 m3 c3, .slice a4 m4 c4, .int .i64 i, .int .i64 o, .int .i64 a, .int .i64 b, .int .i64 sh, .int .i64 num, .int .i64 op, .slice a5 m5 c5, .int .i64 v, .slice a6 m6 c6]).up (belA _ (.cells #[.int .i64 N, .slice a1_ m1 c1_, .slice a2_ m2 c2_, .slice a3_ m3 c3_, .slice a4_ m4 c4_, .int .i64 i, .int .i64 o, .int .i64 a, .int .i64 b, .int .i64 sh, .int .i64 num, .int .i64 op, .slice a5_ m5 c5_, .int .i64 v, .slice a6_ m6 c6_] 37))
  have X2 := BxA.new (w.alloc (.cells #[.int .i64 N, .slice a1 m1 c1, .slice a2 m2 c2, .slice a3 m3 c3, .slice a4 m4 c4, .int .i64 i, .int .i64 o, .int .i64 a, .int .i64 b, .int .i64 sh, .int .i64 num, .int .i64 op, .slice a5 m5 c5, .int .i64 v, .slice a6 m6 c6] 37)) 37 #[.int .i64 N, .slice a1_ m1 c1_, .slice a2_ m2 c2_, .slice a3_ m3 c3_, .slice a4_ m4 c4_, .int .i64 i, .int .i64 o, .int .i64 a, .int .i64 b, .int .i64 sh, .int .i64 num, .int .i64 op, .slice a5_ m5 c5_, .int .i64 v, .slice a6_ m6 c6_]
  rw [← hW] at X1 X2
  rw [show (w.alloc (.cells #[.int .i64 N, .slice a1 m1 c1, .slice a2 m2 c2, .slice a3 m3 c3, .slice a4 m4 c4, .int .i64 i, .int .i64 o, .int .i64 a, .int .i64 b, .int .i64 sh, .int .i64 num, .int .i64 op, .slice a5 m5 c5, .int .i64 v, .slice a6 m6 c6] 37)).heap.size = w.heap.size + 1 by simp] at X2
  have dn : (N != N) = false := by simp
  have H1 := hideIt (fun u (hu : Below w.heap.size w u) => eqIntS_same own m1 a1 a1_ c1 c1_ f1 u (k1.up hu) (j1.up hu))
  have H2 := hideIt (fun u (hu : Below w.heap.size w u) => O.eqEdgeS_same cuts m2 a2 a2_ c2 c2_ f2 u (k2.up hu) (j2.up hu))
  have H3 := hideIt (fun u (hu : Below w.heap.size w u) => eqIntSS_same lab m3 a3 a3_ c3 c3_ f3 u (k3.up hu) (j3.up hu))
  have H4 := hideIt (fun u (hu : Below w.heap.size w u) => eqIntS_same nums m4 a4 a4_ c4 c4_ f4 u (k4.up hu) (j4.up hu))
  have H5 := hideIt (fun u (hu : Below w.heap.size w u) => eqTask_same i o a b sh num op v es m5 a5 a5_ c5 c5_ f5 u (k5.up hu) (j5.up hu))
  have H6 := hideIt (fun u (hu : Below w.heap.size w u) => eqSaidS_same said m6 a6 a6_ c6 c6_ f6 u (k6.up hu) (j6.up hu))
  clear k1 k2 k3 k4 k5 k6 j1 j2 j3 j4 j5 j6
  have x0 := X1.cell 0 rfl
  have y0 := X2.cell 0 rfl
  have x1 := X1.cell 1 rfl
  have y1 := X2.cell 1 rfl
  have HX1 := hideIt X1
  have HX2 := hideIt X2
  have HB := hideIt B2
  have HT := hideIt (H1.out W B2)
  clear X1 X2 B2
  go_enter Try.func37, Try.ntmps37
  go_upto_region 1 with fail
  rw [← hW]
  clear hW
  go_wp2_with (go_at_call 84; refine HT.out.mono ?_; rintro e w1 ⟨rfl, b1⟩; refine Hid.out ?_)
  refine (show ∀ {p : Prop}, p → Hid p from fun h => h) ?_
  have B3 := HB.out.trans (b1.mono HB.out.size)
  replace HX1 := hideIt (HX1.out.up b1)
  replace HX2 := hideIt (HX2.out.up b1)
  replace HB := hideIt B3
  replace HT := hideIt (H2.out w1 B3)
  clear B3 b1 H1 x0 y0 x1 y1
  have x2 := HX1.out.cell 2 rfl
  have y2 := HX2.out.cell 2 rfl
  go_wp2_with (go_at_call 85; refine HT.out.mono ?_; rintro e w2 ⟨rfl, b2⟩; refine Hid.out ?_)
  refine (show ∀ {p : Prop}, p → Hid p from fun h => h) ?_
  have B3 := HB.out.trans (b2.mono HB.out.size)
  replace HX1 := hideIt (HX1.out.up b2)
  replace HX2 := hideIt (HX2.out.up b2)
  replace HB := hideIt B3
  replace HT := hideIt (H3.out w2 B3)
  clear B3 b2 H2 x2 y2
  have x3 := HX1.out.cell 3 rfl
  have y3 := HX2.out.cell 3 rfl
  go_wp2_with (go_at_call 86; refine HT.out.mono ?_; rintro e w3 ⟨rfl, b3⟩; refine Hid.out ?_)
  refine (show ∀ {p : Prop}, p → Hid p from fun h => h) ?_
  have B3 := HB.out.trans (b3.mono HB.out.size)
  replace HX1 := hideIt (HX1.out.up b3)
  replace HX2 := hideIt (HX2.out.up b3)
  replace HB := hideIt B3
  replace HT := hideIt (H4.out w3 B3)
  clear B3 b3 H3 x3 y3
  have x4 := HX1.out.cell 4 rfl
  have y4 := HX2.out.cell 4 rfl
  go_wp2_with (go_at_call 84; refine HT.out.mono ?_; rintro e w4 ⟨rfl, b4⟩; refine Hid.out ?_)
  refine (show ∀ {p : Prop}, p → Hid p from fun h => h) ?_
  have B3 := HB.out.trans (b4.mono HB.out.size)
  replace HX1 := hideIt (HX1.out.up b4)
  replace HX2 := hideIt (HX2.out.up b4)
  replace HB := hideIt B3
  replace HT := hideIt (H5.out w4 B3)
  clear B3 b4 H4 x4 y4
  have x5 := HX1.out.cell 5 rfl
  have y5 := HX2.out.cell 5 rfl
  have x6 := HX1.out.cell 6 rfl
  have y6 := HX2.out.cell 6 rfl
  have x7 := HX1.out.cell 7 rfl
  have y7 := HX2.out.cell 7 rfl
  have x8 := HX1.out.cell 8 rfl
  have y8 := HX2.out.cell 8 rfl
  have x9 := HX1.out.cell 9 rfl
  have y9 := HX2.out.cell 9 rfl
  have x10 := HX1.out.cell 10 rfl
  have y10 := HX2.out.cell 10 rfl
  have x11 := HX1.out.cell 11 rfl
  have y11 := HX2.out.cell 11 rfl
  have x12 := HX1.out.cell 12 rfl
  have y12 := HX2.out.cell 12 rfl
  have x13 := HX1.out.cell 13 rfl
  have y13 := HX2.out.cell 13 rfl
  go_wp2_with (go_at_call 87; refine HT.out.mono ?_; rintro e w5 ⟨rfl, b5⟩; refine Hid.out ?_)
  refine (show ∀ {p : Prop}, p → Hid p from fun h => h) ?_
  have B3 := HB.out.trans (b5.mono HB.out.size)
  replace HX1 := hideIt (HX1.out.up b5)
  replace HX2 := hideIt (HX2.out.up b5)
  replace HB := hideIt B3
  replace HT := hideIt (H6.out w5 B3)
  clear B3 b5 H5 x5 y5 x6 y6 x7 y7 x8 y8 x9 y9 x10 y10 x11 y11 x12 y12 x13 y13
  have x14 := HX1.out.cell 14 rfl
  have y14 := HX2.out.cell 14 rfl
  go_wp2_with (go_at_call 88; refine HT.out.mono ?_; rintro e w6 ⟨rfl, b6⟩; refine Hid.out ?_)
  refine (show ∀ {p : Prop}, p → Hid p from fun h => h) ?_
  have B3 := HB.out.trans (b6.mono HB.out.size)
  replace HX1 := hideIt (HX1.out.up b6)
  replace HX2 := hideIt (HX2.out.up b6)
  replace HB := hideIt B3
  clear B3 b6 H6 x14 y14
  go_wp2
  go_ret
  exact ⟨rfl, HB.out⟩
end Go.Proofs.Ytiidomopnmjhbaa
namespace Go.Proofs.Ytiidomopnmjhbaa
open Go.RowKit

def sdP (ss : List Sd) (id : Int) (k : Nat) : Bool := match ss[k]? with | some x => (x.id == id) | none => false
theorem sdP_at {ss : List Sd} {id : Int} {k : Nat} {x : Sd} (h : ss[k]? = some x) : sdP ss id k = (x.id == id) := by simp [sdP, h]
/-- the place of an Id, -1 without one -/
def plc (ss : List Sd) (id : Int) : Int := firstN (sdP ss id) ss.length

set_option maxRecDepth 100000 in
set_option maxHeartbeats 2000000 in
theorem iBusy_any (h : Hd) (p : Hp) (w : World) : Calls Try.prog 12 #[.agg (hC h p)] w fun e w' => e = .returned (.bool (h.sh != 0)) ∧ Below w.heap.size w w' := by
  obtain ⟨N, own, cuts, lab, nums, i, o, a, b, sh, num, op, es, v, said⟩ := h
  obtain ⟨⟨a1, n1, c1⟩, ⟨a2, n2, c2⟩, ⟨a3, n3, c3⟩, ⟨a4, n4, c4⟩, ⟨a5, n5, c5⟩, ⟨a6, n6, c6⟩⟩ := p
  dsimp only [hC, Sx.v]
  go_enter Try.func12, Try.ntmps12
  go_wp2
  go_ret
  exact ⟨rfl, belA _ _⟩
theorem saidIt_any (x : Sd) (id : Int) (B : Nat) (w : World) (hB : w.cell? ⟨B, 0, none⟩ = some (.int .i64 id)) (hl : B < w.heap.size) :
    Calls Try.prog 74 #[sdV x, .pointer (some ⟨B, 0, none⟩)] w fun e w' => e = .returned (.bool (x.id == id)) ∧ Below w.heap.size w w' := by
  obtain ⟨xid, i, o, a, b, s⟩ := x
  dsimp only [sdV]
  go_enter Try.func74, Try.ntmps74
  go_wp2
  go_ret
  exact ⟨rfl, belA _ _⟩

set_option maxRecDepth 100000 in
set_option maxHeartbeats 2000000 in
theorem idxFS_any (ss : List Sd) (id : Int) (n : Nat) (a : Option Addr) (c : Nat) (hn : n ≤ 1048576) (B : Nat) (w : World) (h : Ss w w.heap.size a n ss) (hB : w.cell? ⟨B, 0, none⟩ = some (.int .i64 id)) (hl : B < w.heap.size) :
    Calls Try.prog 73 #[.slice a n c, .func (.func 74) #[] #[.pointer (some ⟨B, 0, none⟩)]] w fun e w' => e = .returned (.int .i64 (plc ss id)) ∧ Below w.heap.size w w' := by
  have HC := hideIt (fun x u (hu : Below w.heap.size w u) => saidIt_any x id B u (by rw [hu.cell (p := ⟨B, 0, none⟩) hl]; exact hB) (by have := hu.size; omega))
  have hlen := h.1
  have HR := hideIt h
  clear h hB
  go_enter Try.func73, Try.ntmps73
  go_wp2
  go_loopw [8] (fun i wr => ∃ (k : Nat), k ≤ n ∧ i = .int .i64 (k : Int) ∧ Hid (∀ j, j < k → sdP ss id j = false) ∧ Hid (Below w.heap.size w wr)) (fun i _ => n - (intOf i).toNat)
  case atStart => exact ⟨0, by omega, rfl, fun j hj => by omega, Below.refl _ _⟩
  case round =>
    obtain ⟨k, hk, rfl, HF, HB⟩ := hrel
    by_cases hlt : k < n
    · obtain ⟨b1, off, x, rfl, _, hx, hat⟩ := (HR.out.below HB.out (Nat.le_refl _)).at hlt
      obtain ⟨e0, e1, e2, e3, e4, e5⟩ := hat
      have q1 : (0 : Int) ≤ (k : Int) := by omega
      have q2 : (k : Int) < (n : Int) := by omega
      have HC1 := hideIt (HC.out x wr HB.out)
      have hcf := sdP_at (id := id) hx
      cases hv : (x.id == id) with
      | true =>
        rw [hv] at HC1 hcf
        have hm := hideIt (show plc ss id = (k : Int) from firstN_yes (by omega) hcf HF.out)
        clear hx hv HF hcf HC
        go_wp2_with (go_at_call 74; refine HC1.out.mono ?_; rintro e w1 ⟨rfl, hb⟩)
        go_ret
        exact ⟨retI hm.out, HB.out.trans (hb.mono HB.out.size)⟩
      | false =>
        rw [hv] at HC1 hcf
        have HF2 := hideIt (all_step HF.out hcf)
        clear hx hv HF hcf HC
        go_wp2_with (go_at_call 74; refine HC1.out.mono ?_; rintro e w1 ⟨rfl, hb⟩)
        exact ⟨⟨k + 1, by omega, by go_num, HF2, HB.out.trans (hb.mono HB.out.size)⟩, by simp [intOf]; omega⟩
    · obtain rfl : k = n := by omega
      have hm := hideIt (show plc ss id = -1 from firstN_no (by rw [hlen]; exact HF.out))
      clear HF
      go_wp2
      go_ret
      exact ⟨retI hm.out, HB.out⟩
theorem placeSaid_any (ss : List Sd) (id : Int) (n : Nat) (a : Option Addr) (c : Nat) (hn : n ≤ 1048576) (w : World) (h : Ss w w.heap.size a n ss) :
    Calls Try.prog 29 #[.slice a n c, .int .i64 id] w fun e w' => e = .returned (.int .i64 (plc ss id)) ∧ Below w.heap.size w w' := by
  have hb := belA w (.cells #[.int .i64 id] 3)
  have HI := hideIt (idxFS_any ss id n a c hn w.heap.size (w.alloc (.cells #[.int .i64 id] 3)) (h.up hb) (by simp) (by simp))
  clear h
  go_enter Try.func29, Try.ntmps29
  go_wp2_with (go_at_call 73; refine HI.out.mono ?_; rintro e w1 ⟨rfl, hb1⟩)
  go_ret
  exact ⟨rfl, hb.trans (hb1.mono (by simp))⟩

/-- what ReplyOf answers -/
def ryI (ss : List Sd) (id : Int) : Int := if plc ss id < 0 then 0 else ((ss[(plc ss id).toNat]?).map Sd.s).getD 0
def ryB (ss : List Sd) (id : Int) : Bool := !decide (plc ss id < 0)
set_option maxRecDepth 100000 in
set_option maxHeartbeats 4000000 in
theorem iReplyOf_any (h : Hd) (p : Hp) (id : Int) (hn : p.s.n ≤ 1048576) (w : World) (k : Ss w w.heap.size p.s.a p.s.n h.said) :
    Calls Try.prog 10 #[.agg (hC h p), .int .i64 id] w fun e w' => e = .returned (.tuple #[.int .i64 (ryI h.said id), .bool (ryB h.said id)]) ∧ Below w.heap.size w w' := by
  have hb0 := belA w (.cells (hC h p) 37)
  have X0 := BxA.new w 37 (hC h p)
  obtain ⟨N, own, cuts, lab, nums, i, o, a, b, sh, num, op, es, v, said⟩ := h
  obtain ⟨⟨a1, n1, c1⟩, ⟨a2, n2, c2⟩, ⟨a3, n3, c3⟩, ⟨a4, n4, c4⟩, ⟨a5, n5, c5⟩, ⟨a6, n6, c6⟩⟩ := p
  dsimp only [hC, Sx.v] at *
  have hlen := k.1
  have HR := hideIt (k.up hb0)
  have HX := hideIt X0
  have x14 := X0.cell 14 rfl
  have HB := hideIt hb0
  obtain ⟨W, hW⟩ : ∃ W, W = w.alloc (.cells #[.int .i64 N, .slice a1 n1 c1, .slice a2 n2 c2, .slice a3 n3 c3, .slice a4 n4 c4, .int .i64 i, .int .i64 o, .int .i64 a, .int .i64 b, .int .i64 sh, .int .i64 num, .int .i64 op, .slice a5 n5 c5, .int .i64 v, .slice a6 n6 c6] 37) := ⟨_, rfl⟩
  rw [← hW] at HR x14 HB HX
  have HP := hideIt (placeSaid_any said id n6 a6 c6 hn W HR.out)
  clear k hb0 X0
  rcases firstN_cases (sdP said id) said.length with ⟨q, hq, hc, _, he⟩ | ⟨_, he⟩
  · have hp : plc said id = (q : Int) := he
    obtain ⟨x, hx⟩ : ∃ x, said[q]? = some x := ⟨said[q], List.getElem?_eq_getElem hq⟩
    have HI : Hid (ryI said id = x.s ∧ ryB said id = true) := ⟨by unfold ryI; rw [hp, if_neg (by omega), Int.toNat_natCast, hx]; rfl, by unfold ryB; rw [hp, decide_eq_false (by omega)]; rfl⟩
    rw [hp] at HP
    have d1 : decide ((q : Int) < 0) = false := decide_eq_false (by omega)
    have q1 : (0 : Int) ≤ (q : Int) := by omega
    have q2 : (q : Int) < (n6 : Int) := by omega
    have Hx := hideIt hx
    clear hp he hc hx
    go_enter Try.func10, Try.ntmps10
    go_upto_region 1 with fail
    rw [← hW]
    clear hW
    go_wp2_with (go_at_call 29; refine HP.out.mono ?_; rintro e w1 ⟨rfl, hb1⟩; refine Hid.out ?_)
    refine (show ∀ {p : Prop}, p → Hid p from fun h => h) ?_
    have y14 := (HX.out.up hb1).cell 14 rfl
    obtain ⟨b1, off, x', rfl, _, hx', hat⟩ := (HR.out.up hb1).at (k := q) (by omega)
    rw [Hx.out] at hx'
    obtain rfl := Option.some.inj hx'
    have e5 := hat.c5
    have HB2 := hideIt (HB.out.trans (hb1.mono HB.out.size))
    clear hat hx' hb1 HP HX HB x14 HR
    go_wp2
    go_ret2
    exact ⟨by rw [HI.out.1, HI.out.2]; rfl, HB2.out⟩
  · have hp : plc said id = -1 := he
    have HI : Hid (ryI said id = 0 ∧ ryB said id = false) := ⟨by unfold ryI; rw [hp, if_pos (by omega)], by unfold ryB; rw [hp]; rfl⟩
    rw [hp] at HP
    clear hp he
    go_enter Try.func10, Try.ntmps10
    go_upto_region 1 with fail
    rw [← hW]
    clear hW
    go_wp2_with (go_at_call 29; refine HP.out.mono ?_; rintro e w1 ⟨rfl, hb1⟩)
    go_ret2
    exact ⟨by rw [HI.out.1, HI.out.2]; rfl, HB.out.trans (hb1.mono HB.out.size)⟩
end Go.Proofs.Ytiidomopnmjhbaa
namespace Go.Proofs.Ytiidomopnmjhbaa.O
open Go.ChangeShapes Go.WideShapes Go.ChangeAt Go.RowKit

theorem cells3 : Try.prog.cellsOf 3 = 1 := by kernel_rfl

/-- an edge as the machine bears it -/
def FitE (f : EdgeV) : Prop := (Lit.int .i64 f.1).wf = true ∧ (Lit.int .i64 f.2).wf = true

theorem two {α : Type} {l : List α} (h : l.length = 2) : ∃ a b, l = [a, b] := by
  cases l with
  | nil => simp at h
  | cons a l =>
    cases l with
    | nil => simp at h
    | cons b l =>
      cases l with
      | nil => exact ⟨a, b, rfl⟩
      | cons c l => simp at h

end Go.Proofs.Ytiidomopnmjhbaa.O
namespace Go.Proofs.Ytiidomopnmjhbaa.O
open Go.RowKit

/-- nothing below has turned since w -/
def Good (w u : World) : Prop := Below w.heap.size w u
theorem Good.refl (w : World) : Good w w := Below.refl _ _
theorem Good.size {w u : World} (h : Good w u) : w.heap.size ≤ u.heap.size := Below.size h
theorem Good.up {w u v : World} (h : Good w u) (hb : Below u.heap.size u v) : Good w v := Below.trans h (hb.mono h.size)
theorem Good.alloc {w u : World} (h : Good w u) (o : Obj) : Good w (u.alloc o) := h.up ((Below.refl _ _).alloc (Nat.le_refl _) _)
theorem Good.drew {w u : World} (h : Good w u) : Good w u.drew := Below.drew h
theorem Good.es {w u : World} (h : Good w u) {a : Option Addr} {n : Nat} {fs : List EdgeV} (hf : Es w w.heap.size a n fs) : Es u u.heap.size a n fs := hf.up h
theorem Good.cell {w u : World} (h : Good w u) {b o : Nat} (hb : b < w.heap.size) : u.cell? ⟨b, o, none⟩ = w.cell? ⟨b, o, none⟩ := Below.cell h hb
end Go.Proofs.Ytiidomopnmjhbaa.O
namespace Go.Proofs.Ytiidomopnmjhbaa.O
open Go.RowKit

theorem grown_of_below {w w' : World} (h : Below w.heap.size w w') (row : Option Nat) : w.grownBy w' row :=
  ⟨h.os, h.tape, h.output, h.size, fun k hk _ => h.block k hk⟩
theorem grown_trans {a b c : World} {row : Option Nat} (h : a.grownBy b row) (k : b.grownBy c row) : a.grownBy c row :=
  ⟨k.os.trans h.os, k.tape.trans h.tape, k.output.trans h.output, Nat.le_trans h.size k.size, fun i hi hr => (k.block i (Nat.lt_of_lt_of_le hi h.size) hr).trans (h.block i hi hr)⟩

/-- n marked edges from k0 on -/
def marks (k0 n : Nat) : List EdgeV := (List.range n).map fun (t : Nat) => ((k0 : Int) + (t : Int) * 2, (k0 : Int) + (t : Int) * 2 + 1)
theorem marks_snoc (k0 n : Nat) : marks k0 (n + 1) = marks k0 n ++ [((k0 : Int) + (n : Int) * 2, (k0 : Int) + (n : Int) * 2 + 1)] := by simp [marks, List.range_succ]
theorem marks_length (k0 n : Nat) : (marks k0 n).length = n := by simp [marks]
theorem marks_at (k0 n j : Nat) (h : j < n) : (marks k0 n)[j]? = some ((k0 : Int) + (j : Int) * 2, (k0 : Int) + (j : Int) * 2 + 1) := by simp [marks, h]

theorem markEdgeS_zero (a : Option Addr) (c : Nat) (k0 : Int) (w : World) :
    Calls Try.prog 95 #[.slice a 0 c, .int .i64 k0] w fun e w' => e = .returned (.int .i64 k0) ∧ w' = w := by
  go_enter Try.func95, Try.ntmps95
  go_wp2
  refine wp_loop_rounds 1 ?_
  rw [rounds_succ]
  go_wp2
  go_ret
  exact ⟨rfl, rfl⟩

set_option maxRecDepth 100000 in
set_option maxHeartbeats 4000000 in
theorem markEdgeS_any (base g c n k0 : Nat) (fs : List EdgeV) (hn : n ≤ 1048576) (hk1 : k0 ≤ 10000000) (w : World)
    (h : w.ownsRow base 107 2 (.slice (some ⟨g, 0, none⟩) n c) n (ecells fs)) :
    Calls Try.prog 95 #[.slice (some ⟨g, 0, none⟩) n c, .int .i64 (k0 : Int)] w fun e w' => e = .returned (.int .i64 ((k0 : Int) + (n : Int) * 2)) ∧
      w'.ownsRow base 107 2 (.slice (some ⟨g, 0, none⟩) n c) n (ecells (marks k0 n)) ∧ w.grownBy w' (some g) := by
  have HO0 := hideIt h
  clear h
  go_enter Try.func95, Try.ntmps95
  go_wp2
  go_loopw [1, 5] (fun kk i wr => ∃ (j : Nat) (xs : List Value), j ≤ n ∧ i = .int .i64 (j : Int) ∧ kk = .int .i64 ((k0 : Int) + (j : Int) * 2) ∧ Hid (xs.take (j * 2) = ecells (marks k0 j)) ∧
      wr.ownsRow base 107 2 (.slice (some ⟨g, 0, none⟩) n c) n xs ∧ w.grownBy wr (some g)) (fun _ i _ => n - (intOf i).toNat)
  case atStart => exact ⟨0, _, by omega, rfl, by simp, by show _ = _; simp [ecells, marks], HO0.out, ⟨rfl, rfl, rfl, Nat.le_refl _, fun _ _ _ => rfl⟩⟩
  case round =>
    obtain ⟨j, xs, hj, rfl, rfl, hx, hown, hgr⟩ := hrel
    clear HO0
    have hl3 : xs.length = n * 2 := hown.1
    by_cases hlt : j < n
    · have b1 : (0 : Int) ≤ (j : Int) := by omega
      have b2 : (j : Int) < (n : Int) := by omega
      obtain ⟨y0, c0⟩ : ∃ y, wr.cell? ⟨g, j * 2, none⟩ = some y := ⟨_, by rw [hown.cellAt (j * 2) (by omega)]; exact List.getElem?_eq_getElem (by omega)⟩
      obtain ⟨y1, c1⟩ : ∃ y, wr.cell? ⟨g, j * 2 + 1, none⟩ = some y := ⟨_, by rw [hown.cellAt (j * 2 + 1) (by omega)]; exact List.getElem?_eq_getElem (by omega)⟩
      have f0 := hown.frozenAt (j * 2)
      have f1 := hown.frozenAt (j * 2 + 1)
      have hst1 := hown.stored (j * 2) (.int .i64 ((k0 : Int) + (j : Int) * 2))
      have hst2 := hst1.1.stored (j * 2 + 1) (.int .i64 ((k0 : Int) + (j : Int) * 2 + 1))
      have HO2 := hideIt hst2.1
      have HG2 := hideIt (grown_trans (grown_trans hgr hst1.2) hst2.2)
      have HX : Hid (((xs.set (j * 2) (.int .i64 ((k0 : Int) + (j : Int) * 2))).set (j * 2 + 1) (.int .i64 ((k0 : Int) + (j : Int) * 2 + 1))).take ((j + 1) * 2) = ecells (marks k0 (j + 1))) := by
        show _ = _
        rw [show (j + 1) * 2 = j * 2 + 2 by omega, take_set2 _ _ _ _ (by omega), hx.out, marks_snoc, ecells_snoc]
      clear hst1 hst2 hx hown hgr
      go_wp2
      exact ⟨⟨j + 1, _, by omega, by go_num, by go_num, HX, HO2.out, HG2.out⟩, by simp [intOf]; omega⟩
    · obtain rfl : j = n := by omega
      have HX : Hid (xs = ecells (marks k0 j)) := by
        show _ = _
        have := hx.out
        rw [List.take_of_length_le (by omega)] at this
        exact this
      have HO := hideIt hown
      clear hx hown
      go_wp2
      go_ret
      exact ⟨rfl, by rw [← HX.out]; exact HO.out, hgr⟩

set_option maxRecDepth 100000 in
set_option maxHeartbeats 4000000 in
theorem heldEdgeS_any (n k0 : Nat) (a : Option Addr) (c : Nat) (hn : n ≤ 1048576) (hk1 : k0 ≤ 10000000) (w : World) (h : Es w w.heap.size a n (marks k0 n)) :
    Calls Try.prog 103 #[.slice a n c, .int .i64 (k0 : Int)] w fun e w' => e = .returned (.int .i64 ((k0 : Int) + (n : Int) * 2)) ∧ w' = w := by
  obtain ⟨_, hrow⟩ := h
  have HR := hideIt hrow
  clear hrow
  go_enter Try.func103, Try.ntmps103
  go_wp2
  go_loopw [1, 5] (fun kk i wr => ∃ j : Nat, j ≤ n ∧ i = .int .i64 (j : Int) ∧ kk = .int .i64 ((k0 : Int) + (j : Int) * 2) ∧ wr = w) (fun _ i _ => n - (intOf i).toNat)
  case atStart => exact ⟨0, by omega, rfl, by simp, rfl⟩
  case round =>
    obtain ⟨j, hj, rfl, rfl, hw⟩ := hrel
    have hw' := hw.symm
    subst hw'
    clear hw
    by_cases hlt : j < n
    · rcases HR.out with hz | ⟨b, off, rfl, hbl, hc⟩
      · omega
      · obtain ⟨c0, c1⟩ := hc j _ (marks_at k0 n j hlt)
        dsimp only at c0 c1
        have b1 : (0 : Int) ≤ (j : Int) := by omega
        have b2 : (j : Int) < (n : Int) := by omega
        clear hc
        go_wp2
        exact ⟨⟨j + 1, by omega, by go_num, by go_num, by first | trivial | rfl⟩, by simp [intOf]; omega⟩
    · obtain rfl : j = n := by omega
      go_wp2
      go_ret
      exact ⟨rfl, rfl⟩

end Go.Proofs.Ytiidomopnmjhbaa.O
