/- eqHead: a head is the same as itself, laid elsewhere. eqHead: a head is the same as itself, laid elsewhere. Busy, and the place of what is said, on both sides. A forest that comes in. A graph and an edge that come in, as the walks want them. A head that comes in. -/
import Derived.Test.YtdihemjfnjhdiaaKHh13
import Derived.Test.YtdihemjfnjhdiaaKSd13
import Derived.WalkKit
import Derived.ProofKit
import Derived.OpenShut
import Derived.ChangeOld
import Derived.ChangeArms
import Derived.Below
import Derived.ChangeSlices
namespace Go.Proofs.Ytdihemjfnjhdiaa
open Go.RowKit

set_option maxRecDepth 100000 in
set_option maxHeartbeats 4000000 in
theorem eqOrder_new (num op v : Int) (fs : List O.EdgeV) (n : Nat) (a a' : Option Addr) (c c' : Nat) (hn : n ≤ 1048576) (w : World) (h : O.Es w w.heap.size a n fs) (h' : O.Es w w.heap.size a' n fs) :
    Calls Try.prog 96 #[.agg #[.int .i64 num, .int .i64 op, .slice a n c, .int .i64 v], .agg #[.int .i64 num, .int .i64 op, .slice a' n c', .int .i64 v]] w fun e w' => e = .returned (.bool true) ∧ Below w.heap.size w w' := by
  have B2 : Below w.heap.size w ((w.alloc (.cells #[.int .i64 num, .int .i64 op, .slice a n c, .int .i64 v] 32)).alloc (.cells #[.int .i64 num, .int .i64 op, .slice a' n c', .int .i64 v] 32)) := ((Below.refl _ _).alloc (Nat.le_refl _) _).alloc (by simp) _
  have HT := hideIt (O.eqEdgeS_same fs n a a' c c' hn _ (h.up B2) (h'.up B2))
  have HB := hideIt B2
  clear h h' B2
  go_enter Try.func96, Try.ntmps96
  go_wp2_with (go_at_call 42; refine HT.out.mono ?_; rintro e w1 ⟨rfl, hb1⟩; refine Hid.out ?_)
  refine (show ∀ {p : Prop}, p → Hid p from fun h => h) ?_
  obtain ⟨hc, hf⟩ := bcell hb1
  have HB2 := hideIt (HB.out.trans (hb1.mono (by simp; omega)))
  have hz := hb1.size
  simp at hz
  clear HT hb1
  go_wp2
  go_ret
  exact ⟨rfl, HB2.out⟩
set_option maxRecDepth 100000 in
set_option maxHeartbeats 4000000 in
theorem eqTask_same (i o a b sh num op v : Int) (fs : List O.EdgeV) (n : Nat) (ad ad' : Option Addr) (c c' : Nat) (hn : n ≤ 1048576) (w : World) (h : O.Es w w.heap.size ad n fs) (h' : O.Es w w.heap.size ad' n fs) :
    Calls Try.prog 44 #[.agg #[.int .i64 i, .int .i64 o, .int .i64 a, .int .i64 b, .int .i64 sh, .int .i64 num, .int .i64 op, .slice ad n c, .int .i64 v], .agg #[.int .i64 i, .int .i64 o, .int .i64 a, .int .i64 b, .int .i64 sh, .int .i64 num, .int .i64 op, .slice ad' n c', .int .i64 v]] w fun e w' => e = .returned (.bool true) ∧ Below w.heap.size w w' := by
  obtain ⟨W, hW⟩ : ∃ W, W = (w.alloc (.cells #[.int .i64 i, .int .i64 o, .int .i64 a, .int .i64 b, .int .i64 sh, .int .i64 num, .int .i64 op, .slice ad n c, .int .i64 v] 34)).alloc (.cells #[.int .i64 i, .int .i64 o, .int .i64 a, .int .i64 b, .int .i64 sh, .int .i64 num, .int .i64 op, .slice ad' n c', .int .i64 v] 34) := ⟨_, rfl⟩
  have B2 : Below w.heap.size w W := by rw [hW]; exact ((Below.refl _ _).alloc (Nat.le_refl _) _).alloc (by simp) _
  have X1 := (BxA.new w 34 #[.int .i64 i, .int .i64 o, .int .i64 a, .int .i64 b, .int .i64 sh, .int .i64 num, .int .i64 op, .slice ad n c, .int .i64 v]).up (belA _ (.cells #[.int .i64 i, .int .i64 o, .int .i64 a, .int .i64 b, .int .i64 sh, .int .i64 num, .int .i64 op, .slice ad' n c', .int .i64 v] 34))
  have X2 := BxA.new (w.alloc (.cells #[.int .i64 i, .int .i64 o, .int .i64 a, .int .i64 b, .int .i64 sh, .int .i64 num, .int .i64 op, .slice ad n c, .int .i64 v] 34)) 34 #[.int .i64 i, .int .i64 o, .int .i64 a, .int .i64 b, .int .i64 sh, .int .i64 num, .int .i64 op, .slice ad' n c', .int .i64 v]
  rw [← hW] at X1 X2
  rw [show (w.alloc (.cells #[.int .i64 i, .int .i64 o, .int .i64 a, .int .i64 b, .int .i64 sh, .int .i64 num, .int .i64 op, .slice ad n c, .int .i64 v] 34)).heap.size = w.heap.size + 1 by simp] at X2
  have HA := hideIt (eqAsk_yes i o a b W)
  have HO := hideIt (fun u (hu : Below w.heap.size w u) => eqOrder_new num op v fs n ad ad' c c' hn u (h.up hu) (h'.up hu))
  have HB := hideIt B2
  have HX1 := hideIt X1
  have HX2 := hideIt X2
  have x0 := X1.cell 0 rfl
  have x1 := X1.cell 1 rfl
  have x2 := X1.cell 2 rfl
  have x3 := X1.cell 3 rfl
  have y0 := X2.cell 0 rfl
  have y1 := X2.cell 1 rfl
  have y2 := X2.cell 2 rfl
  have y3 := X2.cell 3 rfl
  have ds : (sh != sh) = false := by simp
  clear h h' B2 X1 X2
  go_enter Try.func44, Try.ntmps44
  go_upto_region 1 with fail
  rw [← hW]
  clear hW
  go_wp2_with (go_at_call 95; refine HA.out.mono ?_; rintro e w1 ⟨rfl, b1⟩; refine Hid.out ?_)
  refine (show ∀ {p : Prop}, p → Hid p from fun h => h) ?_
  have B3 := HB.out.trans (b1.mono HB.out.size)
  have HO2 := hideIt (HO.out w1 B3)
  have HB3 := hideIt B3
  have Y1 := HX1.out.up b1
  have Y2 := HX2.out.up b1
  clear x0 x1 x2 x3 y0 y1 y2 y3 B3 b1 HB HO HA HX1 HX2
  have x4 := Y1.cell 4 rfl
  have x5 := Y1.cell 5 rfl
  have x6 := Y1.cell 6 rfl
  have x7 := Y1.cell 7 rfl
  have x8 := Y1.cell 8 rfl
  have y4 := Y2.cell 4 rfl
  have y5 := Y2.cell 5 rfl
  have y6 := Y2.cell 6 rfl
  have y7 := Y2.cell 7 rfl
  have y8 := Y2.cell 8 rfl
  clear Y1 Y2
  go_wp2_with (go_at_call 96; refine HO2.out.mono ?_; rintro e w2 ⟨rfl, b2⟩)
  go_ret
  exact ⟨rfl, HB3.out.trans (b2.mono HB3.out.size)⟩
end Go.Proofs.Ytdihemjfnjhdiaa
namespace Go.Proofs.Ytdihemjfnjhdiaa
open Go.RowKit

/-- lists as long -/
def HpL (p p' : Hp) : Prop := p'.o.n = p.o.n ∧ p'.c.n = p.c.n ∧ p'.l.n = p.l.n ∧ p'.n.n = p.n.n ∧ p'.e.n = p.e.n ∧ p'.s.n = p.s.n
theorem HIn.lens {w w' : World} {h : Hd} {p p' : Hp} (k : HIn w h p) (k' : HIn w' h p') : HpL p p' :=
  ⟨k'.o.1.symm.trans k.o.1, k'.c.1.symm.trans k.c.1, k'.l.1.symm.trans k.l.1, k'.n.1.symm.trans k.n.1, k'.e.1.symm.trans k.e.1, k'.s.1.symm.trans k.s.1⟩
theorem HFit.of {h : Hd} {p p' : Hp} (k : HFit h p) (l : HpL p p') : HFit h p' := by
  obtain ⟨l1, l2, l3, l4, l5, l6⟩ := l
  exact ⟨by rw [l1]; exact k.o, by rw [l2]; exact k.c, by rw [l3]; exact k.l, by rw [l4]; exact k.n, by rw [l5]; exact k.e, by rw [l6]; exact k.s⟩

set_option maxRecDepth 100000 in
set_option maxHeartbeats 8000000 in
theorem eqHead_same (h : Hd) (p p' : Hp) (hf : HFit h p) (w : World) (k : HIn w h p) (k' : HIn w h p') : Calls Try.prog 16 #[.agg (hC h p), .agg (hC h p')] w fun e w' => e = .returned (.bool true) ∧ Below w.heap.size w w' := by
  have hl := k.lens k'
  obtain ⟨N, own, cuts, lab, nums, i, o, a, b, sh, num, op, es, v, said⟩ := h
  obtain ⟨⟨a1, n1, c1⟩, ⟨a2, n2, c2⟩, ⟨a3, n3, c3⟩, ⟨a4, n4, c4⟩, ⟨a5, n5, c5⟩, ⟨a6, n6, c6⟩⟩ := p
  obtain ⟨⟨a1_, m1, c1_⟩, ⟨a2_, m2, c2_⟩, ⟨a3_, m3, c3_⟩, ⟨a4_, m4, c4_⟩, ⟨a5_, m5, c5_⟩, ⟨a6_, m6, c6_⟩⟩ := p'
  obtain ⟨h1, h2, h3, h4, h5, h6⟩ := hl
  dsimp only at h1 h2 h3 h4 h5 h6
  subst h1 h2 h3 h4 h5 h6
  obtain ⟨f1, f2, f3, f4, f5, f6⟩ := hf
  obtain ⟨k1, k2, k3, k4, k5, k6⟩ := k
  obtain ⟨j1, j2, j3, j4, j5, j6⟩ := k'
  dsimp only [hC, Sx.v] at *
  obtain ⟨W, hW⟩ : ∃ W, W = (w.alloc (.cells #[.int .i64 N, .slice a1 m1 c1, .slice a2 m2 c2, .slice a3 m3 c3, .slice a4 m4 c4, .int .i64 i, .int .i64 o, .int .i64 a, .int .i64 b, .int .i64 sh, .int .i64 num, .int .i64 op, .slice a5 m5 c5, .int .i64 v, .slice a6 m6 c6] 37)).alloc (.cells #[.int .i64 N, .slice a1_ m1 c1_, .slice a2_ m2 c2_, .slice a3_ m3 c3_, .slice a4_ m4 c4_, .int .i64 i, .int .i64 o, .int .i64 a, .int .i64 b, .int .i64 sh, .int .i64 num, .int .i64 op, .slice a5_ m5 c5_, .int .i64 v, .slice a6_ m6 c6_] 37) := ⟨_, rfl⟩
  have B2 : Below w.heap.size w W := by rw [hW]; exact ((Below.refl _ _).alloc (Nat.le_refl _) _).alloc (by simp) _
  have X1 := (BxA.new w 37 #[.int .i64 N, .slice a1 m1 c1, .slice a2 m2 c2, .slice a3 m3 c3, .slice a4 m4 c4, .int .i64 i, .int .i64 o, .int .i64 a, .int .i64 b, .int .i64 sh, .int .i64 num, .int .i64 op, .slice a5 m5 c5, .int .i64 v, .slice a6 m6 c6]).up (belA _ (.cells #[.int .i64 N, .slice a1_ m1 c1_, .slice a2_ m2 c2_, .slice a3_ m3 c3_, .slice a4_ m4 c4_, .int .i64 i, .int .i64 o, .int .i64 a, .int .i64 b, .int .i64 sh, .int .i64 num, .int .i64 op, .slice a5_ m5 c5_, .int .i64 v, .slice a6_ m6 c6_] 37))
  have X2 := BxA.new (w.alloc (.cells #[.int .i64 N, .slice a1 m1 c1, .slice a2 m2 c2, .slice a3 m3 c3, .slice a4 m4 c4, .int .i64 i, .int .i64 o, .int .i64 a, .int .i64 b, .int .i64 sh, .int .i64 num, .int .i64 op, .slice a5 m5 c5, .int .i64 v, .slice a6 m6 c6] 37)) 37 #[.int .i64 N, .slice a1_ m1 c1_, .slice a2_ m2 c2_, .slice a3_ m3 c3_, .slice a4_ m4 c4_, .int .i64 i, .int .i64 o, .int .i64 a, .int .i64 b, .int .i64 sh, .int .i64 num, .int .i64 op, .slice a5_ m5 c5_, .int .i64 v, .slice a6_ m6 c6_]
  rw [← hW] at X1 X2
  rw [show (w.alloc (.cells #[.int .i64 N, .slice a1 m1 c1, .slice a2 m2 c2, .slice a3 m3 c3, .slice a4 m4 c4, .int .i64 i, .int .i64 o, .int .i64 a, .int .i64 b, .int .i64 sh, .int .i64 num, .int .i64 op, .slice a5 m5 c5, .int .i64 v, .slice a6 m6 c6] 37)).heap.size = w.heap.size + 1 by simp] at X2
  have dn : (N != N) = false := by simp
  have H1 := hideIt (fun u (hu : Below w.heap.size w u) => eqIntS_same own m1 a1 a1_ c1 c1_ f1 u (k1.up hu) (j1.up hu))
  have H2 := hideIt (fun u (hu : Below w.heap.size w u) => O.eqEdgeS_same cuts m2 a2 a2_ c2 c2_ f2 u (k2.up hu) (j2.up hu))
  have H3 := hideIt (fun u (hu : Below w.heap.size w u) => eqIntSS_same lab m3 a3 a3_ c3 c3_ f3 u (k3.up hu) (j3.up hu))
  have H4 := hideIt (fun u (hu : Below w.heap.size w u) => eqIntS_same nums m4 a4 a4_ c4 c4_ f4 u (k4.up hu) (j4.up hu))
  have H5 := hideIt (fun u (hu : Below w.heap.size w u) => eqTask_same i o a b sh num op v es m5 a5 a5_ c5 c5_ f5 u (k5.up hu) (j5.up hu))
  have H6 := hideIt (fun u (hu : Below w.heap.size w u) => eqSaidS_same said m6 a6 a6_ c6 c6_ f6 u (k6.up hu) (j6.up hu))
  clear k1 k2 k3 k4 k5 k6 j1 j2 j3 j4 j5 j6
  have x0 := X1.cell 0 rfl
  have y0 := X2.cell 0 rfl
  have x1 := X1.cell 1 rfl
  have y1 := X2.cell 1 rfl
  have HX1 := hideIt X1
  have HX2 := hideIt X2
  have HB := hideIt B2
  have HT := hideIt (H1.out W B2)
  clear X1 X2 B2
  go_enter Try.func16, Try.ntmps16
  go_upto_region 1 with fail
  rw [← hW]
  clear hW
  go_wp2_with (go_at_call 41; refine HT.out.mono ?_; rintro e w1 ⟨rfl, b1⟩; refine Hid.out ?_)
  refine (show ∀ {p : Prop}, p → Hid p from fun h => h) ?_
  have B3 := HB.out.trans (b1.mono HB.out.size)
  replace HX1 := hideIt (HX1.out.up b1)
  replace HX2 := hideIt (HX2.out.up b1)
  replace HB := hideIt B3
  replace HT := hideIt (H2.out w1 B3)
  clear B3 b1 H1 x0 y0 x1 y1
  have x2 := HX1.out.cell 2 rfl
  have y2 := HX2.out.cell 2 rfl
  go_wp2_with (go_at_call 42; refine HT.out.mono ?_; rintro e w2 ⟨rfl, b2⟩; refine Hid.out ?_)
  refine (show ∀ {p : Prop}, p → Hid p from fun h => h) ?_
  have B3 := HB.out.trans (b2.mono HB.out.size)
  replace HX1 := hideIt (HX1.out.up b2)
  replace HX2 := hideIt (HX2.out.up b2)
  replace HB := hideIt B3
  replace HT := hideIt (H3.out w2 B3)
  clear B3 b2 H2 x2 y2
  have x3 := HX1.out.cell 3 rfl
  have y3 := HX2.out.cell 3 rfl
  go_wp2_with (go_at_call 43; refine HT.out.mono ?_; rintro e w3 ⟨rfl, b3⟩; refine Hid.out ?_)
  refine (show ∀ {p : Prop}, p → Hid p from fun h => h) ?_
  have B3 := HB.out.trans (b3.mono HB.out.size)
  replace HX1 := hideIt (HX1.out.up b3)
  replace HX2 := hideIt (HX2.out.up b3)
  replace HB := hideIt B3
  replace HT := hideIt (H4.out w3 B3)
  clear B3 b3 H3 x3 y3
  have x4 := HX1.out.cell 4 rfl
  have y4 := HX2.out.cell 4 rfl
  go_wp2_with (go_at_call 41; refine HT.out.mono ?_; rintro e w4 ⟨rfl, b4⟩; refine Hid.out ?_)
  refine (show ∀ {p : Prop}, p → Hid p from fun h => h) ?_
  have B3 := HB.out.trans (b4.mono HB.out.size)
  replace HX1 := hideIt (HX1.out.up b4)
  replace HX2 := hideIt (HX2.out.up b4)
  replace HB := hideIt B3
  replace HT := hideIt (H5.out w4 B3)
  clear B3 b4 H4 x4 y4
  have x5 := HX1.out.cell 5 rfl
  have y5 := HX2.out.cell 5 rfl
  have x6 := HX1.out.cell 6 rfl
  have y6 := HX2.out.cell 6 rfl
  have x7 := HX1.out.cell 7 rfl
  have y7 := HX2.out.cell 7 rfl
  have x8 := HX1.out.cell 8 rfl
  have y8 := HX2.out.cell 8 rfl
  have x9 := HX1.out.cell 9 rfl
  have y9 := HX2.out.cell 9 rfl
  have x10 := HX1.out.cell 10 rfl
  have y10 := HX2.out.cell 10 rfl
  have x11 := HX1.out.cell 11 rfl
  have y11 := HX2.out.cell 11 rfl
  have x12 := HX1.out.cell 12 rfl
  have y12 := HX2.out.cell 12 rfl
  have x13 := HX1.out.cell 13 rfl
  have y13 := HX2.out.cell 13 rfl
  go_wp2_with (go_at_call 44; refine HT.out.mono ?_; rintro e w5 ⟨rfl, b5⟩; refine Hid.out ?_)
  refine (show ∀ {p : Prop}, p → Hid p from fun h => h) ?_
  have B3 := HB.out.trans (b5.mono HB.out.size)
  replace HX1 := hideIt (HX1.out.up b5)
  replace HX2 := hideIt (HX2.out.up b5)
  replace HB := hideIt B3
  replace HT := hideIt (H6.out w5 B3)
  clear B3 b5 H5 x5 y5 x6 y6 x7 y7 x8 y8 x9 y9 x10 y10 x11 y11 x12 y12 x13 y13
  have x14 := HX1.out.cell 14 rfl
  have y14 := HX2.out.cell 14 rfl
  go_wp2_with (go_at_call 45; refine HT.out.mono ?_; rintro e w6 ⟨rfl, b6⟩; refine Hid.out ?_)
  refine (show ∀ {p : Prop}, p → Hid p from fun h => h) ?_
  have B3 := HB.out.trans (b6.mono HB.out.size)
  replace HX1 := hideIt (HX1.out.up b6)
  replace HX2 := hideIt (HX2.out.up b6)
  replace HB := hideIt B3
  clear B3 b6 H6 x14 y14
  go_wp2
  go_ret
  exact ⟨rfl, HB.out⟩
end Go.Proofs.Ytdihemjfnjhdiaa
namespace Go.Proofs.Ytdihemjfnjhdiaa
open Go.RowKit

def sdP (ss : List Sd) (id : Int) (k : Nat) : Bool := match ss[k]? with | some x => (x.id == id) | none => false
theorem sdP_at {ss : List Sd} {id : Int} {k : Nat} {x : Sd} (h : ss[k]? = some x) : sdP ss id k = (x.id == id) := by simp [sdP, h]
/-- the place of an Id, -1 without one -/
def plc (ss : List Sd) (id : Int) : Int := firstN (sdP ss id) ss.length

set_option maxRecDepth 100000 in
set_option maxHeartbeats 2000000 in
theorem iBusy_any (h : Hd) (p : Hp) (w : World) : Calls Try.prog 15 #[.agg (hC h p)] w fun e w' => e = .returned (.bool (h.sh != 0)) ∧ Below w.heap.size w w' := by
  obtain ⟨N, own, cuts, lab, nums, i, o, a, b, sh, num, op, es, v, said⟩ := h
  obtain ⟨⟨a1, n1, c1⟩, ⟨a2, n2, c2⟩, ⟨a3, n3, c3⟩, ⟨a4, n4, c4⟩, ⟨a5, n5, c5⟩, ⟨a6, n6, c6⟩⟩ := p
  dsimp only [hC, Sx.v]
  go_enter Try.func15, Try.ntmps15
  go_wp2
  go_ret
  exact ⟨rfl, belA _ _⟩
set_option maxRecDepth 100000 in
set_option maxHeartbeats 2000000 in
theorem sBusy_any (h : Hd) (p : Hp) (w : World) : Calls Try.prog 22 #[.agg (hC h p)] w fun e w' => e = .returned (.bool (h.sh != 0)) ∧ Below w.heap.size w w' := by
  obtain ⟨N, own, cuts, lab, nums, i, o, a, b, sh, num, op, es, v, said⟩ := h
  obtain ⟨⟨a1, n1, c1⟩, ⟨a2, n2, c2⟩, ⟨a3, n3, c3⟩, ⟨a4, n4, c4⟩, ⟨a5, n5, c5⟩, ⟨a6, n6, c6⟩⟩ := p
  dsimp only [hC, Sx.v]
  go_enter Try.func22, Try.ntmps22
  go_wp2
  go_ret
  exact ⟨rfl, belA _ _⟩

theorem saidIt_any (x : Sd) (id : Int) (B : Nat) (w : World) (hB : w.cell? ⟨B, 0, none⟩ = some (.int .i64 id)) (hl : B < w.heap.size) :
    Calls Try.prog 86 #[sdV x, .pointer (some ⟨B, 0, none⟩)] w fun e w' => e = .returned (.bool (x.id == id)) ∧ Below w.heap.size w w' := by
  obtain ⟨xid, i, o, a, b, s⟩ := x
  dsimp only [sdV]
  go_enter Try.func86, Try.ntmps86
  go_wp2
  go_ret
  exact ⟨rfl, belA _ _⟩

set_option maxRecDepth 100000 in
set_option maxHeartbeats 2000000 in
theorem idxFS_any (ss : List Sd) (id : Int) (n : Nat) (a : Option Addr) (c : Nat) (hn : n ≤ 1048576) (B : Nat) (w : World) (h : Ss w w.heap.size a n ss) (hB : w.cell? ⟨B, 0, none⟩ = some (.int .i64 id)) (hl : B < w.heap.size) :
    Calls Try.prog 85 #[.slice a n c, .func (.func 86) #[] #[.pointer (some ⟨B, 0, none⟩)]] w fun e w' => e = .returned (.int .i64 (plc ss id)) ∧ Below w.heap.size w w' := by
  have HC := hideIt (fun x u (hu : Below w.heap.size w u) => saidIt_any x id B u (by rw [hu.cell (p := ⟨B, 0, none⟩) hl]; exact hB) (by have := hu.size; omega))
  have hlen := h.1
  have HR := hideIt h
  clear h hB
  go_enter Try.func85, Try.ntmps85
  go_wp2
  go_loopw [8] (fun i wr => ∃ (k : Nat), k ≤ n ∧ i = .int .i64 (k : Int) ∧ Hid (∀ j, j < k → sdP ss id j = false) ∧ Hid (Below w.heap.size w wr)) (fun i _ => n - (intOf i).toNat)
  case atStart => exact ⟨0, by omega, rfl, fun j hj => by omega, Below.refl _ _⟩
  case round =>
    obtain ⟨k, hk, rfl, HF, HB⟩ := hrel
    by_cases hlt : k < n
    · obtain ⟨b1, off, x, rfl, _, hx, hat⟩ := (HR.out.below HB.out (Nat.le_refl _)).at hlt
      obtain ⟨e0, e1, e2, e3, e4, e5⟩ := hat
      have q1 : (0 : Int) ≤ (k : Int) := by omega
      have q2 : (k : Int) < (n : Int) := by omega
      have HC1 := hideIt (HC.out x wr HB.out)
      have hcf := sdP_at (id := id) hx
      cases hv : (x.id == id) with
      | true =>
        rw [hv] at HC1 hcf
        have hm := hideIt (show plc ss id = (k : Int) from firstN_yes (by omega) hcf HF.out)
        clear hx hv HF hcf HC
        go_wp2_with (go_at_call 86; refine HC1.out.mono ?_; rintro e w1 ⟨rfl, hb⟩)
        go_ret
        exact ⟨retI hm.out, HB.out.trans (hb.mono HB.out.size)⟩
      | false =>
        rw [hv] at HC1 hcf
        have HF2 := hideIt (all_step HF.out hcf)
        clear hx hv HF hcf HC
        go_wp2_with (go_at_call 86; refine HC1.out.mono ?_; rintro e w1 ⟨rfl, hb⟩)
        exact ⟨⟨k + 1, by omega, by go_num, HF2, HB.out.trans (hb.mono HB.out.size)⟩, by simp [intOf]; omega⟩
    · obtain rfl : k = n := by omega
      have hm := hideIt (show plc ss id = -1 from firstN_no (by rw [hlen]; exact HF.out))
      clear HF
      go_wp2
      go_ret
      exact ⟨retI hm.out, HB.out⟩
theorem placeSaid_any (ss : List Sd) (id : Int) (n : Nat) (a : Option Addr) (c : Nat) (hn : n ≤ 1048576) (w : World) (h : Ss w w.heap.size a n ss) :
    Calls Try.prog 35 #[.slice a n c, .int .i64 id] w fun e w' => e = .returned (.int .i64 (plc ss id)) ∧ Below w.heap.size w w' := by
  have hb := belA w (.cells #[.int .i64 id] 3)
  have HI := hideIt (idxFS_any ss id n a c hn w.heap.size (w.alloc (.cells #[.int .i64 id] 3)) (h.up hb) (by simp) (by simp))
  clear h
  go_enter Try.func35, Try.ntmps35
  go_wp2_with (go_at_call 85; refine HI.out.mono ?_; rintro e w1 ⟨rfl, hb1⟩)
  go_ret
  exact ⟨rfl, hb.trans (hb1.mono (by simp))⟩

set_option maxRecDepth 100000 in
set_option maxHeartbeats 4000000 in
theorem l12Said_any (h : Hd) (p : Hp) (id : Int) (hn : p.s.n ≤ 1048576) (w : World) (k : Ss w w.heap.size p.s.a p.s.n h.said) :
    Calls Try.prog 63 #[.agg (hC h p), .int .i64 id] w fun e w' => e = .returned (.int .i64 (plc h.said id)) ∧ Below w.heap.size w w' := by
  have hb0 := belA w (.cells (hC h p) 37)
  have X0 := BxA.new w 37 (hC h p)
  obtain ⟨N, own, cuts, lab, nums, i, o, a, b, sh, num, op, es, v, said⟩ := h
  obtain ⟨⟨a1, n1, c1⟩, ⟨a2, n2, c2⟩, ⟨a3, n3, c3⟩, ⟨a4, n4, c4⟩, ⟨a5, n5, c5⟩, ⟨a6, n6, c6⟩⟩ := p
  dsimp only [hC, Sx.v] at *
  have hlen := k.1
  have HR := hideIt (k.up hb0)
  have x14 := X0.cell 14 rfl
  have HB := hideIt hb0
  obtain ⟨W, hW⟩ : ∃ W, W = w.alloc (.cells #[.int .i64 N, .slice a1 n1 c1, .slice a2 n2 c2, .slice a3 n3 c3, .slice a4 n4 c4, .int .i64 i, .int .i64 o, .int .i64 a, .int .i64 b, .int .i64 sh, .int .i64 num, .int .i64 op, .slice a5 n5 c5, .int .i64 v, .slice a6 n6 c6] 37) := ⟨_, rfl⟩
  rw [← hW] at HR x14 HB
  clear k hb0 X0
  go_enter Try.func63, Try.ntmps63
  go_upto_region 1 with fail
  rw [← hW]
  clear hW
  go_wp2
  go_loopw [5] (fun i wr => ∃ (k : Nat), k ≤ n6 ∧ i = .int .i64 (k : Int) ∧ Hid (∀ j, j < k → sdP said id j = false) ∧ wr = W) (fun i _ => n6 - (intOf i).toNat)
  case atStart => exact ⟨0, by omega, rfl, fun j hj => by omega, rfl⟩
  case round =>
    obtain ⟨k, hk, rfl, HF, hw⟩ := hrel
    have hw' := hw.symm
    subst hw'
    clear hw
    by_cases hlt : k < n6
    · obtain ⟨b1, off, x, rfl, _, hx, hat⟩ := HR.out.at hlt
      obtain ⟨e0, e1, e2, e3, e4, e5⟩ := hat
      have q1 : (0 : Int) ≤ (k : Int) := by omega
      have q2 : (k : Int) < (n6 : Int) := by omega
      have hcf := sdP_at (id := id) hx
      cases hv : (x.id == id) with
      | true =>
        rw [hv] at hcf
        have hm := hideIt (show plc said id = (k : Int) from firstN_yes (by omega) hcf HF.out)
        clear hx HF hcf
        go_wp2
        go_ret
        exact ⟨retI hm.out, HB.out⟩
      | false =>
        rw [hv] at hcf
        have HF2 := hideIt (all_step HF.out hcf)
        clear hx HF hcf
        go_wp2
        exact ⟨⟨k + 1, by omega, by go_num, HF2, by first | trivial | rfl⟩, by simp [intOf]; omega⟩
    · obtain rfl : k = n6 := by omega
      have hm := hideIt (show plc said id = -1 from firstN_no (by rw [hlen]; exact HF.out))
      clear HF
      go_wp2
      go_ret
      exact ⟨retI hm.out, HB.out⟩

/-- what ReplyOf answers -/
def ryI (ss : List Sd) (id : Int) : Int := if plc ss id < 0 then 0 else ((ss[(plc ss id).toNat]?).map Sd.s).getD 0
def ryB (ss : List Sd) (id : Int) : Bool := !decide (plc ss id < 0)
set_option maxRecDepth 100000 in
set_option maxHeartbeats 4000000 in
theorem iReplyOf_any (h : Hd) (p : Hp) (id : Int) (hn : p.s.n ≤ 1048576) (w : World) (k : Ss w w.heap.size p.s.a p.s.n h.said) :
    Calls Try.prog 13 #[.agg (hC h p), .int .i64 id] w fun e w' => e = .returned (.tuple #[.int .i64 (ryI h.said id), .bool (ryB h.said id)]) ∧ Below w.heap.size w w' := by
  have hb0 := belA w (.cells (hC h p) 37)
  have X0 := BxA.new w 37 (hC h p)
  obtain ⟨N, own, cuts, lab, nums, i, o, a, b, sh, num, op, es, v, said⟩ := h
  obtain ⟨⟨a1, n1, c1⟩, ⟨a2, n2, c2⟩, ⟨a3, n3, c3⟩, ⟨a4, n4, c4⟩, ⟨a5, n5, c5⟩, ⟨a6, n6, c6⟩⟩ := p
  dsimp only [hC, Sx.v] at *
  have hlen := k.1
  have HR := hideIt (k.up hb0)
  have HX := hideIt X0
  have x14 := X0.cell 14 rfl
  have HB := hideIt hb0
  obtain ⟨W, hW⟩ : ∃ W, W = w.alloc (.cells #[.int .i64 N, .slice a1 n1 c1, .slice a2 n2 c2, .slice a3 n3 c3, .slice a4 n4 c4, .int .i64 i, .int .i64 o, .int .i64 a, .int .i64 b, .int .i64 sh, .int .i64 num, .int .i64 op, .slice a5 n5 c5, .int .i64 v, .slice a6 n6 c6] 37) := ⟨_, rfl⟩
  rw [← hW] at HR x14 HB HX
  have HP := hideIt (placeSaid_any said id n6 a6 c6 hn W HR.out)
  clear k hb0 X0
  rcases firstN_cases (sdP said id) said.length with ⟨q, hq, hc, _, he⟩ | ⟨_, he⟩
  · have hp : plc said id = (q : Int) := he
    obtain ⟨x, hx⟩ : ∃ x, said[q]? = some x := ⟨said[q], List.getElem?_eq_getElem hq⟩
    have HI : Hid (ryI said id = x.s ∧ ryB said id = true) := ⟨by unfold ryI; rw [hp, if_neg (by omega), Int.toNat_natCast, hx]; rfl, by unfold ryB; rw [hp, decide_eq_false (by omega)]; rfl⟩
    rw [hp] at HP
    have d1 : decide ((q : Int) < 0) = false := decide_eq_false (by omega)
    have q1 : (0 : Int) ≤ (q : Int) := by omega
    have q2 : (q : Int) < (n6 : Int) := by omega
    have Hx := hideIt hx
    clear hp he hc hx
    go_enter Try.func13, Try.ntmps13
    go_upto_region 1 with fail
    rw [← hW]
    clear hW
    go_wp2_with (go_at_call 35; refine HP.out.mono ?_; rintro e w1 ⟨rfl, hb1⟩; refine Hid.out ?_)
    refine (show ∀ {p : Prop}, p → Hid p from fun h => h) ?_
    have y14 := (HX.out.up hb1).cell 14 rfl
    obtain ⟨b1, off, x', rfl, _, hx', hat⟩ := (HR.out.up hb1).at (k := q) (by omega)
    rw [Hx.out] at hx'
    obtain rfl := Option.some.inj hx'
    have e5 := hat.c5
    have HB2 := hideIt (HB.out.trans (hb1.mono HB.out.size))
    clear hat hx' hb1 HP HX HB x14 HR
    go_wp2
    go_ret2
    exact ⟨by rw [HI.out.1, HI.out.2]; rfl, HB2.out⟩
  · have hp : plc said id = -1 := he
    have HI : Hid (ryI said id = 0 ∧ ryB said id = false) := ⟨by unfold ryI; rw [hp, if_pos (by omega)], by unfold ryB; rw [hp]; rfl⟩
    rw [hp] at HP
    clear hp he
    go_enter Try.func13, Try.ntmps13
    go_upto_region 1 with fail
    rw [← hW]
    clear hW
    go_wp2_with (go_at_call 35; refine HP.out.mono ?_; rintro e w1 ⟨rfl, hb1⟩)
    go_ret2
    exact ⟨by rw [HI.out.1, HI.out.2]; rfl, HB.out.trans (hb1.mono HB.out.size)⟩
set_option maxRecDepth 100000 in
set_option maxHeartbeats 4000000 in
theorem sReplyOf_any (h : Hd) (p : Hp) (id : Int) (hn : p.s.n ≤ 1048576) (w : World) (k : Ss w w.heap.size p.s.a p.s.n h.said) :
    Calls Try.prog 23 #[.agg (hC h p), .int .i64 id] w fun e w' => e = .returned (.tuple #[.int .i64 (ryI h.said id), .bool (ryB h.said id)]) ∧ Below w.heap.size w w' := by
  have hb0 := belA w (.cells (hC h p) 37)
  have X0 := BxA.new w 37 (hC h p)
  have HP0 := hideIt (l12Said_any h p id hn _ (k.up hb0))
  obtain ⟨N, own, cuts, lab, nums, i, o, a, b, sh, num, op, es, v, said⟩ := h
  obtain ⟨⟨a1, n1, c1⟩, ⟨a2, n2, c2⟩, ⟨a3, n3, c3⟩, ⟨a4, n4, c4⟩, ⟨a5, n5, c5⟩, ⟨a6, n6, c6⟩⟩ := p
  dsimp only [hC, Sx.v] at *
  have hlen := k.1
  have HR := hideIt (k.up hb0)
  have HX := hideIt X0
  have HB := hideIt hb0
  obtain ⟨W, hW⟩ : ∃ W, W = w.alloc (.cells #[.int .i64 N, .slice a1 n1 c1, .slice a2 n2 c2, .slice a3 n3 c3, .slice a4 n4 c4, .int .i64 i, .int .i64 o, .int .i64 a, .int .i64 b, .int .i64 sh, .int .i64 num, .int .i64 op, .slice a5 n5 c5, .int .i64 v, .slice a6 n6 c6] 37) := ⟨_, rfl⟩
  rw [← hW] at HR HB HX HP0
  have HP := HP0
  have x0 := HX.out.cell 0 rfl
  have x1 := HX.out.cell 1 rfl
  have x2 := HX.out.cell 2 rfl
  have x3 := HX.out.cell 3 rfl
  have x4 := HX.out.cell 4 rfl
  have x5 := HX.out.cell 5 rfl
  have x6 := HX.out.cell 6 rfl
  have x7 := HX.out.cell 7 rfl
  have x8 := HX.out.cell 8 rfl
  have x9 := HX.out.cell 9 rfl
  have x10 := HX.out.cell 10 rfl
  have x11 := HX.out.cell 11 rfl
  have x12 := HX.out.cell 12 rfl
  have x13 := HX.out.cell 13 rfl
  have x14 := HX.out.cell 14 rfl
  clear k hb0 X0 HP0
  rcases firstN_cases (sdP said id) said.length with ⟨q, hq, hc, _, he⟩ | ⟨_, he⟩
  · have hp : plc said id = (q : Int) := he
    obtain ⟨x, hx⟩ : ∃ x, said[q]? = some x := ⟨said[q], List.getElem?_eq_getElem hq⟩
    have HI : Hid (ryI said id = x.s ∧ ryB said id = true) := ⟨by unfold ryI; rw [hp, if_neg (by omega), Int.toNat_natCast, hx]; rfl, by unfold ryB; rw [hp, decide_eq_false (by omega)]; rfl⟩
    rw [hp] at HP
    have d1 : decide ((q : Int) < 0) = false := decide_eq_false (by omega)
    have q1 : (0 : Int) ≤ (q : Int) := by omega
    have q2 : (q : Int) < (n6 : Int) := by omega
    have Hx := hideIt hx
    clear hp he hc hx
    go_enter Try.func23, Try.ntmps23
    go_upto_region 1 with fail
    rw [← hW]
    clear hW
    go_wp2_with (go_at_call 63; refine HP.out.mono ?_; rintro e w1 ⟨rfl, hb1⟩; refine Hid.out ?_)
    refine (show ∀ {p : Prop}, p → Hid p from fun h => h) ?_
    have y14 := (HX.out.up hb1).cell 14 rfl
    obtain ⟨b1, off, x', rfl, _, hx', hat⟩ := (HR.out.up hb1).at (k := q) (by omega)
    rw [Hx.out] at hx'
    obtain rfl := Option.some.inj hx'
    have e5 := hat.c5
    have HB2 := hideIt (HB.out.trans (hb1.mono HB.out.size))
    clear hat hx' hb1 HP HX HB x0 x1 x2 x3 x4 x5 x6 x7 x8 x9 x10 x11 x12 x13 x14 HR
    go_wp2
    go_ret2
    exact ⟨by rw [HI.out.1, HI.out.2]; rfl, HB2.out⟩
  · have hp : plc said id = -1 := he
    have HI : Hid (ryI said id = 0 ∧ ryB said id = false) := ⟨by unfold ryI; rw [hp, if_pos (by omega)], by unfold ryB; rw [hp]; rfl⟩
    rw [hp] at HP
    clear hp he
    go_enter Try.func23, Try.ntmps23
    go_upto_region 1 with fail
    rw [← hW]
    clear hW
    go_wp2_with (go_at_call 63; refine HP.out.mono ?_; rintro e w1 ⟨rfl, hb1⟩)
    go_ret2
    exact ⟨by rw [HI.out.1, HI.out.2]; rfl, HB.out.trans (hb1.mono HB.out.size)⟩
end Go.Proofs.Ytdihemjfnjhdiaa
namespace Go.Proofs.Ytdihemjfnjhdiaa
open Go.RowKit Go.ChangeShapes Go.WideShapes Go.ChangeAt

theorem two7 {α : Type} {l : List α} (h : l.length = 2) : ∃ a b, l = [a, b] := by
  match l, h with
  | [a, b], _ => exact ⟨a, b, rfl⟩
/-- a row of numbers -/
theorem open_int1 {H : Type} {enc : TypeId × Value → H} {W : World} {fuel : Nat} {cs : List Value} {y : DataW H × List MemPlace}
    (h : DataW.trod enc Try.prog W 0 (fun _ => true) true fuel 26 cs = some y) : ∃ (a : Option Addr) (n c : Nat) (ls : List Int), cs = [.slice a n c] ∧ n ≤ maxLen ∧ n ≤ c ∧ Is W W.heap.size a n ls := by
  rcases open_ints Try.underlying26 Try.underlying3 (by kernel_rfl) h with ⟨hcs, _⟩ | ⟨x, l, c, zs, hcs, _, hl, hm, hz, _, hcell, hwz⟩
  · exact ⟨none, 0, 0, [], hcs, by unfold maxLen; omega, by omega, ⟨rfl, .inl rfl⟩⟩
  · have hzl : zs.length = c := by simpa using hz
    by_cases h0 : l = 0
    · subst h0
      exact ⟨_, 0, c, [], hcs, by unfold maxLen; omega, by omega, ⟨rfl, .inl rfl⟩⟩
    · obtain ⟨b, off, rfl, hc⟩ := ints_at hcell (by omega)
      have hb : b < W.heap.size := World.block_lt_of_cell? W _ (hc 0 (by omega))
      refine ⟨_, l, c, zs.take l, hcs, by omega, by omega, ⟨by rw [List.length_take]; omega, .inr ⟨b, off, rfl, hb, fun j x hx => ?_⟩⟩⟩
      have hj : j < l := by have := (List.getElem?_eq_some_iff.1 hx).1; rw [List.length_take] at this; omega
      rw [List.getElem?_take_of_lt hj] at hx
      rw [hc j (by omega), List.getD_eq_getElem?_getD, hx]
      rfl
theorem open_intSS {H : Type} {enc : TypeId × Value → H} {W : World} {a : Option Addr} {len cap fuel : Nat} {x : DataW H × List MemPlace}
    (h : DataW.trod enc Try.prog W 0 (fun _ => true) true fuel 28 [.slice a len cap] = some x) : len ≤ maxLen ∧ ∃ ts : List (List Int), Ts W W.heap.size a len ts ∧ ∀ t ∈ ts, t.length ≤ maxLen := by
  rcases DataW.trod_slice Try.underlying28 h with ⟨hcs, _⟩ | ⟨ad, l, c, elems, rest, n, _, hcs, _, _, hlc, hm, hel, hei, _, _⟩
  · simp at hcs
    obtain ⟨rfl, rfl, rfl⟩ := hcs
    exact ⟨by unfold maxLen; omega, [], ⟨rfl, .inl rfl⟩, by simp⟩
  · simp at hcs
    obtain ⟨rfl, rfl, rfl⟩ := hcs
    refine ⟨by omega, ?_⟩
    have each : ∀ i, i < len → ∃ t : List Int, (∃ (a' : Option Addr) (c' : Nat), W.cell? ((ad.add i).add 0) = some (.slice a' t.length c') ∧ Is W W.heap.size a' t.length t ∧ t.length ≤ c') ∧ t.length ≤ maxLen := by
      intro i hi
      have h1 := hei i hi
      obtain ⟨y, hy⟩ : ∃ y, elems[i]? = some y := ⟨elems[i]'(by omega), List.getElem?_eq_getElem _⟩
      rw [hy, Option.bind_eq_some_iff] at h1
      obtain ⟨cs', hc, ht⟩ := h1
      obtain ⟨a', n', c', ls, rfl, q1, q2, q3⟩ := open_int1 ht
      rw [show Try.prog.cellsOf 26 = 1 by kernel_rfl] at hc
      have hcell := (World.cells?_some hc).2.2
      have hn := q3.1
      subst hn
      refine ⟨ls, ⟨a', c', ?_, q3, q2⟩, q1⟩
      simpa using hcell 0 (by omega)
    by_cases h0 : len = 0
    · subst h0
      exact ⟨[], ⟨rfl, .inl rfl⟩, by simp⟩
    · obtain ⟨f0, ⟨_, _, hc0, _⟩, _⟩ := each 0 (by omega)
      obtain ⟨b, off, spot⟩ := ad
      have hspot : spot = none := by simpa [Addr.add] using World.cell?_spot hc0
      subst hspot
      have hb : b < W.heap.size := by
        have := World.block_lt_of_cell? W _ hc0
        simpa [Addr.add] using this
      obtain ⟨F, hF⟩ := Classical.axiomOfChoice (fun i : Fin len => each i.1 i.2)
      refine ⟨List.ofFn F, ⟨by simp, .inr ⟨b, off, rfl, hb, fun j f hf => ?_⟩⟩, fun f hf => ?_⟩
      · obtain ⟨hj, rfl⟩ := List.getElem?_eq_some_iff.1 hf
        have hj' : j < len := by simpa using hj
        obtain ⟨⟨a', c', c0, c1⟩, _⟩ := hF ⟨j, hj'⟩
        rw [add_plain, add_plain, Nat.add_zero] at c0
        simp only [List.getElem_ofFn]
        exact ⟨a', c', c0, c1⟩
      · obtain ⟨i, rfl⟩ := List.mem_ofFn.1 hf
        exact (hF i).2
theorem open_edge1 {H : Type} {enc : TypeId × Value → H} {W : World} {fuel : Nat} {cs : List Value} {y : DataW H × List MemPlace}
    (h : DataW.trod enc Try.prog W 0 (fun _ => true) true fuel 132 cs = some y) : ∃ f : Int × Int, cs = [.int .i64 f.1, .int .i64 f.2] ∧ ((Lit.int .i64 f.1).wf = true ∧ (Lit.int .i64 f.2).wf = true) := by
  obtain ⟨xs, n, _, _, hl, hlen, hf⟩ := DataW.trod_struct Try.underlying132 h
  rw [show Try.prog.cellsOf 132 = 2 by kernel_rfl] at hl
  obtain ⟨c0, c1, rfl⟩ := two7 hl
  have h0 : DataW.trod enc Try.prog W 0 (fun _ => true) true n 3 (([c0, c1].drop 0).take (Try.prog.cellsOf 3)) = xs[0]? := hf 0 _ rfl
  have h1 : DataW.trod enc Try.prog W 0 (fun _ => true) true n 3 (([c0, c1].drop 1).take (Try.prog.cellsOf 3)) = xs[1]? := hf 1 _ rfl
  rw [show Try.prog.cellsOf 3 = 1 by kernel_rfl] at h0 h1
  have g : ∀ i, i < 2 → ∃ z, xs[i]? = some z := fun i hi => ⟨xs[i]'(by simp at hlen; omega), List.getElem?_eq_getElem _⟩
  obtain ⟨z0, e0⟩ := g 0 (by omega)
  obtain ⟨z1, e1⟩ := g 1 (by omega)
  rw [e0] at h0
  rw [e1] at h1
  obtain ⟨k0, hk0, _, w0⟩ := DataW.trod_int Try.underlying3 h0
  obtain ⟨k1, hk1, _, w1⟩ := DataW.trod_int Try.underlying3 h1
  simp at hk0 hk1
  subst hk0 hk1
  exact ⟨⟨k0, k1⟩, rfl, w0, w1⟩
set_option maxRecDepth 100000 in
/-- an edge that comes in -/
theorem open_edge {H : Type} {enc : TypeId × Value → H} {W : World} {r : Reach} {base : Nat} {v : Value} {d : DataW H} {p : List MemPlace}
    (hv : Value.okWide Try.prog W r base 132 v) (h : DataW.Trod enc Try.prog W 0 (fun _ => true) true 132 v d p) :
    ∃ f : Int × Int, v = .agg #[.int .i64 f.1, .int .i64 f.2] ∧ ((Lit.int .i64 f.1).wf = true ∧ (Lit.int .i64 f.2).wf = true) := by
  obtain ⟨cs, rfl, hcs⟩ := okWide_struct Try.underlying132 hv
  obtain ⟨fuel, hf⟩ := h
  obtain ⟨f, hcs2, hft⟩ := open_edge1 hf
  refine ⟨f, ?_, hft⟩
  have : (Value.agg cs).cells.toList = [.int .i64 f.1, .int .i64 f.2] := hcs2
  obtain ⟨l⟩ := cs
  simp [Value.cells] at this
  rw [this]
end Go.Proofs.Ytdihemjfnjhdiaa
namespace Go.Proofs.Ytdihemjfnjhdiaa.O
open Go.ChangeShapes Go.WideShapes Go.ChangeAt Go.RowKit

theorem cellsLE : Try.prog.cellsOf 132 = 2 := by kernel_rfl
theorem cells3 : Try.prog.cellsOf 3 = 1 := by kernel_rfl

/-- an edge as the machine bears it -/
def FitE (f : EdgeV) : Prop := (Lit.int .i64 f.1).wf = true ∧ (Lit.int .i64 f.2).wf = true

theorem two {α : Type} {l : List α} (h : l.length = 2) : ∃ a b, l = [a, b] := by
  cases l with
  | nil => simp at h
  | cons a l =>
    cases l with
    | nil => simp at h
    | cons b l =>
      cases l with
      | nil => exact ⟨a, b, rfl⟩
      | cons c l => simp at h

theorem open_edge1 {H : Type} {enc : TypeId × Value → H} {W : World} {fuel : Nat} {cs : List Value} {y : DataW H × List MemPlace}
    (h : DataW.trod enc Try.prog W 0 (fun _ => true) true fuel 132 cs = some y) : ∃ f : EdgeV, cs = [.int .i64 f.1, .int .i64 f.2] ∧ FitE f := by
  obtain ⟨xs, n, _, _, hl, hlen, hf⟩ := DataW.trod_struct Try.underlying132 h
  rw [cellsLE] at hl
  obtain ⟨c0, c1, rfl⟩ := two hl
  have h0 : DataW.trod enc Try.prog W 0 (fun _ => true) true n 3 (([c0, c1].drop 0).take (Try.prog.cellsOf 3)) = xs[0]? := hf 0 _ rfl
  have h1 : DataW.trod enc Try.prog W 0 (fun _ => true) true n 3 (([c0, c1].drop 1).take (Try.prog.cellsOf 3)) = xs[1]? := hf 1 _ rfl
  rw [cells3] at h0 h1
  have g : ∀ i, i < 2 → ∃ z, xs[i]? = some z := fun i hi => ⟨xs[i]'(by simp at hlen; omega), List.getElem?_eq_getElem _⟩
  obtain ⟨z0, e0⟩ := g 0 (by omega)
  obtain ⟨z1, e1⟩ := g 1 (by omega)
  rw [e0] at h0
  rw [e1] at h1
  obtain ⟨k0, hk0, _, w0⟩ := DataW.trod_int Try.underlying3 h0
  obtain ⟨k1, hk1, _, w1⟩ := DataW.trod_int Try.underlying3 h1
  simp at hk0 hk1
  subst hk0 hk1
  exact ⟨⟨k0, k1⟩, rfl, w0, w1⟩

theorem open_edgeS {H : Type} {enc : TypeId × Value → H} {W : World} {a : Option Addr} {len cap fuel : Nat} {x : DataW H × List MemPlace}
    (h : DataW.trod enc Try.prog W 0 (fun _ => true) true fuel 48 [.slice a len cap] = some x) : len ≤ maxLen ∧ ∃ fs : List EdgeV, Es W W.heap.size a len fs ∧ ∀ f ∈ fs, FitE f := by
  rcases DataW.trod_slice Try.underlying48 h with ⟨hcs, _⟩ | ⟨ad, l, c, elems, rest, n, _, hcs, _, _, hlc, hm, hel, hei, _, _⟩
  · simp at hcs
    obtain ⟨rfl, rfl, rfl⟩ := hcs
    exact ⟨by unfold maxLen; omega, [], ⟨rfl, .inl rfl⟩, by simp⟩
  · simp at hcs
    obtain ⟨rfl, rfl, rfl⟩ := hcs
    refine ⟨by omega, ?_⟩
    have each : ∀ i, i < len → ∃ f : EdgeV, (W.cell? ((ad.add (i * 2)).add 0) = some (.int .i64 f.1) ∧ W.cell? ((ad.add (i * 2)).add 1) = some (.int .i64 f.2)) ∧ FitE f := by
      intro i hi
      have h1 := hei i hi
      obtain ⟨y, hy⟩ : ∃ y, elems[i]? = some y := ⟨elems[i]'(by omega), List.getElem?_eq_getElem _⟩
      rw [hy, Option.bind_eq_some_iff] at h1
      obtain ⟨cs', hc, ht⟩ := h1
      obtain ⟨f, rfl, hfit⟩ := open_edge1 ht
      rw [cellsLE] at hc
      have hcell := (World.cells?_some hc).2.2
      refine ⟨f, ⟨?_, ?_⟩, hfit⟩
      · simpa using hcell 0 (by omega)
      · simpa using hcell 1 (by omega)
    by_cases h0 : len = 0
    · subst h0
      exact ⟨[], ⟨rfl, .inl rfl⟩, by simp⟩
    · obtain ⟨f0, ⟨hc0, _⟩, _⟩ := each 0 (by omega)
      obtain ⟨b, off, spot⟩ := ad
      have hspot : spot = none := by simpa [Addr.add] using World.cell?_spot hc0
      subst hspot
      have hb : b < W.heap.size := by
        have := World.block_lt_of_cell? W _ hc0
        simpa [Addr.add] using this
      obtain ⟨F, hF⟩ := Classical.axiomOfChoice (fun i : Fin len => each i.1 i.2)
      refine ⟨List.ofFn F, ⟨by simp, .inr ⟨b, off, rfl, hb, fun j f hf => ?_⟩⟩, fun f hf => ?_⟩
      · obtain ⟨hj, rfl⟩ := List.getElem?_eq_some_iff.1 hf
        have hj' : j < len := by simpa using hj
        obtain ⟨⟨c0, c1⟩, _⟩ := hF ⟨j, hj'⟩
        rw [add_plain, add_plain] at c0 c1
        simp only [List.getElem_ofFn]
        exact ⟨c0, c1⟩
      · obtain ⟨i, rfl⟩ := List.mem_ofFn.1 hf
        exact (hF i).2

set_option maxRecDepth 100000 in
/-- an edge that comes in -/
theorem open_edge {H : Type} {enc : TypeId × Value → H} {W : World} {r : Reach} {base : Nat} {v : Value} {d : DataW H} {p : List MemPlace}
    (hv : Value.okWide Try.prog W r base 132 v) (h : DataW.Trod enc Try.prog W 0 (fun _ => true) true 132 v d p) :
    ∃ f : EdgeV, v = .agg #[.int .i64 f.1, .int .i64 f.2] ∧ FitE f := by
  obtain ⟨cs, rfl, hcs⟩ := okWide_struct Try.underlying132 hv
  obtain ⟨fuel, hf⟩ := h
  obtain ⟨f, hcs2, hft⟩ := open_edge1 hf
  refine ⟨f, ?_, hft⟩
  have : (Value.agg cs).cells.toList = [.int .i64 f.1, .int .i64 f.2] := hcs2
  obtain ⟨l⟩ := cs
  simp [Value.cells] at this
  rw [this]

end Go.Proofs.Ytdihemjfnjhdiaa.O
namespace Go.Proofs.Ytdihemjfnjhdiaa
open Go.RowKit Go.ChangeShapes Go.WideShapes Go.ChangeAt

theorem sliceH {H : Type} {enc : TypeId × Value → H} {W : World} {fuel : Nat} {t e : TypeId} {cs : List Value} {x : DataW H × List MemPlace} (hu : Try.prog.underlying t = some (.slice e))
    (h : DataW.trod enc Try.prog W 0 (fun _ => true) true fuel t cs = some x) : ∃ a n c, cs = [.slice a n c] := by
  rcases DataW.trod_slice hu h with ⟨hcs, _⟩ | ⟨ad, l, c, _, _, _, _, hcs, _⟩
  · exact ⟨_, _, _, hcs⟩
  · exact ⟨_, _, _, hcs⟩
theorem len4 {α : Type} {l : List α} (h : l.length = 4) : ∃ a b c d, l = [a, b, c, d] := by
  match l, h with
  | [a, b, c, d], _ => exact ⟨a, b, c, d, rfl⟩
theorem len6 {α : Type} {l : List α} (h : l.length = 6) : ∃ a b c d e f, l = [a, b, c, d, e, f] := by
  match l, h with
  | [a, b, c, d, e, f], _ => exact ⟨a, b, c, d, e, f, rfl⟩
theorem len15 {α : Type} {l : List α} (h : l.length = 15) : ∃ c0 c1 c2 c3 c4 c5 c6 c7 c8 c9 c10 c11 c12 c13 c14, l = [c0, c1, c2, c3, c4, c5, c6, c7, c8, c9, c10, c11, c12, c13, c14] := by
  match l, h with
  | [c0, c1, c2, c3, c4, c5, c6, c7, c8, c9, c10, c11, c12, c13, c14], _ => exact ⟨c0, c1, c2, c3, c4, c5, c6, c7, c8, c9, c10, c11, c12, c13, c14, rfl⟩
theorem open_ints13 {H : Type} {enc : TypeId × Value → H} {W : World} {fuel : Nat} {a : Option Addr} {n c : Nat} {y : DataW H × List MemPlace}
    (h : DataW.trod enc Try.prog W 0 (fun _ => true) true fuel 26 [.slice a n c] = some y) : n ≤ maxLen ∧ ∃ ls : List Int, Is W W.heap.size a n ls := by
  obtain ⟨a', n', c', ls, hc, h1, _, h2⟩ := open_int1 h
  simp at hc
  obtain ⟨rfl, rfl, rfl⟩ := hc
  exact ⟨h1, ls, h2⟩
set_option maxRecDepth 100000 in
theorem trod_ask {H : Type} {enc : TypeId × Value → H} {W : World} {fuel : Nat} {c0 c1 c2 c3 : Value} {y : DataW H × List MemPlace}
    (h : DataW.trod enc Try.prog W 0 (fun _ => true) true fuel 49 [c0, c1, c2, c3] = some y) : ∃ i o a b : Int, c0 = .int .i64 i ∧ c1 = .int .i64 o ∧ c2 = .int .i64 a ∧ c3 = .int .i64 b := by
  obtain ⟨xs, n, _, _, hl, hlen, hfi⟩ := DataW.trod_struct Try.underlying49 h
  have h0 : DataW.trod enc Try.prog W 0 (fun _ => true) true n 3 (([c0, c1, c2, c3].drop 0).take (Try.prog.cellsOf 3)) = xs[0]? := hfi 0 _ rfl
  have h1 : DataW.trod enc Try.prog W 0 (fun _ => true) true n 3 (([c0, c1, c2, c3].drop 1).take (Try.prog.cellsOf 3)) = xs[1]? := hfi 1 _ rfl
  have h2 : DataW.trod enc Try.prog W 0 (fun _ => true) true n 3 (([c0, c1, c2, c3].drop 2).take (Try.prog.cellsOf 3)) = xs[2]? := hfi 2 _ rfl
  have h3 : DataW.trod enc Try.prog W 0 (fun _ => true) true n 3 (([c0, c1, c2, c3].drop 3).take (Try.prog.cellsOf 3)) = xs[3]? := hfi 3 _ rfl
  rw [show Try.prog.cellsOf 3 = 1 by kernel_rfl] at h0
  rw [show Try.prog.cellsOf 3 = 1 by kernel_rfl] at h1
  rw [show Try.prog.cellsOf 3 = 1 by kernel_rfl] at h2
  rw [show Try.prog.cellsOf 3 = 1 by kernel_rfl] at h3
  have g : ∀ i, i < 4 → ∃ z, xs[i]? = some z := fun i hi => ⟨xs[i]'(by simp at hlen; omega), List.getElem?_eq_getElem _⟩
  obtain ⟨z0, e0⟩ := g 0 (by omega)
  rw [e0] at h0
  have h0' : DataW.trod enc Try.prog W 0 (fun _ => true) true n 3 [c0] = some z0 := by simpa using h0
  obtain ⟨k0, hk0, _⟩ := DataW.trod_int Try.underlying3 h0'
  simp at hk0
  subst hk0
  obtain ⟨z1, e1⟩ := g 1 (by omega)
  rw [e1] at h1
  have h1' : DataW.trod enc Try.prog W 0 (fun _ => true) true n 3 [c1] = some z1 := by simpa using h1
  obtain ⟨k1, hk1, _⟩ := DataW.trod_int Try.underlying3 h1'
  simp at hk1
  subst hk1
  obtain ⟨z2, e2⟩ := g 2 (by omega)
  rw [e2] at h2
  have h2' : DataW.trod enc Try.prog W 0 (fun _ => true) true n 3 [c2] = some z2 := by simpa using h2
  obtain ⟨k2, hk2, _⟩ := DataW.trod_int Try.underlying3 h2'
  simp at hk2
  subst hk2
  obtain ⟨z3, e3⟩ := g 3 (by omega)
  rw [e3] at h3
  have h3' : DataW.trod enc Try.prog W 0 (fun _ => true) true n 3 [c3] = some z3 := by simpa using h3
  obtain ⟨k3, hk3, _⟩ := DataW.trod_int Try.underlying3 h3'
  simp at hk3
  subst hk3
  exact ⟨k0, k1, k2, k3, rfl, rfl, rfl, rfl⟩
set_option maxRecDepth 100000 in
theorem trod_said {H : Type} {enc : TypeId × Value → H} {W : World} {fuel : Nat} {c0 c1 c2 c3 c4 c5 : Value} {y : DataW H × List MemPlace}
    (h : DataW.trod enc Try.prog W 0 (fun _ => true) true fuel 137 [c0, c1, c2, c3, c4, c5] = some y) : ∃ x : Sd, c0 = .int .i64 x.id ∧ c1 = .int .i64 x.i ∧ c2 = .int .i64 x.o ∧ c3 = .int .i64 x.a ∧ c4 = .int .i64 x.b ∧ c5 = .int .i64 x.s := by
  obtain ⟨xs, n, _, _, hl, hlen, hfi⟩ := DataW.trod_struct Try.underlying137 h
  have h0 : DataW.trod enc Try.prog W 0 (fun _ => true) true n 3 (([c0, c1, c2, c3, c4, c5].drop 0).take (Try.prog.cellsOf 3)) = xs[0]? := hfi 0 _ rfl
  have h1 : DataW.trod enc Try.prog W 0 (fun _ => true) true n 49 (([c0, c1, c2, c3, c4, c5].drop 1).take (Try.prog.cellsOf 49)) = xs[1]? := hfi 1 _ rfl
  have h2 : DataW.trod enc Try.prog W 0 (fun _ => true) true n 3 (([c0, c1, c2, c3, c4, c5].drop 5).take (Try.prog.cellsOf 3)) = xs[2]? := hfi 2 _ rfl
  rw [show Try.prog.cellsOf 3 = 1 by kernel_rfl] at h0
  rw [show Try.prog.cellsOf 49 = 4 by kernel_rfl] at h1
  rw [show Try.prog.cellsOf 3 = 1 by kernel_rfl] at h2
  have g : ∀ i, i < 3 → ∃ z, xs[i]? = some z := fun i hi => ⟨xs[i]'(by simp at hlen; omega), List.getElem?_eq_getElem _⟩
  obtain ⟨z0, e0⟩ := g 0 (by omega)
  rw [e0] at h0
  have h0' : DataW.trod enc Try.prog W 0 (fun _ => true) true n 3 [c0] = some z0 := by simpa using h0
  obtain ⟨k0, hk0, _⟩ := DataW.trod_int Try.underlying3 h0'
  simp at hk0
  subst hk0
  obtain ⟨z1, e1⟩ := g 1 (by omega)
  rw [e1] at h1
  have h1' : DataW.trod enc Try.prog W 0 (fun _ => true) true n 49 [c1, c2, c3, c4] = some z1 := by simpa using h1
  obtain ⟨i, o, a, b, rfl, rfl, rfl, rfl⟩ := trod_ask h1'
  obtain ⟨z2, e2⟩ := g 2 (by omega)
  rw [e2] at h2
  have h2' : DataW.trod enc Try.prog W 0 (fun _ => true) true n 3 [c5] = some z2 := by simpa using h2
  obtain ⟨k2, hk2, _⟩ := DataW.trod_int Try.underlying3 h2'
  simp at hk2
  subst hk2
  exact ⟨⟨k0, i, o, a, b, k2⟩, rfl, rfl, rfl, rfl, rfl, rfl⟩
set_option maxRecDepth 100000 in
theorem trod_order {H : Type} {enc : TypeId × Value → H} {W : World} {fuel : Nat} {c0 c1 c2 c3 : Value} {y : DataW H × List MemPlace}
    (h : DataW.trod enc Try.prog W 0 (fun _ => true) true fuel 51 [c0, c1, c2, c3] = some y) : ∃ (num op : Int) (s : Sx) (v : Int) (fs : List O.EdgeV), (c0 = .int .i64 num ∧ c1 = .int .i64 op ∧ c2 = s.v ∧ c3 = .int .i64 v) ∧ s.n ≤ maxLen ∧ O.Es W W.heap.size s.a s.n fs := by
  obtain ⟨xs, n, _, _, hl, hlen, hfi⟩ := DataW.trod_struct Try.underlying51 h
  have h0 : DataW.trod enc Try.prog W 0 (fun _ => true) true n 3 (([c0, c1, c2, c3].drop 0).take (Try.prog.cellsOf 3)) = xs[0]? := hfi 0 _ rfl
  have h1 : DataW.trod enc Try.prog W 0 (fun _ => true) true n 3 (([c0, c1, c2, c3].drop 1).take (Try.prog.cellsOf 3)) = xs[1]? := hfi 1 _ rfl
  have h2 : DataW.trod enc Try.prog W 0 (fun _ => true) true n 48 (([c0, c1, c2, c3].drop 2).take (Try.prog.cellsOf 48)) = xs[2]? := hfi 2 _ rfl
  have h3 : DataW.trod enc Try.prog W 0 (fun _ => true) true n 3 (([c0, c1, c2, c3].drop 3).take (Try.prog.cellsOf 3)) = xs[3]? := hfi 3 _ rfl
  rw [show Try.prog.cellsOf 3 = 1 by kernel_rfl] at h0
  rw [show Try.prog.cellsOf 3 = 1 by kernel_rfl] at h1
  rw [show Try.prog.cellsOf 48 = 1 by kernel_rfl] at h2
  rw [show Try.prog.cellsOf 3 = 1 by kernel_rfl] at h3
  have g : ∀ i, i < 4 → ∃ z, xs[i]? = some z := fun i hi => ⟨xs[i]'(by simp at hlen; omega), List.getElem?_eq_getElem _⟩
  obtain ⟨z0, e0⟩ := g 0 (by omega)
  rw [e0] at h0
  have h0' : DataW.trod enc Try.prog W 0 (fun _ => true) true n 3 [c0] = some z0 := by simpa using h0
  obtain ⟨k0, hk0, _⟩ := DataW.trod_int Try.underlying3 h0'
  simp at hk0
  subst hk0
  obtain ⟨z1, e1⟩ := g 1 (by omega)
  rw [e1] at h1
  have h1' : DataW.trod enc Try.prog W 0 (fun _ => true) true n 3 [c1] = some z1 := by simpa using h1
  obtain ⟨k1, hk1, _⟩ := DataW.trod_int Try.underlying3 h1'
  simp at hk1
  subst hk1
  obtain ⟨z2, e2⟩ := g 2 (by omega)
  rw [e2] at h2
  have h2' : DataW.trod enc Try.prog W 0 (fun _ => true) true n 48 [c2] = some z2 := by simpa using h2
  obtain ⟨a2, m2, d2, hx2⟩ := sliceH Try.underlying48 h2'
  simp at hx2
  subst hx2
  obtain ⟨q2, fs, r2, _⟩ := O.open_edgeS h2'
  obtain ⟨z3, e3⟩ := g 3 (by omega)
  rw [e3] at h3
  have h3' : DataW.trod enc Try.prog W 0 (fun _ => true) true n 3 [c3] = some z3 := by simpa using h3
  obtain ⟨k3, hk3, _⟩ := DataW.trod_int Try.underlying3 h3'
  simp at hk3
  subst hk3
  exact ⟨k0, k1, ⟨a2, m2, d2⟩, k3, fs, ⟨rfl, rfl, rfl, rfl⟩, q2, r2⟩
set_option maxRecDepth 100000 in
theorem trod_task {H : Type} {enc : TypeId × Value → H} {W : World} {fuel : Nat} {c0 c1 c2 c3 c4 c5 c6 c7 c8 : Value} {y : DataW H × List MemPlace}
    (h : DataW.trod enc Try.prog W 0 (fun _ => true) true fuel 53 [c0, c1, c2, c3, c4, c5, c6, c7, c8] = some y) : ∃ (i o a b sh num op : Int) (s : Sx) (v : Int) (fs : List O.EdgeV), (c0 = .int .i64 i ∧ c1 = .int .i64 o ∧ c2 = .int .i64 a ∧ c3 = .int .i64 b ∧ c4 = .int .i64 sh ∧ c5 = .int .i64 num ∧ c6 = .int .i64 op ∧ c7 = s.v ∧ c8 = .int .i64 v) ∧ s.n ≤ maxLen ∧ O.Es W W.heap.size s.a s.n fs := by
  obtain ⟨xs, n, _, _, hl, hlen, hfi⟩ := DataW.trod_struct Try.underlying53 h
  have h0 : DataW.trod enc Try.prog W 0 (fun _ => true) true n 49 (([c0, c1, c2, c3, c4, c5, c6, c7, c8].drop 0).take (Try.prog.cellsOf 49)) = xs[0]? := hfi 0 _ rfl
  have h1 : DataW.trod enc Try.prog W 0 (fun _ => true) true n 3 (([c0, c1, c2, c3, c4, c5, c6, c7, c8].drop 4).take (Try.prog.cellsOf 3)) = xs[1]? := hfi 1 _ rfl
  have h2 : DataW.trod enc Try.prog W 0 (fun _ => true) true n 51 (([c0, c1, c2, c3, c4, c5, c6, c7, c8].drop 5).take (Try.prog.cellsOf 51)) = xs[2]? := hfi 2 _ rfl
  rw [show Try.prog.cellsOf 49 = 4 by kernel_rfl] at h0
  rw [show Try.prog.cellsOf 3 = 1 by kernel_rfl] at h1
  rw [show Try.prog.cellsOf 51 = 4 by kernel_rfl] at h2
  have g : ∀ i, i < 3 → ∃ z, xs[i]? = some z := fun i hi => ⟨xs[i]'(by simp at hlen; omega), List.getElem?_eq_getElem _⟩
  obtain ⟨z0, e0⟩ := g 0 (by omega)
  rw [e0] at h0
  have h0' : DataW.trod enc Try.prog W 0 (fun _ => true) true n 49 [c0, c1, c2, c3] = some z0 := by simpa using h0
  obtain ⟨i, o, a, b, rfl, rfl, rfl, rfl⟩ := trod_ask h0'
  obtain ⟨z1, e1⟩ := g 1 (by omega)
  rw [e1] at h1
  have h1' : DataW.trod enc Try.prog W 0 (fun _ => true) true n 3 [c4] = some z1 := by simpa using h1
  obtain ⟨k1, hk1, _⟩ := DataW.trod_int Try.underlying3 h1'
  simp at hk1
  subst hk1
  obtain ⟨z2, e2⟩ := g 2 (by omega)
  rw [e2] at h2
  have h2' : DataW.trod enc Try.prog W 0 (fun _ => true) true n 51 [c5, c6, c7, c8] = some z2 := by simpa using h2
  obtain ⟨num, op, s, v, fs, ⟨rfl, rfl, rfl, rfl⟩, q, r⟩ := trod_order h2'
  exact ⟨i, o, a, b, k1, num, op, s, v, fs, ⟨rfl, rfl, rfl, rfl, rfl, rfl, rfl, rfl, rfl⟩, q, r⟩
theorem open_saidS {H : Type} {enc : TypeId × Value → H} {W : World} {a : Option Addr} {len cap fuel : Nat} {x : DataW H × List MemPlace}
    (h : DataW.trod enc Try.prog W 0 (fun _ => true) true fuel 54 [.slice a len cap] = some x) : len ≤ maxLen ∧ ∃ ss : List Sd, Ss W W.heap.size a len ss := by
  rcases DataW.trod_slice Try.underlying54 h with ⟨hcs, _⟩ | ⟨ad, l, c, elems, rest, n, _, hcs, _, _, hlc, hm, hel, hei, _, _⟩
  · simp at hcs
    obtain ⟨rfl, rfl, rfl⟩ := hcs
    exact ⟨by unfold maxLen; omega, [], ⟨rfl, .inl rfl⟩⟩
  · simp at hcs
    obtain ⟨rfl, rfl, rfl⟩ := hcs
    refine ⟨by omega, ?_⟩
    have each : ∀ i, i < len → ∃ x : Sd, W.cell? ((ad.add (i * 6)).add 0) = some (.int .i64 x.id) ∧ W.cell? ((ad.add (i * 6)).add 1) = some (.int .i64 x.i) ∧ W.cell? ((ad.add (i * 6)).add 2) = some (.int .i64 x.o) ∧ W.cell? ((ad.add (i * 6)).add 3) = some (.int .i64 x.a) ∧ W.cell? ((ad.add (i * 6)).add 4) = some (.int .i64 x.b) ∧ W.cell? ((ad.add (i * 6)).add 5) = some (.int .i64 x.s) := by
      intro i hi
      have h1 := hei i hi
      obtain ⟨y, hy⟩ : ∃ y, elems[i]? = some y := ⟨elems[i]'(by omega), List.getElem?_eq_getElem _⟩
      rw [hy, Option.bind_eq_some_iff] at h1
      obtain ⟨cs', hc, ht⟩ := h1
      rw [show Try.prog.cellsOf 137 = 6 by kernel_rfl] at hc
      obtain ⟨xs, n, _, _, hl, _⟩ := DataW.trod_struct Try.underlying137 ht
      rw [show Try.prog.cellsOf 137 = 6 by kernel_rfl] at hl
      obtain ⟨c0, c1, c2, c3, c4, c5, rfl⟩ := len6 hl
      obtain ⟨x, rfl, rfl, rfl, rfl, rfl, rfl⟩ := trod_said ht
      have hcell := (World.cells?_some hc).2.2
      exact ⟨x, by simpa using hcell 0 (by omega), by simpa using hcell 1 (by omega), by simpa using hcell 2 (by omega), by simpa using hcell 3 (by omega), by simpa using hcell 4 (by omega), by simpa using hcell 5 (by omega)⟩
    by_cases h0 : len = 0
    · subst h0
      exact ⟨[], ⟨rfl, .inl rfl⟩⟩
    · obtain ⟨f0, hc0, _⟩ := each 0 (by omega)
      obtain ⟨b, off, spot⟩ := ad
      have hspot : spot = none := by simpa [Addr.add] using World.cell?_spot hc0
      subst hspot
      have hb : b < W.heap.size := by
        have := World.block_lt_of_cell? W _ hc0
        simpa [Addr.add] using this
      obtain ⟨F, hF⟩ := Classical.axiomOfChoice (fun i : Fin len => each i.1 i.2)
      refine ⟨List.ofFn F, ⟨by simp, .inr ⟨b, off, rfl, hb, fun j f hf => ?_⟩⟩⟩
      obtain ⟨hj, rfl⟩ := List.getElem?_eq_some_iff.1 hf
      have hj' : j < len := by simpa using hj
      obtain ⟨c0, c1, c2, c3, c4, c5⟩ := hF ⟨j, hj'⟩
      rw [add_plain, add_plain] at c0 c1 c2 c3 c4 c5
      simp only [List.getElem_ofFn]
      exact ⟨c0, c1, c2, c3, c4, c5⟩
set_option maxRecDepth 100000 in
set_option maxHeartbeats 2000000 in
/-- a head that comes in -/
theorem open_head {H : Type} {enc : TypeId × Value → H} {W : World} {r : Reach} {base : Nat} {v : Value} {d : DataW H} {p : List MemPlace}
    (hv : Value.okWide Try.prog W r base 56 v) (h : DataW.Trod enc Try.prog W 0 (fun _ => true) true 56 v d p) :
    ∃ (hd : Hd) (hp : Hp), v = .agg (hC hd hp) ∧ HMax hd hp ∧ HIn W hd hp := by
  obtain ⟨cs, rfl, hcs⟩ := okWide_struct Try.underlying56 hv
  obtain ⟨fuel, hf⟩ := h
  obtain ⟨xs, n, _, _, hl, hlen, hfi⟩ := DataW.trod_struct Try.underlying56 hf
  rw [show Try.prog.cellsOf 56 = 15 by kernel_rfl] at hcs hl
  obtain ⟨l⟩ := cs
  obtain ⟨c0, c1, c2, c3, c4, c5, c6, c7, c8, c9, c10, c11, c12, c13, c14, rfl⟩ := len15 (by simpa using hcs : l.length = 15)
  have ec : (Value.agg (List.toArray [c0, c1, c2, c3, c4, c5, c6, c7, c8, c9, c10, c11, c12, c13, c14])).cells.toList = [c0, c1, c2, c3, c4, c5, c6, c7, c8, c9, c10, c11, c12, c13, c14] := by simp [Value.cells]
  rw [ec] at hfi
  have h0 : DataW.trod enc Try.prog W 0 (fun _ => true) true n 3 (([c0, c1, c2, c3, c4, c5, c6, c7, c8, c9, c10, c11, c12, c13, c14].drop 0).take (Try.prog.cellsOf 3)) = xs[0]? := hfi 0 _ rfl
  have h1 : DataW.trod enc Try.prog W 0 (fun _ => true) true n 26 (([c0, c1, c2, c3, c4, c5, c6, c7, c8, c9, c10, c11, c12, c13, c14].drop 1).take (Try.prog.cellsOf 26)) = xs[1]? := hfi 1 _ rfl
  have h2 : DataW.trod enc Try.prog W 0 (fun _ => true) true n 48 (([c0, c1, c2, c3, c4, c5, c6, c7, c8, c9, c10, c11, c12, c13, c14].drop 2).take (Try.prog.cellsOf 48)) = xs[2]? := hfi 2 _ rfl
  have h3 : DataW.trod enc Try.prog W 0 (fun _ => true) true n 28 (([c0, c1, c2, c3, c4, c5, c6, c7, c8, c9, c10, c11, c12, c13, c14].drop 3).take (Try.prog.cellsOf 28)) = xs[3]? := hfi 3 _ rfl
  have h4 : DataW.trod enc Try.prog W 0 (fun _ => true) true n 26 (([c0, c1, c2, c3, c4, c5, c6, c7, c8, c9, c10, c11, c12, c13, c14].drop 4).take (Try.prog.cellsOf 26)) = xs[4]? := hfi 4 _ rfl
  have h5 : DataW.trod enc Try.prog W 0 (fun _ => true) true n 53 (([c0, c1, c2, c3, c4, c5, c6, c7, c8, c9, c10, c11, c12, c13, c14].drop 5).take (Try.prog.cellsOf 53)) = xs[5]? := hfi 5 _ rfl
  have h6 : DataW.trod enc Try.prog W 0 (fun _ => true) true n 54 (([c0, c1, c2, c3, c4, c5, c6, c7, c8, c9, c10, c11, c12, c13, c14].drop 14).take (Try.prog.cellsOf 54)) = xs[6]? := hfi 6 _ rfl
  rw [show Try.prog.cellsOf 3 = 1 by kernel_rfl] at h0
  rw [show Try.prog.cellsOf 26 = 1 by kernel_rfl] at h1
  rw [show Try.prog.cellsOf 48 = 1 by kernel_rfl] at h2
  rw [show Try.prog.cellsOf 28 = 1 by kernel_rfl] at h3
  rw [show Try.prog.cellsOf 26 = 1 by kernel_rfl] at h4
  rw [show Try.prog.cellsOf 53 = 9 by kernel_rfl] at h5
  rw [show Try.prog.cellsOf 54 = 1 by kernel_rfl] at h6
  have g : ∀ i, i < 7 → ∃ z, xs[i]? = some z := fun i hi => ⟨xs[i]'(by simp at hlen; omega), List.getElem?_eq_getElem _⟩
  obtain ⟨z0, e0⟩ := g 0 (by omega)
  rw [e0] at h0
  have h0' : DataW.trod enc Try.prog W 0 (fun _ => true) true n 3 [c0] = some z0 := by simpa using h0
  obtain ⟨k0, hk0, _⟩ := DataW.trod_int Try.underlying3 h0'
  simp at hk0
  subst hk0
  obtain ⟨z1, e1⟩ := g 1 (by omega)
  rw [e1] at h1
  have h1' : DataW.trod enc Try.prog W 0 (fun _ => true) true n 26 [c1] = some z1 := by simpa using h1
  obtain ⟨a1, m1, d1, hx1⟩ := sliceH Try.underlying26 h1'
  simp at hx1
  subst hx1
  obtain ⟨q1, ls1, r1⟩ := open_ints13 h1'
  obtain ⟨z2, e2⟩ := g 2 (by omega)
  rw [e2] at h2
  have h2' : DataW.trod enc Try.prog W 0 (fun _ => true) true n 48 [c2] = some z2 := by simpa using h2
  obtain ⟨a2, m2, d2, hx2⟩ := sliceH Try.underlying48 h2'
  simp at hx2
  subst hx2
  obtain ⟨q2, fs2, r2, _⟩ := O.open_edgeS h2'
  obtain ⟨z3, e3⟩ := g 3 (by omega)
  rw [e3] at h3
  have h3' : DataW.trod enc Try.prog W 0 (fun _ => true) true n 28 [c3] = some z3 := by simpa using h3
  obtain ⟨a3, m3, d3, hx3⟩ := sliceH Try.underlying28 h3'
  simp at hx3
  subst hx3
  obtain ⟨q3, ts3, r3, s3⟩ := open_intSS h3'
  obtain ⟨z4, e4⟩ := g 4 (by omega)
  rw [e4] at h4
  have h4' : DataW.trod enc Try.prog W 0 (fun _ => true) true n 26 [c4] = some z4 := by simpa using h4
  obtain ⟨a4, m4, d4, hx4⟩ := sliceH Try.underlying26 h4'
  simp at hx4
  subst hx4
  obtain ⟨q4, ls4, r4⟩ := open_ints13 h4'
  obtain ⟨z5, e5⟩ := g 5 (by omega)
  rw [e5] at h5
  have h5' : DataW.trod enc Try.prog W 0 (fun _ => true) true n 53 [c5, c6, c7, c8, c9, c10, c11, c12, c13] = some z5 := by simpa using h5
  obtain ⟨i, o, a, b, sh, num, op, s5, v, fs5, ⟨rfl, rfl, rfl, rfl, rfl, rfl, rfl, rfl, rfl⟩, q5, r5⟩ := trod_task h5'
  obtain ⟨z6, e6⟩ := g 6 (by omega)
  rw [e6] at h6
  have h6' : DataW.trod enc Try.prog W 0 (fun _ => true) true n 54 [c14] = some z6 := by simpa using h6
  obtain ⟨a6, m6, d6, hx6⟩ := sliceH Try.underlying54 h6'
  simp at hx6
  subst hx6
  obtain ⟨q6, ss6, r6⟩ := open_saidS h6'
  exact ⟨⟨k0, ls1, fs2, ts3, ls4, i, o, a, b, sh, num, op, fs5, v, ss6⟩, ⟨⟨a1, m1, d1⟩, ⟨a2, m2, d2⟩, ⟨a3, m3, d3⟩, ⟨a4, m4, d4⟩, s5, ⟨a6, m6, d6⟩⟩, rfl, ⟨q1, q2, q3, s3, q4, q5, q6⟩, ⟨r1, r2, r3, r4, r5, r6⟩⟩
end Go.Proofs.Ytdihemjfnjhdiaa
