/- Worlds compared, marked, held. -/
import Derived.Test.YtiidomopnmjhbaaKFind6
import Derived.Test.YtiidomopnmjhbaaKHeadNewLaw13
namespace Go.Proofs.Ytiidomopnmjhbaa
open Go.RowKit

theorem hidw {p : Prop} (h : p) : Hid p := h

set_option maxRecDepth 100000 in
set_option maxHeartbeats 8000000 in
theorem eqWorld_new (M N S : Int) (aO : Option Addr) (v cO : Nat) (aL : Option Addr) (k cL : Nat) (aN : Option Addr) (aO_ : Option Addr) (v_ cO_ : Nat) (aL_ : Option Addr) (k_ cL_ : Nat) (aN_ : Option Addr) (nS nD nU : Nat) (aS : Option Addr) (cS : Nat) (aD : Option Addr) (cD : Nat) (aU : Option Addr) (cU : Nat) (aS_ : Option Addr) (cS_ : Nat) (aD_ : Option Addr) (cD_ : Nat) (aU_ : Option Addr) (cU_ : Nat) (f : Nat → Int) (w : World)
    (hE : ∀ u, Below w.heap.size w u → Calls Try.prog 37 #[.agg #[.int .i64 N, .slice aO v cO, .slice none 0 0, .slice aL k cL, .slice aN k k, .int .i64 0, .int .i64 0, .int .i64 0, .int .i64 0, .int .i64 0, .int .i64 0, .int .i64 0, .slice none 0 0, .int .i64 0, .slice none 0 0], .agg #[.int .i64 N, .slice aO_ v_ cO_, .slice none 0 0, .slice aL_ k_ cL_, .slice aN_ k_ k_, .int .i64 0, .int .i64 0, .int .i64 0, .int .i64 0, .int .i64 0, .int .i64 0, .int .i64 0, .slice none 0 0, .int .i64 0, .slice none 0 0]] u fun e y => e = .returned (.bool true) ∧ Below u.heap.size u y)
    (hS : Sq w w.heap.size aS nS fun t => ⟨f t, S, 0, false⟩) (hS_ : Sq w w.heap.size aS_ nS fun t => ⟨f t, S, 0, false⟩)
    (hD : Vq w w.heap.size aD nD (List.replicate nD (.slice none 0 0))) (hD_ : Vq w w.heap.size aD_ nD (List.replicate nD (.slice none 0 0)))
    (hU : Vq w w.heap.size aU nU (List.replicate nU (.bool true))) (hU_ : Vq w w.heap.size aU_ nU (List.replicate nU (.bool true))) (h1 : nS ≤ 100) (h2 : nD ≤ 100) (h3 : nU ≤ 100) :
    Calls Try.prog 15 #[.agg #[.int .i64 M, .int .i64 N, .slice aO v cO, .slice none 0 0, .slice aL k cL, .slice aN k k, .int .i64 0, .int .i64 0, .int .i64 0, .int .i64 0, .int .i64 0, .int .i64 0, .int .i64 0, .slice none 0 0, .int .i64 0, .slice none 0 0, .slice aS nS cS, .slice aD nD cD, .slice aU nU cU, .slice none 0 0, .slice none 0 0, .slice none 0 0], .agg #[.int .i64 M, .int .i64 N, .slice aO_ v_ cO_, .slice none 0 0, .slice aL_ k_ cL_, .slice aN_ k_ k_, .int .i64 0, .int .i64 0, .int .i64 0, .int .i64 0, .int .i64 0, .int .i64 0, .int .i64 0, .slice none 0 0, .int .i64 0, .slice none 0 0, .slice aS_ nS cS_, .slice aD_ nD cD_, .slice aU_ nU cU_, .slice none 0 0, .slice none 0 0, .slice none 0 0]] w fun e w' => e = .returned (.bool true) ∧ Below w.heap.size w w' := by
  obtain ⟨W, hW⟩ : ∃ W, W = (w.alloc (.cells #[.int .i64 M, .int .i64 N, .slice aO v cO, .slice none 0 0, .slice aL k cL, .slice aN k k, .int .i64 0, .int .i64 0, .int .i64 0, .int .i64 0, .int .i64 0, .int .i64 0, .int .i64 0, .slice none 0 0, .int .i64 0, .slice none 0 0, .slice aS nS cS, .slice aD nD cD, .slice aU nU cU, .slice none 0 0, .slice none 0 0, .slice none 0 0] 52)).alloc (.cells #[.int .i64 M, .int .i64 N, .slice aO_ v_ cO_, .slice none 0 0, .slice aL_ k_ cL_, .slice aN_ k_ k_, .int .i64 0, .int .i64 0, .int .i64 0, .int .i64 0, .int .i64 0, .int .i64 0, .int .i64 0, .slice none 0 0, .int .i64 0, .slice none 0 0, .slice aS_ nS cS_, .slice aD_ nD cD_, .slice aU_ nU cU_, .slice none 0 0, .slice none 0 0, .slice none 0 0] 52) := ⟨_, rfl⟩
  have bW : Below w.heap.size w W := by rw [hW]; exact ((Below.refl _ _).alloc (Nat.le_refl _) _).alloc (by simp) _
  have X0 : BxA W w.heap.size 52 #[.int .i64 M, .int .i64 N, .slice aO v cO, .slice none 0 0, .slice aL k cL, .slice aN k k, .int .i64 0, .int .i64 0, .int .i64 0, .int .i64 0, .int .i64 0, .int .i64 0, .int .i64 0, .slice none 0 0, .int .i64 0, .slice none 0 0, .slice aS nS cS, .slice aD nD cD, .slice aU nU cU, .slice none 0 0, .slice none 0 0, .slice none 0 0] := by rw [hW]; exact (BxA.new w _ _).up (belA _ _)
  have X1 : BxA W (w.heap.size + 1) 52 #[.int .i64 M, .int .i64 N, .slice aO_ v_ cO_, .slice none 0 0, .slice aL_ k_ cL_, .slice aN_ k_ k_, .int .i64 0, .int .i64 0, .int .i64 0, .int .i64 0, .int .i64 0, .int .i64 0, .int .i64 0, .slice none 0 0, .int .i64 0, .slice none 0 0, .slice aS_ nS cS_, .slice aD_ nD cD_, .slice aU_ nU cU_, .slice none 0 0, .slice none 0 0, .slice none 0 0] := by
    have h := BxA.new (w.alloc (.cells #[.int .i64 M, .int .i64 N, .slice aO v cO, .slice none 0 0, .slice aL k cL, .slice aN k k, .int .i64 0, .int .i64 0, .int .i64 0, .int .i64 0, .int .i64 0, .int .i64 0, .int .i64 0, .slice none 0 0, .int .i64 0, .slice none 0 0, .slice aS nS cS, .slice aD nD cD, .slice aU nU cU, .slice none 0 0, .slice none 0 0, .slice none 0 0] 52)) 52 #[.int .i64 M, .int .i64 N, .slice aO_ v_ cO_, .slice none 0 0, .slice aL_ k_ cL_, .slice aN_ k_ k_, .int .i64 0, .int .i64 0, .int .i64 0, .int .i64 0, .int .i64 0, .int .i64 0, .int .i64 0, .slice none 0 0, .int .i64 0, .slice none 0 0, .slice aS_ nS cS_, .slice aD_ nD cD_, .slice aU_ nU cU_, .slice none 0 0, .slice none 0 0, .slice none 0 0]
    rw [show (w.alloc (.cells #[.int .i64 M, .int .i64 N, .slice aO v cO, .slice none 0 0, .slice aL k cL, .slice aN k k, .int .i64 0, .int .i64 0, .int .i64 0, .int .i64 0, .int .i64 0, .int .i64 0, .int .i64 0, .slice none 0 0, .int .i64 0, .slice none 0 0, .slice aS nS cS, .slice aD nD cD, .slice aU nU cU, .slice none 0 0, .slice none 0 0, .slice none 0 0] 52)).heap.size = w.heap.size + 1 by simp] at h
    rw [hW]; exact h
  have H0 := hideIt X0
  have H1 := hideIt X1
  have HB := hideIt bW
  have HE := hideIt hE
  have HS := hideIt (And.intro hS hS_)
  have HD := hideIt (And.intro hD hD_)
  have HU := hideIt (And.intro hU hU_)
  have dM : (M != M) = false := by simp
  have y0 := X0.cell 0 rfl
  have y1 := X0.cell 1 rfl
  have y2 := X0.cell 2 rfl
  have y3 := X0.cell 3 rfl
  have y4 := X0.cell 4 rfl
  have y5 := X0.cell 5 rfl
  have y6 := X0.cell 6 rfl
  have y7 := X0.cell 7 rfl
  have y8 := X0.cell 8 rfl
  have y9 := X0.cell 9 rfl
  have y10 := X0.cell 10 rfl
  have y11 := X0.cell 11 rfl
  have y12 := X0.cell 12 rfl
  have y13 := X0.cell 13 rfl
  have y14 := X0.cell 14 rfl
  have y15 := X0.cell 15 rfl
  have z0 := X1.cell 0 rfl
  have z1 := X1.cell 1 rfl
  have z2 := X1.cell 2 rfl
  have z3 := X1.cell 3 rfl
  have z4 := X1.cell 4 rfl
  have z5 := X1.cell 5 rfl
  have z6 := X1.cell 6 rfl
  have z7 := X1.cell 7 rfl
  have z8 := X1.cell 8 rfl
  have z9 := X1.cell 9 rfl
  have z10 := X1.cell 10 rfl
  have z11 := X1.cell 11 rfl
  have z12 := X1.cell 12 rfl
  have z13 := X1.cell 13 rfl
  have z14 := X1.cell 14 rfl
  have z15 := X1.cell 15 rfl
  have HC := hideIt (HE.out W bW)
  clear X0 X1 bW hE hS hS_ hD hD_ hU hU_
  go_enter Try.func15, Try.ntmps15
  go_upto_region 1 with fail
  rw [← hW]
  clear hW
  go_wp2_with (go_at_call 37; refine HC.out.mono ?_; rintro e w1 ⟨rfl, b1⟩; refine Hid.out ?_)
  refine hidw ?_
  have X0 := H0.out.up b1
  have X1 := H1.out.up b1
  have HB1 := hideIt (bupN HB.out b1)
  have HG1 := hideIt b1
  clear y0 y1 y2 y3 y4 y5 y6 y7 y8 y9 y10 y11 y12 y13 y14 y15 z0 z1 z2 z3 z4 z5 z6 z7 z8 z9 z10 z11 z12 z13 z14 z15 HC HB b1
  have y16 := X0.cell 16 rfl
  have z16 := X1.cell 16 rfl
  have HC := hideIt (eqShardS_new nS f S aS aS_ cS cS_ (by omega) w1 (HS.out.1.up HB1.out) (HS.out.2.up HB1.out))
  have HX0 := hideIt X0
  have HX1 := hideIt X1
  clear X0 X1 HS HG1 H0 H1
  go_wp2_with (go_at_call 38; refine HC.out.mono ?_; rintro e w2 ⟨rfl, b2⟩; refine Hid.out ?_)
  refine hidw ?_
  have X0 := HX0.out.up b2
  have X1 := HX1.out.up b2
  have HB2 := hideIt (bupN HB1.out b2)
  clear y16 z16 HC HB1 b2
  have y17 := X0.cell 17 rfl
  have z17 := X1.cell 17 rfl
  have HC := hideIt (eqDiskS_rep nD aD aD_ cD cD_ (by omega) w2 (HD.out.1.up HB2.out) (HD.out.2.up HB2.out))
  clear HX0 HX1
  have HX0 := hideIt X0
  have HX1 := hideIt X1
  clear X0 X1 HD
  go_wp2_with (go_at_call 39; refine HC.out.mono ?_; rintro e w3 ⟨rfl, b3⟩; refine Hid.out ?_)
  refine hidw ?_
  have X0 := HX0.out.up b3
  have X1 := HX1.out.up b3
  have HB3 := hideIt (bupN HB2.out b3)
  clear y17 z17 HC HB2 b3
  have y18 := X0.cell 18 rfl
  have z18 := X1.cell 18 rfl
  have HC := hideIt (eqBoolS_rep nU aU aU_ cU cU_ (by omega) w3 (HU.out.1.up HB3.out) (HU.out.2.up HB3.out))
  clear HX0 HX1
  have HX0 := hideIt X0
  have HX1 := hideIt X1
  clear X0 X1 HU
  go_wp2_with (go_at_call 40; refine HC.out.mono ?_; rintro e w4 ⟨rfl, b4⟩; refine Hid.out ?_)
  refine hidw ?_
  have X0 := HX0.out.up b4
  have X1 := HX1.out.up b4
  have HB4 := hideIt (bupN HB3.out b4)
  clear y18 z18 HC HB3 b4
  have y19 := X0.cell 19 rfl
  have y20 := X0.cell 20 rfl
  have y21 := X0.cell 21 rfl
  have z19 := X1.cell 19 rfl
  have z20 := X1.cell 20 rfl
  have z21 := X1.cell 21 rfl
  have HN1 := hideIt eqPacketS_nil
  have HN2 := hideIt eqCallS_nil
  have HN3 := hideIt eqRecS_nil
  clear X0 X1 HX0 HX1
  go_wp2_with (first
    | (go_at_call 41; refine (HN1.out _).mono ?_; rintro e w5 ⟨rfl, rfl⟩)
    | (go_at_call 42; refine (HN2.out _).mono ?_; rintro e w6 ⟨rfl, rfl⟩)
    | (go_at_call 43; refine (HN3.out _).mono ?_; rintro e w7 ⟨rfl, rfl⟩))
  go_ret
  exact ⟨rfl, HB4.out⟩
end Go.Proofs.Ytiidomopnmjhbaa
