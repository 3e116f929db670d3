/- The walk of FnExactWorldNew. -/
import Derived.Test.YtiidomopnmjhbaaKWx17
namespace Go.Proofs.Ytiidomopnmjhbaa
open Go.RowKit

set_option maxRecDepth 100000 in
set_option maxHeartbeats 16000000 in
theorem fnExactWorldNew.walk (n : Int) (_ : (Lit.int .i64 n).wf = true) (sh : Int) (_ : (Lit.int .i64 sh).wf = true) (w : World) :
    Calls Try.prog 4 #[.int .i64 n, .int .i64 sh] w fun e w' => e = .returned (.bool true) ∧ Below w.heap.size w w' := by
  have HS := hideIt (sWorldNew_any n sh w)
  have HI := hideIt (iWorldNew_any n sh)
  obtain ⟨N, hN⟩ : ∃ N, N = (hnH n sh).N := ⟨_, rfl⟩
  obtain ⟨fl, hfl⟩ : ∃ fl, fl = hnB n sh := ⟨_, rfl⟩
  obtain ⟨M, hM⟩ : ∃ M, M = wdM n sh := ⟨_, rfl⟩
  obtain ⟨S, hS⟩ : ∃ S, S = wdS n sh := ⟨_, rfl⟩
  obtain ⟨D, hD⟩ : ∃ D, D = wdD n sh := ⟨_, rfl⟩
  have hS3 : S ≤ 3 := by rw [hS]; unfold wdS hnB; split <;> simp_all
  have hD4 : D ≤ 4 := by rw [hD]; unfold wdD hnB; split <;> simp_all
  have HNe : Hid (N = (hnH n sh).N) := hN
  unfold WnA at HS HI
  rw [← hN, ← hfl, ← hM, ← hS, ← hD] at HS
  rw [← hN, ← hfl, ← hM, ← hS, ← hD] at HI
  have hff : (fl != fl) = false := by simp
  clear hN hfl hM hS hD
  go_enter Try.func4, Try.ntmps4
  go_wp2_with (go_at_call 13; refine HS.out.mono ?_; rintro e w1 ⟨aO0, v0, cO0, aL0, k0, cL0, aN0, R0, aS0, cS0, aD0, cD0, aU0, cU0, hi0, cs0, rfl, k1, r1, e1, b1⟩; refine Hid.out ?_)
  refine hidw ?_
  obtain ⟨zW5, hzW5⟩ : ∃ z, z = w1.alloc (.cells #[.int .i64 0, .int .i64 0, .slice none 0 0, .slice none 0 0, .slice none 0 0, .slice none 0 0, .int .i64 0, .int .i64 0, .int .i64 0, .int .i64 0, .int .i64 0, .int .i64 0, .int .i64 0, .slice none 0 0, .int .i64 0, .slice none 0 0, .slice none 0 0, .slice none 0 0, .slice none 0 0, .slice none 0 0, .slice none 0 0, .slice none 0 0] 52) := ⟨_, rfl⟩
  obtain ⟨B5, hB5⟩ : ∃ B5, B5 = w1.heap.size := ⟨_, rfl⟩
  have YW5 : BxA zW5 B5 52 #[.int .i64 0, .int .i64 0, .slice none 0 0, .slice none 0 0, .slice none 0 0, .slice none 0 0, .int .i64 0, .int .i64 0, .int .i64 0, .int .i64 0, .int .i64 0, .int .i64 0, .int .i64 0, .slice none 0 0, .int .i64 0, .slice none 0 0, .slice none 0 0, .slice none 0 0, .slice none 0 0, .slice none 0 0, .slice none 0 0, .slice none 0 0] := by rw [hzW5, hB5]; exact BxA.new _ _ _
  have bZ : Below w1.heap.size w1 zW5 := by rw [hzW5]; exact belA _ _
  have HTW5 := hideIt (BxA.there (l := [.int .i64 0, .int .i64 0, .slice none 0 0, .slice none 0 0, .slice none 0 0, .slice none 0 0, .int .i64 0, .int .i64 0, .int .i64 0, .int .i64 0, .int .i64 0, .int .i64 0, .int .i64 0, .slice none 0 0, .int .i64 0, .slice none 0 0, .slice none 0 0, .slice none 0 0, .slice none 0 0, .slice none 0 0, .slice none 0 0, .slice none 0 0]) YW5 (Nat.le_refl _))
  obtain ⟨W5, hW5⟩ : ∃ W5, W5 = setA zW5 B5 0 [.int .i64 M, .int .i64 N, .slice aO0 v0 cO0, .slice none 0 0, .slice aL0 k0 cL0, .slice aN0 k0 k0, .int .i64 0, .int .i64 0, .int .i64 0, .int .i64 0, .int .i64 0, .int .i64 0, .int .i64 0, .slice none 0 0, .int .i64 0, .slice none 0 0, .slice aS0 S cS0, .slice aD0 D cD0, .slice aU0 D cU0, .slice none 0 0, .slice none 0 0, .slice none 0 0] := ⟨_, rfl⟩
  have bA : Below w1.heap.size w1 W5 := by rw [hW5]; exact below_setA bZ (by rw [hB5]; exact Nat.le_refl _) 0 _
  have XW5 : BxA W5 B5 52 #[.int .i64 M, .int .i64 N, .slice aO0 v0 cO0, .slice none 0 0, .slice aL0 k0 cL0, .slice aN0 k0 k0, .int .i64 0, .int .i64 0, .int .i64 0, .int .i64 0, .int .i64 0, .int .i64 0, .int .i64 0, .slice none 0 0, .int .i64 0, .slice none 0 0, .slice aS0 S cS0, .slice aD0 D cD0, .slice aU0 D cU0, .slice none 0 0, .slice none 0 0, .slice none 0 0] := by
    have q := BxA.setA (l := [.int .i64 0, .int .i64 0, .slice none 0 0, .slice none 0 0, .slice none 0 0, .slice none 0 0, .int .i64 0, .int .i64 0, .int .i64 0, .int .i64 0, .int .i64 0, .int .i64 0, .int .i64 0, .slice none 0 0, .int .i64 0, .slice none 0 0, .slice none 0 0, .slice none 0 0, .slice none 0 0, .slice none 0 0, .slice none 0 0, .slice none 0 0]) YW5 0 [.int .i64 M, .int .i64 N, .slice aO0 v0 cO0, .slice none 0 0, .slice aL0 k0 cL0, .slice aN0 k0 k0, .int .i64 0, .int .i64 0, .int .i64 0, .int .i64 0, .int .i64 0, .int .i64 0, .int .i64 0, .slice none 0 0, .int .i64 0, .slice none 0 0, .slice aS0 S cS0, .slice aD0 D cD0, .slice aU0 D cU0, .slice none 0 0, .slice none 0 0, .slice none 0 0]
    rw [setV_all [.int .i64 0, .int .i64 0, .slice none 0 0, .slice none 0 0, .slice none 0 0, .slice none 0 0, .int .i64 0, .int .i64 0, .int .i64 0, .int .i64 0, .int .i64 0, .int .i64 0, .int .i64 0, .slice none 0 0, .int .i64 0, .slice none 0 0, .slice none 0 0, .slice none 0 0, .slice none 0 0, .slice none 0 0, .slice none 0 0, .slice none 0 0] [.int .i64 M, .int .i64 N, .slice aO0 v0 cO0, .slice none 0 0, .slice aL0 k0 cL0, .slice aN0 k0 k0, .int .i64 0, .int .i64 0, .int .i64 0, .int .i64 0, .int .i64 0, .int .i64 0, .int .i64 0, .slice none 0 0, .int .i64 0, .slice none 0 0, .slice aS0 S cS0, .slice aD0 D cD0, .slice aU0 D cU0, .slice none 0 0, .slice none 0 0, .slice none 0 0] rfl, ← hW5] at q
    exact q
  clear YW5 bZ
  go_step
  go_step
  go_step
  go_step
  go_step
  go_step
  go_step
  go_step
  go_step
  go_step
  go_step
  go_step
  go_step
  go_step
  refine wp_store_mid 52 (.tmp 5) (.tmp 17) ?_ w1.heap.size 0 #[.int .i64 M, .int .i64 N, .slice aO0 v0 cO0, .slice none 0 0, .slice aL0 k0 cL0, .slice aN0 k0 k0, .int .i64 0, .int .i64 0, .int .i64 0, .int .i64 0, .int .i64 0, .int .i64 0, .int .i64 0, .slice none 0 0, .int .i64 0, .slice none 0 0, .slice aS0 S cS0, .slice aD0 D cD0, .slice aU0 D cU0, .slice none 0 0, .slice none 0 0, .slice none 0 0] ?_ ?_ ?_ ?_ ?_ ?_
  · rfl
  · rfl
  · rfl
  · rw [← hzW5, ← hB5]; exact HTW5.out
  · kernel_rfl
  · kernel_rfl
  rw [← hzW5, ← hB5, setCells_setA]
  rw [show setA zW5 B5 0 (#[.int .i64 M, .int .i64 N, .slice aO0 v0 cO0, .slice none 0 0, .slice aL0 k0 cL0, .slice aN0 k0 k0, .int .i64 0, .int .i64 0, .int .i64 0, .int .i64 0, .int .i64 0, .int .i64 0, .int .i64 0, .slice none 0 0, .int .i64 0, .slice none 0 0, .slice aS0 S cS0, .slice aD0 D cD0, .slice aU0 D cU0, .slice none 0 0, .slice none 0 0, .slice none 0 0] : Array Value).toList = W5 from hW5.symm]
  clear hzW5 hW5 HTW5
  have K5 : Hid (∀ x, Below W5.heap.size W5 x → BxA x B5 52 #[.int .i64 M, .int .i64 N, .slice aO0 v0 cO0, .slice none 0 0, .slice aL0 k0 cL0, .slice aN0 k0 k0, .int .i64 0, .int .i64 0, .int .i64 0, .int .i64 0, .int .i64 0, .int .i64 0, .int .i64 0, .slice none 0 0, .int .i64 0, .slice none 0 0, .slice aS0 S cS0, .slice aD0 D cD0, .slice aU0 D cU0, .slice none 0 0, .slice none 0 0, .slice none 0 0] ∧ WV x n sh aO0 v0 cO0 aL0 k0 cL0 aN0 aS0 S aD0 D aU0) := fun x hx => ⟨XW5.up hx, ((wk_view k1 r1 e1).up bA).up hx⟩
  have HB5 := hideIt (bupN b1 bA)
  clear HS k1 r1 e1 b1 bA XW5
  go_upto_region 2 with fail
  rw [← hB5]
  clear hB5
  have HI5 := hideIt (HI.out W5)
  have HLO : Hid (W5.heap.size ≤ W5.heap.size) := Nat.le_refl _
  go_wp2_with (go_at_call 14; refine HI5.out.mono ?_; rintro e w2 ⟨aO, v, cO, aL, k, cL, aN, R, aS, cS, aD, cD, aU, cU, hi, cs, rfl, k2, r2, e2, b2⟩; refine Hid.out ?_)
  refine hidw ?_
  obtain ⟨zW7, hzW7⟩ : ∃ z, z = w2.alloc (.cells #[.int .i64 0, .int .i64 0, .slice none 0 0, .slice none 0 0, .slice none 0 0, .slice none 0 0, .int .i64 0, .int .i64 0, .int .i64 0, .int .i64 0, .int .i64 0, .int .i64 0, .int .i64 0, .slice none 0 0, .int .i64 0, .slice none 0 0, .slice none 0 0, .slice none 0 0, .slice none 0 0, .slice none 0 0, .slice none 0 0, .slice none 0 0] 52) := ⟨_, rfl⟩
  obtain ⟨B7, hB7⟩ : ∃ B7, B7 = w2.heap.size := ⟨_, rfl⟩
  have YW7 : BxA zW7 B7 52 #[.int .i64 0, .int .i64 0, .slice none 0 0, .slice none 0 0, .slice none 0 0, .slice none 0 0, .int .i64 0, .int .i64 0, .int .i64 0, .int .i64 0, .int .i64 0, .int .i64 0, .int .i64 0, .slice none 0 0, .int .i64 0, .slice none 0 0, .slice none 0 0, .slice none 0 0, .slice none 0 0, .slice none 0 0, .slice none 0 0, .slice none 0 0] := by rw [hzW7, hB7]; exact BxA.new _ _ _
  have bZ : Below w2.heap.size w2 zW7 := by rw [hzW7]; exact belA _ _
  have HTW7 := hideIt (BxA.there (l := [.int .i64 0, .int .i64 0, .slice none 0 0, .slice none 0 0, .slice none 0 0, .slice none 0 0, .int .i64 0, .int .i64 0, .int .i64 0, .int .i64 0, .int .i64 0, .int .i64 0, .int .i64 0, .slice none 0 0, .int .i64 0, .slice none 0 0, .slice none 0 0, .slice none 0 0, .slice none 0 0, .slice none 0 0, .slice none 0 0, .slice none 0 0]) YW7 (Nat.le_refl _))
  obtain ⟨W7, hW7⟩ : ∃ W7, W7 = setA zW7 B7 0 [.int .i64 M, .int .i64 N, .slice aO v cO, .slice none 0 0, .slice aL k cL, .slice aN k k, .int .i64 0, .int .i64 0, .int .i64 0, .int .i64 0, .int .i64 0, .int .i64 0, .int .i64 0, .slice none 0 0, .int .i64 0, .slice none 0 0, .slice aS S cS, .slice aD D cD, .slice aU D cU, .slice none 0 0, .slice none 0 0, .slice none 0 0] := ⟨_, rfl⟩
  have bA : Below w2.heap.size w2 W7 := by rw [hW7]; exact below_setA bZ (by rw [hB7]; exact Nat.le_refl _) 0 _
  have XW7 : BxA W7 B7 52 #[.int .i64 M, .int .i64 N, .slice aO v cO, .slice none 0 0, .slice aL k cL, .slice aN k k, .int .i64 0, .int .i64 0, .int .i64 0, .int .i64 0, .int .i64 0, .int .i64 0, .int .i64 0, .slice none 0 0, .int .i64 0, .slice none 0 0, .slice aS S cS, .slice aD D cD, .slice aU D cU, .slice none 0 0, .slice none 0 0, .slice none 0 0] := by
    have q := BxA.setA (l := [.int .i64 0, .int .i64 0, .slice none 0 0, .slice none 0 0, .slice none 0 0, .slice none 0 0, .int .i64 0, .int .i64 0, .int .i64 0, .int .i64 0, .int .i64 0, .int .i64 0, .int .i64 0, .slice none 0 0, .int .i64 0, .slice none 0 0, .slice none 0 0, .slice none 0 0, .slice none 0 0, .slice none 0 0, .slice none 0 0, .slice none 0 0]) YW7 0 [.int .i64 M, .int .i64 N, .slice aO v cO, .slice none 0 0, .slice aL k cL, .slice aN k k, .int .i64 0, .int .i64 0, .int .i64 0, .int .i64 0, .int .i64 0, .int .i64 0, .int .i64 0, .slice none 0 0, .int .i64 0, .slice none 0 0, .slice aS S cS, .slice aD D cD, .slice aU D cU, .slice none 0 0, .slice none 0 0, .slice none 0 0]
    rw [setV_all [.int .i64 0, .int .i64 0, .slice none 0 0, .slice none 0 0, .slice none 0 0, .slice none 0 0, .int .i64 0, .int .i64 0, .int .i64 0, .int .i64 0, .int .i64 0, .int .i64 0, .int .i64 0, .slice none 0 0, .int .i64 0, .slice none 0 0, .slice none 0 0, .slice none 0 0, .slice none 0 0, .slice none 0 0, .slice none 0 0, .slice none 0 0] [.int .i64 M, .int .i64 N, .slice aO v cO, .slice none 0 0, .slice aL k cL, .slice aN k k, .int .i64 0, .int .i64 0, .int .i64 0, .int .i64 0, .int .i64 0, .int .i64 0, .int .i64 0, .slice none 0 0, .int .i64 0, .slice none 0 0, .slice aS S cS, .slice aD D cD, .slice aU D cU, .slice none 0 0, .slice none 0 0, .slice none 0 0] rfl, ← hW7] at q
    exact q
  clear YW7 bZ
  go_step
  go_step
  go_step
  go_step
  go_step
  go_step
  go_step
  go_step
  go_step
  go_step
  go_step
  go_step
  go_step
  go_step
  refine wp_store_mid 52 (.tmp 7) (.tmp 23) ?_ w2.heap.size 0 #[.int .i64 M, .int .i64 N, .slice aO v cO, .slice none 0 0, .slice aL k cL, .slice aN k k, .int .i64 0, .int .i64 0, .int .i64 0, .int .i64 0, .int .i64 0, .int .i64 0, .int .i64 0, .slice none 0 0, .int .i64 0, .slice none 0 0, .slice aS S cS, .slice aD D cD, .slice aU D cU, .slice none 0 0, .slice none 0 0, .slice none 0 0] ?_ ?_ ?_ ?_ ?_ ?_
  · rfl
  · rfl
  · rfl
  · rw [← hzW7, ← hB7]; exact HTW7.out
  · kernel_rfl
  · kernel_rfl
  rw [← hzW7, ← hB7, setCells_setA]
  rw [show setA zW7 B7 0 (#[.int .i64 M, .int .i64 N, .slice aO v cO, .slice none 0 0, .slice aL k cL, .slice aN k k, .int .i64 0, .int .i64 0, .int .i64 0, .int .i64 0, .int .i64 0, .int .i64 0, .int .i64 0, .slice none 0 0, .int .i64 0, .slice none 0 0, .slice aS S cS, .slice aD D cD, .slice aU D cU, .slice none 0 0, .slice none 0 0, .slice none 0 0] : Array Value).toList = W7 from hW7.symm]
  clear hzW7 hW7 HTW7
  have ow := wk_own k2 r2
  have Hf := hideIt (hn_fit ow)
  obtain ⟨m1, m2, m3⟩ := hn_small ow
  have B7b := bupN b2 bA
  obtain ⟨Y7, I7⟩ := K5.out W7 B7b
  have HV7 := hideIt ((wk_view k2 r2 e2).up bA)
  have HK7 := hideIt (k2.up bA)
  have HE7 := hideIt e2
  have HQ7 := hideIt (eqW n sh M N HNe.out S D (by omega) (by omega) W7 aO v cO aL k cL aN aO0 v0 cO0 aL0 k0 cL0 aN0 aS cS aD cD aU cU aS0 cS0 aD0 cD0 aU0 cU0 Hf.out HV7.out I7)
  have hhi : Hid (w2.heap.size ≤ B7) := by show _ ≤ _; rw [hB7]; exact Nat.le_refl _
  have HX7 := hideIt XW7
  have HY7 := hideIt Y7
  have HB7 := hideIt B7b
  clear HI5 k2 r2 e2 b2 bA XW7 Y7 I7 ow B7b HV7
  go_upto_region 3 with fail
  rw [← hB7]
  clear hB7
  refine wp_region_lit ?_
  go_step
  refine wp_load_mid 52 (.tmp 7) ?_ B7 0 ?_ [.int .i64 M, .int .i64 N, .slice aO v cO, .slice none 0 0, .slice aL k cL, .slice aN k k, .int .i64 0, .int .i64 0, .int .i64 0, .int .i64 0, .int .i64 0, .int .i64 0, .int .i64 0, .slice none 0 0, .int .i64 0, .slice none 0 0, .slice aS S cS, .slice aD D cD, .slice aU D cU, .slice none 0 0, .slice none 0 0, .slice none 0 0] _ ?_ Try.underlying52 rfl (by kernel_rfl) ?_
  · rfl
  · rfl
  · exact HX7.out.range
  go_step
  go_step
  refine wp_load_mid 52 (.tmp 5) ?_ B5 0 ?_ [.int .i64 M, .int .i64 N, .slice aO0 v0 cO0, .slice none 0 0, .slice aL0 k0 cL0, .slice aN0 k0 k0, .int .i64 0, .int .i64 0, .int .i64 0, .int .i64 0, .int .i64 0, .int .i64 0, .int .i64 0, .slice none 0 0, .int .i64 0, .slice none 0 0, .slice aS0 S cS0, .slice aD0 D cD0, .slice aU0 D cU0, .slice none 0 0, .slice none 0 0, .slice none 0 0] _ ?_ Try.underlying52 rfl (by kernel_rfl) ?_
  · rfl
  · rfl
  · exact HY7.out.range
  go_wp2_with (go_at_call 15; refine HQ7.out.mono ?_; rintro e w8 ⟨rfl, b8⟩; refine Hid.out ?_)
  refine hidw ?_
  have HX8 := hideIt (HX7.out.up b8)
  have HK8 := hideIt (HK7.out.up b8)
  have HB8 := hideIt (bupN HB7.out b8)
  obtain ⟨q, hq⟩ : ∃ q, q = 1 + v + rn R + k + S * 4 + D := ⟨_, rfl⟩
  have Hq : Hid (q = 1 + v + rn R + k + S * 4 + D) := hq
  clear hq
  have HM := hideIt (markWorld_new M N (1 + v + rn R + k) (1 + v + rn R + k + S * 4) q rfl rfl Hq.out HK8.out (fun t ht => ⟨_, HE7.out t ht⟩) m1 m2 m3 (by omega) (by omega) (by omega))
  clear HQ7 HX7 HY7 HK7 HB7 HE7 b8
  go_upto_region 6 with fail
  refine wp_region_lit ?_
  go_step
  refine wp_load_mid 52 (.tmp 7) ?_ B7 0 ?_ [.int .i64 M, .int .i64 N, .slice aO v cO, .slice none 0 0, .slice aL k cL, .slice aN k k, .int .i64 0, .int .i64 0, .int .i64 0, .int .i64 0, .int .i64 0, .int .i64 0, .int .i64 0, .slice none 0 0, .int .i64 0, .slice none 0 0, .slice aS S cS, .slice aD D cD, .slice aU D cU, .slice none 0 0, .slice none 0 0, .slice none 0 0] _ ?_ Try.underlying52 rfl (by kernel_rfl) ?_
  · rfl
  · rfl
  · exact HX8.out.range
  go_wp2_with (go_at_call 16; refine HM.out.mono ?_; rintro e w9 ⟨rfl, ⟨cs9, q9, e9⟩, r9⟩; refine Hid.out ?_)
  refine hidw ?_
  have HX9 := hideIt (HX8.out.rng r9 hhi.out)
  have HK9 := hideIt q9
  have HE9 := hideIt e9
  have HB9 := hideIt (HB8.out.trans (r9.below HLO.out HB8.out.size))
  clear HM HX8 HK8 HB8 q9 r9 e9
  have HQ := hideIt (fun (y : World) (hy : WK y W5.heap.size hi w2.heap.size aO v cO aL k cL aN (mkR (1 + v) R) (imarks 1 v) (imarks (1 + v + rn R) k) aS S cS aD D cD aU D cU cs9 (List.replicate D (.slice none 0 0)) (bmarks (1 + v + rn R + k + S * 4) D)) => heldWorld_new M N (1 + v + rn R + k) (1 + v + rn R + k + S * 4) q rfl rfl Hq.out hy HE9.out m1 m2 m3 (by omega) (by omega) (by omega))
  have dq : decide ((q : Int) < 0) = false := decide_eq_false (by omega)
  have dqq : ((q : Int) != (q : Int)) = false := by simp
  have HH := hideIt (HQ.out w9 HK9.out)
  go_upto_region 8 with fail
  refine wp_region_lit ?_
  go_step
  refine wp_load_mid 52 (.tmp 7) ?_ B7 0 ?_ [.int .i64 M, .int .i64 N, .slice aO v cO, .slice none 0 0, .slice aL k cL, .slice aN k k, .int .i64 0, .int .i64 0, .int .i64 0, .int .i64 0, .int .i64 0, .int .i64 0, .int .i64 0, .slice none 0 0, .int .i64 0, .slice none 0 0, .slice aS S cS, .slice aD D cD, .slice aU D cU, .slice none 0 0, .slice none 0 0, .slice none 0 0] _ ?_ Try.underlying52 rfl (by kernel_rfl) ?_
  · rfl
  · rfl
  · exact HX9.out.range
  go_wp2_with (go_at_call 17; refine HH.out.mono ?_; rintro e wa ⟨rfl, ba⟩; refine Hid.out ?_)
  refine hidw ?_
  have HXa := hideIt (HX9.out.up ba)
  have HKa := hideIt (HK9.out.up ba)
  have HBa := hideIt (bupN HB9.out ba)
  have HIa := hideIt (HI.out wa)
  clear HH HX9 HK9 HB9 ba
  go_wp2_with (go_at_call 14; refine HIa.out.mono ?_; rintro e wb ⟨aO3, v3, cO3, aL3, k3, cL3, aN3, R3, aS3, cS3, aD3, cD3, aU3, cU3, hi3, cs3, rfl, p3, r3, e3, b3⟩; refine Hid.out ?_)
  refine hidw ?_
  obtain ⟨zWc, hzWc⟩ : ∃ z, z = wb.alloc (.cells #[.int .i64 0, .int .i64 0, .slice none 0 0, .slice none 0 0, .slice none 0 0, .slice none 0 0, .int .i64 0, .int .i64 0, .int .i64 0, .int .i64 0, .int .i64 0, .int .i64 0, .int .i64 0, .slice none 0 0, .int .i64 0, .slice none 0 0, .slice none 0 0, .slice none 0 0, .slice none 0 0, .slice none 0 0, .slice none 0 0, .slice none 0 0] 52) := ⟨_, rfl⟩
  obtain ⟨Bc, hBc⟩ : ∃ Bc, Bc = wb.heap.size := ⟨_, rfl⟩
  have YWc : BxA zWc Bc 52 #[.int .i64 0, .int .i64 0, .slice none 0 0, .slice none 0 0, .slice none 0 0, .slice none 0 0, .int .i64 0, .int .i64 0, .int .i64 0, .int .i64 0, .int .i64 0, .int .i64 0, .int .i64 0, .slice none 0 0, .int .i64 0, .slice none 0 0, .slice none 0 0, .slice none 0 0, .slice none 0 0, .slice none 0 0, .slice none 0 0, .slice none 0 0] := by rw [hzWc, hBc]; exact BxA.new _ _ _
  have bZ : Below wb.heap.size wb zWc := by rw [hzWc]; exact belA _ _
  have HTWc := hideIt (BxA.there (l := [.int .i64 0, .int .i64 0, .slice none 0 0, .slice none 0 0, .slice none 0 0, .slice none 0 0, .int .i64 0, .int .i64 0, .int .i64 0, .int .i64 0, .int .i64 0, .int .i64 0, .int .i64 0, .slice none 0 0, .int .i64 0, .slice none 0 0, .slice none 0 0, .slice none 0 0, .slice none 0 0, .slice none 0 0, .slice none 0 0, .slice none 0 0]) YWc (Nat.le_refl _))
  obtain ⟨Wc, hWc⟩ : ∃ Wc, Wc = setA zWc Bc 0 [.int .i64 M, .int .i64 N, .slice aO3 v3 cO3, .slice none 0 0, .slice aL3 k3 cL3, .slice aN3 k3 k3, .int .i64 0, .int .i64 0, .int .i64 0, .int .i64 0, .int .i64 0, .int .i64 0, .int .i64 0, .slice none 0 0, .int .i64 0, .slice none 0 0, .slice aS3 S cS3, .slice aD3 D cD3, .slice aU3 D cU3, .slice none 0 0, .slice none 0 0, .slice none 0 0] := ⟨_, rfl⟩
  have bA : Below wb.heap.size wb Wc := by rw [hWc]; exact below_setA bZ (by rw [hBc]; exact Nat.le_refl _) 0 _
  have XWc : BxA Wc Bc 52 #[.int .i64 M, .int .i64 N, .slice aO3 v3 cO3, .slice none 0 0, .slice aL3 k3 cL3, .slice aN3 k3 k3, .int .i64 0, .int .i64 0, .int .i64 0, .int .i64 0, .int .i64 0, .int .i64 0, .int .i64 0, .slice none 0 0, .int .i64 0, .slice none 0 0, .slice aS3 S cS3, .slice aD3 D cD3, .slice aU3 D cU3, .slice none 0 0, .slice none 0 0, .slice none 0 0] := by
    have q := BxA.setA (l := [.int .i64 0, .int .i64 0, .slice none 0 0, .slice none 0 0, .slice none 0 0, .slice none 0 0, .int .i64 0, .int .i64 0, .int .i64 0, .int .i64 0, .int .i64 0, .int .i64 0, .int .i64 0, .slice none 0 0, .int .i64 0, .slice none 0 0, .slice none 0 0, .slice none 0 0, .slice none 0 0, .slice none 0 0, .slice none 0 0, .slice none 0 0]) YWc 0 [.int .i64 M, .int .i64 N, .slice aO3 v3 cO3, .slice none 0 0, .slice aL3 k3 cL3, .slice aN3 k3 k3, .int .i64 0, .int .i64 0, .int .i64 0, .int .i64 0, .int .i64 0, .int .i64 0, .int .i64 0, .slice none 0 0, .int .i64 0, .slice none 0 0, .slice aS3 S cS3, .slice aD3 D cD3, .slice aU3 D cU3, .slice none 0 0, .slice none 0 0, .slice none 0 0]
    rw [setV_all [.int .i64 0, .int .i64 0, .slice none 0 0, .slice none 0 0, .slice none 0 0, .slice none 0 0, .int .i64 0, .int .i64 0, .int .i64 0, .int .i64 0, .int .i64 0, .int .i64 0, .int .i64 0, .slice none 0 0, .int .i64 0, .slice none 0 0, .slice none 0 0, .slice none 0 0, .slice none 0 0, .slice none 0 0, .slice none 0 0, .slice none 0 0] [.int .i64 M, .int .i64 N, .slice aO3 v3 cO3, .slice none 0 0, .slice aL3 k3 cL3, .slice aN3 k3 k3, .int .i64 0, .int .i64 0, .int .i64 0, .int .i64 0, .int .i64 0, .int .i64 0, .int .i64 0, .slice none 0 0, .int .i64 0, .slice none 0 0, .slice aS3 S cS3, .slice aD3 D cD3, .slice aU3 D cU3, .slice none 0 0, .slice none 0 0, .slice none 0 0] rfl, ← hWc] at q
    exact q
  clear YWc bZ
  go_step
  go_step
  go_step
  go_step
  go_step
  go_step
  go_step
  go_step
  go_step
  go_step
  go_step
  go_step
  go_step
  go_step
  refine wp_store_mid 52 (.tmp 11) (.tmp 49) ?_ wb.heap.size 0 #[.int .i64 M, .int .i64 N, .slice aO3 v3 cO3, .slice none 0 0, .slice aL3 k3 cL3, .slice aN3 k3 k3, .int .i64 0, .int .i64 0, .int .i64 0, .int .i64 0, .int .i64 0, .int .i64 0, .int .i64 0, .slice none 0 0, .int .i64 0, .slice none 0 0, .slice aS3 S cS3, .slice aD3 D cD3, .slice aU3 D cU3, .slice none 0 0, .slice none 0 0, .slice none 0 0] ?_ ?_ ?_ ?_ ?_ ?_
  · rfl
  · rfl
  · rfl
  · rw [← hzWc, ← hBc]; exact HTWc.out
  · kernel_rfl
  · kernel_rfl
  rw [← hzWc, ← hBc, setCells_setA]
  rw [show setA zWc Bc 0 (#[.int .i64 M, .int .i64 N, .slice aO3 v3 cO3, .slice none 0 0, .slice aL3 k3 cL3, .slice aN3 k3 k3, .int .i64 0, .int .i64 0, .int .i64 0, .int .i64 0, .int .i64 0, .int .i64 0, .int .i64 0, .slice none 0 0, .int .i64 0, .slice none 0 0, .slice aS3 S cS3, .slice aD3 D cD3, .slice aU3 D cU3, .slice none 0 0, .slice none 0 0, .slice none 0 0] : Array Value).toList = Wc from hWc.symm]
  clear hzWc hWc HTWc
  have Bcb := bupN (bupN HBa.out b3) bA
  obtain ⟨Yc, Ic⟩ := K5.out Wc Bcb
  have ow := wk_own p3 r3
  have HQc := hideIt (eqW n sh M N HNe.out S D (by omega) (by omega) Wc aO3 v3 cO3 aL3 k3 cL3 aN3 aO0 v0 cO0 aL0 k0 cL0 aN0 aS3 cS3 aD3 cD3 aU3 cU3 aS0 cS0 aD0 cD0 aU0 cU0 (hn_fit ow) ((wk_view p3 r3 e3).up bA) Ic)
  have HXa2 := hideIt ((HXa.out.up b3).up bA)
  have HKc := hideIt ((HKa.out.up b3).up bA)
  have HBc := hideIt Bcb
  have HXc := hideIt XWc
  have HYc := hideIt Yc
  clear HIa p3 r3 e3 b3 bA Bcb XWc Yc Ic HXa HKa HBa ow
  go_upto_region 14 with fail
  rw [← hBc]
  clear hBc
  refine wp_region_lit ?_
  go_step
  refine wp_load_mid 52 (.tmp 11) ?_ Bc 0 ?_ [.int .i64 M, .int .i64 N, .slice aO3 v3 cO3, .slice none 0 0, .slice aL3 k3 cL3, .slice aN3 k3 k3, .int .i64 0, .int .i64 0, .int .i64 0, .int .i64 0, .int .i64 0, .int .i64 0, .int .i64 0, .slice none 0 0, .int .i64 0, .slice none 0 0, .slice aS3 S cS3, .slice aD3 D cD3, .slice aU3 D cU3, .slice none 0 0, .slice none 0 0, .slice none 0 0] _ ?_ Try.underlying52 rfl (by kernel_rfl) ?_
  · rfl
  · rfl
  · exact HXc.out.range
  go_step
  go_step
  refine wp_load_mid 52 (.tmp 5) ?_ B5 0 ?_ [.int .i64 M, .int .i64 N, .slice aO0 v0 cO0, .slice none 0 0, .slice aL0 k0 cL0, .slice aN0 k0 k0, .int .i64 0, .int .i64 0, .int .i64 0, .int .i64 0, .int .i64 0, .int .i64 0, .int .i64 0, .slice none 0 0, .int .i64 0, .slice none 0 0, .slice aS0 S cS0, .slice aD0 D cD0, .slice aU0 D cU0, .slice none 0 0, .slice none 0 0, .slice none 0 0] _ ?_ Try.underlying52 rfl (by kernel_rfl) ?_
  · rfl
  · rfl
  · exact HYc.out.range
  go_wp2_with (go_at_call 15; refine HQc.out.mono ?_; rintro e wd ⟨rfl, bd⟩; refine Hid.out ?_)
  refine hidw ?_
  have HXd := hideIt (HXa2.out.up bd)
  have HBd := hideIt (bupN HBc.out bd)
  have HH := hideIt (HQ.out wd (HKc.out.up bd))
  clear HQc HXc HYc HXa2 HKc HBc bd
  go_upto_region 17 with fail
  refine wp_region_lit ?_
  go_step
  refine wp_load_mid 52 (.tmp 7) ?_ B7 0 ?_ [.int .i64 M, .int .i64 N, .slice aO v cO, .slice none 0 0, .slice aL k cL, .slice aN k k, .int .i64 0, .int .i64 0, .int .i64 0, .int .i64 0, .int .i64 0, .int .i64 0, .int .i64 0, .slice none 0 0, .int .i64 0, .slice none 0 0, .slice aS S cS, .slice aD D cD, .slice aU D cU, .slice none 0 0, .slice none 0 0, .slice none 0 0] _ ?_ Try.underlying52 rfl (by kernel_rfl) ?_
  · rfl
  · rfl
  · exact HXd.out.range
  go_wp2_with (go_at_call 17; refine HH.out.mono ?_; rintro e we ⟨rfl, be⟩; refine Hid.out ?_)
  refine hidw ?_
  have BF := hideIt (bupN HB5.out (bupN HBd.out be))
  clear HH HBd be HXd
  go_wp2
  go_ret
  exact ⟨rfl, BF.out⟩
end Go.Proofs.Ytiidomopnmjhbaa
