/- The program's and the specification's EventOk: one answer. An event laid anew, held against itself; the walk of FnExactEventOk. A forest that comes in. An event that comes in. -/
import Derived.Test.YtadbppackdfdjaaKEv15
import Derived.Test.YtadbppackdfdjaaKSd13
import Derived.WalkKit
import Derived.ProofKit
import Derived.OpenShut
import Derived.ChangeOld
import Derived.ChangeArms
import Derived.Below
import Derived.ChangeSlices
namespace Go.Proofs.Ytadbppackdfdjaa
open Go.RowKit

theorem evB_f {sh k nd t i o a b : Int} {n : Nat} (h : ¬ (1 ≤ sh ∧ sh ≤ 3 ∧ 1 ≤ k ∧ k ≤ 7 ∧ 0 ≤ nd ∧ nd ≤ sh ∧ 0 ≤ t ∧ n ≤ 30)) : evB sh k nd t i o a b n = false := by unfold evB; rw [decide_eq_false h]; rfl
theorem evB_t {sh k nd t i o a b : Int} {n : Nat} (h : 1 ≤ sh ∧ sh ≤ 3 ∧ 1 ≤ k ∧ k ≤ 7 ∧ 0 ≤ nd ∧ nd ≤ sh ∧ 0 ≤ t ∧ n ≤ 30) : evB sh k nd t i o a b n = (k != 1 || akB i o a b) := by unfold evB; rw [decide_eq_true h]; rfl
theorem evSh_q (x : Int) (q : Bool) (h : decide (1 ≤ x ∧ x ≤ 3) = q) (w : World) : Calls Try.prog 27 #[.int .i64 x] w fun e w' => e = .returned (.bool q) ∧ w' = w := by have := evShOk x w; rwa [h] at this

set_option maxRecDepth 100000 in
set_option maxHeartbeats 4000000 in
theorem iEventOk_any (sh k nd t i o a b : Int) (cut : Bool) (ad : Option Addr) (n c : Nat) (w : World) : Calls Try.prog 17 #[.int .i64 sh, .agg #[.int .i64 k, .int .i64 nd, .int .i64 t, .int .i64 i, .int .i64 o, .int .i64 a, .int .i64 b, .bool cut, .slice ad n c]] w fun e w' => e = .returned (.bool (evB sh k nd t i o a b n)) ∧ Below w.heap.size w w' := by
  obtain ⟨W1, hW1⟩ : ∃ W1, W1 = w.alloc (.cells #[.int .i64 k, .int .i64 nd, .int .i64 t, .int .i64 i, .int .i64 o, .int .i64 a, .int .i64 b, .bool cut, .slice ad n c] 51) := ⟨_, rfl⟩
  have bW := belA w (.cells #[.int .i64 k, .int .i64 nd, .int .i64 t, .int .i64 i, .int .i64 o, .int .i64 a, .int .i64 b, .bool cut, .slice ad n c] 51)
  have X := BxA.new w 51 #[.int .i64 k, .int .i64 nd, .int .i64 t, .int .i64 i, .int .i64 o, .int .i64 a, .int .i64 b, .bool cut, .slice ad n c]
  rw [← hW1] at bW X
  have HB := hideIt bW
  have x0 := X.cell 0 rfl
  have x1 := X.cell 1 rfl
  have x2 := X.cell 2 rfl
  have x3 := X.cell 3 rfl
  have x4 := X.cell 4 rfl
  have x5 := X.cell 5 rfl
  have x6 := X.cell 6 rfl
  have x8 := X.cell 8 rfl
  have xl := X.lt
  clear X bW
  by_cases c0 : 1 ≤ sh ∧ sh ≤ 3
  · by_cases c1 : 1 ≤ k
    · by_cases c2 : k ≤ 7
      · by_cases c3 : 0 ≤ nd
        · by_cases c4 : nd ≤ sh
          · by_cases c5 : 0 ≤ t
            · by_cases c6 : (n : Int) ≤ 30
              · by_cases c7 : k ≠ 1
                · have HR := hideIt (evB_t (i := i) (o := o) (a := a) (b := b) (show 1 ≤ sh ∧ sh ≤ 3 ∧ 1 ≤ k ∧ k ≤ 7 ∧ 0 ≤ nd ∧ nd ≤ sh ∧ 0 ≤ t ∧ n ≤ 30 by omega))
                  have H0 := hideIt (fun u => evSh_q sh true (by simp; omega) u)
                  have d1 : decide (1 ≤ k) = true := by simpa using c1
                  have d2 : decide (k ≤ 7) = true := by simpa using c2
                  have d3 : decide (0 ≤ nd) = true := by simpa using c3
                  have d4 : decide (nd ≤ sh) = true := by simpa using c4
                  have d5 : decide (0 ≤ t) = true := by simpa using c5
                  have d6 : decide ((n : Int) ≤ 30) = true := by simpa using c6
                  have d7 : (k != 1) = true := by simpa using c7
                  have HQ := hideIt d7
                  clear c0 c1 c2 c3 c4 c5 c6 c7
                  go_enter Try.func17, Try.ntmps17
                  go_upto_region 1 with fail
                  rw [← hW1]
                  clear hW1
                  go_wp2_with (go_at_call 27; refine (H0.out _).mono ?_; rintro e w1 ⟨rfl, rfl⟩)
                  go_ret
                  exact ⟨by rw [HR.out, HQ.out]; rfl, HB.out⟩
                · have HR := hideIt (evB_t (i := i) (o := o) (a := a) (b := b) (show 1 ≤ sh ∧ sh ≤ 3 ∧ 1 ≤ k ∧ k ≤ 7 ∧ 0 ≤ nd ∧ nd ≤ sh ∧ 0 ≤ t ∧ n ≤ 30 by omega))
                  have H0 := hideIt (fun u => evSh_q sh true (by simp; omega) u)
                  have d1 : decide (1 ≤ k) = true := by simpa using c1
                  have d2 : decide (k ≤ 7) = true := by simpa using c2
                  have d3 : decide (0 ≤ nd) = true := by simpa using c3
                  have d4 : decide (nd ≤ sh) = true := by simpa using c4
                  have d5 : decide (0 ≤ t) = true := by simpa using c5
                  have d6 : decide ((n : Int) ≤ 30) = true := by simpa using c6
                  have d7 : (k != 1) = false := by simpa using c7
                  have HF := hideIt (fun u => fitsRec_any i o a b u)
                  have HQ := hideIt d7
                  clear c0 c1 c2 c3 c4 c5 c6 c7
                  go_enter Try.func17, Try.ntmps17
                  go_upto_region 1 with fail
                  rw [← hW1]
                  clear hW1
                  go_wp2_with (go_at_call 27; refine (H0.out _).mono ?_; rintro e w1 ⟨rfl, rfl⟩; refine Hid.out ?_)
                  refine (show ∀ {p : Prop}, p → Hid p from fun h => h) ?_
                  go_wp2_with (go_at_call 44; refine (HF.out _).mono ?_; rintro e w2 ⟨rfl, b2⟩)
                  go_ret
                  exact ⟨by rw [HR.out, HQ.out]; rfl, HB.out.trans (b2.mono HB.out.size)⟩
              · have HR := hideIt (evB_f (i := i) (o := o) (a := a) (b := b) (show ¬ (1 ≤ sh ∧ sh ≤ 3 ∧ 1 ≤ k ∧ k ≤ 7 ∧ 0 ≤ nd ∧ nd ≤ sh ∧ 0 ≤ t ∧ n ≤ 30) by omega))
                have H0 := hideIt (fun u => evSh_q sh true (by simp; omega) u)
                have d1 : decide (1 ≤ k) = true := by simpa using c1
                have d2 : decide (k ≤ 7) = true := by simpa using c2
                have d3 : decide (0 ≤ nd) = true := by simpa using c3
                have d4 : decide (nd ≤ sh) = true := by simpa using c4
                have d5 : decide (0 ≤ t) = true := by simpa using c5
                have d6 : decide ((n : Int) ≤ 30) = false := by simpa using c6
                clear c0 c1 c2 c3 c4 c5 c6
                go_enter Try.func17, Try.ntmps17
                go_upto_region 1 with fail
                rw [← hW1]
                clear hW1
                go_wp2_with (go_at_call 27; refine (H0.out _).mono ?_; rintro e w1 ⟨rfl, rfl⟩)
                go_ret
                exact ⟨by rw [HR.out]; rfl, HB.out⟩
            · have HR := hideIt (evB_f (i := i) (o := o) (a := a) (b := b) (show ¬ (1 ≤ sh ∧ sh ≤ 3 ∧ 1 ≤ k ∧ k ≤ 7 ∧ 0 ≤ nd ∧ nd ≤ sh ∧ 0 ≤ t ∧ n ≤ 30) by omega))
              have H0 := hideIt (fun u => evSh_q sh true (by simp; omega) u)
              have d1 : decide (1 ≤ k) = true := by simpa using c1
              have d2 : decide (k ≤ 7) = true := by simpa using c2
              have d3 : decide (0 ≤ nd) = true := by simpa using c3
              have d4 : decide (nd ≤ sh) = true := by simpa using c4
              have d5 : decide (0 ≤ t) = false := by simpa using c5
              clear c0 c1 c2 c3 c4 c5
              go_enter Try.func17, Try.ntmps17
              go_upto_region 1 with fail
              rw [← hW1]
              clear hW1
              go_wp2_with (go_at_call 27; refine (H0.out _).mono ?_; rintro e w1 ⟨rfl, rfl⟩)
              go_ret
              exact ⟨by rw [HR.out]; rfl, HB.out⟩
          · have HR := hideIt (evB_f (i := i) (o := o) (a := a) (b := b) (show ¬ (1 ≤ sh ∧ sh ≤ 3 ∧ 1 ≤ k ∧ k ≤ 7 ∧ 0 ≤ nd ∧ nd ≤ sh ∧ 0 ≤ t ∧ n ≤ 30) by omega))
            have H0 := hideIt (fun u => evSh_q sh true (by simp; omega) u)
            have d1 : decide (1 ≤ k) = true := by simpa using c1
            have d2 : decide (k ≤ 7) = true := by simpa using c2
            have d3 : decide (0 ≤ nd) = true := by simpa using c3
            have d4 : decide (nd ≤ sh) = false := by simpa using c4
            clear c0 c1 c2 c3 c4
            go_enter Try.func17, Try.ntmps17
            go_upto_region 1 with fail
            rw [← hW1]
            clear hW1
            go_wp2_with (go_at_call 27; refine (H0.out _).mono ?_; rintro e w1 ⟨rfl, rfl⟩)
            go_ret
            exact ⟨by rw [HR.out]; rfl, HB.out⟩
        · have HR := hideIt (evB_f (i := i) (o := o) (a := a) (b := b) (show ¬ (1 ≤ sh ∧ sh ≤ 3 ∧ 1 ≤ k ∧ k ≤ 7 ∧ 0 ≤ nd ∧ nd ≤ sh ∧ 0 ≤ t ∧ n ≤ 30) by omega))
          have H0 := hideIt (fun u => evSh_q sh true (by simp; omega) u)
          have d1 : decide (1 ≤ k) = true := by simpa using c1
          have d2 : decide (k ≤ 7) = true := by simpa using c2
          have d3 : decide (0 ≤ nd) = false := by simpa using c3
          clear c0 c1 c2 c3
          go_enter Try.func17, Try.ntmps17
          go_upto_region 1 with fail
          rw [← hW1]
          clear hW1
          go_wp2_with (go_at_call 27; refine (H0.out _).mono ?_; rintro e w1 ⟨rfl, rfl⟩)
          go_ret
          exact ⟨by rw [HR.out]; rfl, HB.out⟩
      · have HR := hideIt (evB_f (i := i) (o := o) (a := a) (b := b) (show ¬ (1 ≤ sh ∧ sh ≤ 3 ∧ 1 ≤ k ∧ k ≤ 7 ∧ 0 ≤ nd ∧ nd ≤ sh ∧ 0 ≤ t ∧ n ≤ 30) by omega))
        have H0 := hideIt (fun u => evSh_q sh true (by simp; omega) u)
        have d1 : decide (1 ≤ k) = true := by simpa using c1
        have d2 : decide (k ≤ 7) = false := by simpa using c2
        clear c0 c1 c2
        go_enter Try.func17, Try.ntmps17
        go_upto_region 1 with fail
        rw [← hW1]
        clear hW1
        go_wp2_with (go_at_call 27; refine (H0.out _).mono ?_; rintro e w1 ⟨rfl, rfl⟩)
        go_ret
        exact ⟨by rw [HR.out]; rfl, HB.out⟩
    · have HR := hideIt (evB_f (i := i) (o := o) (a := a) (b := b) (show ¬ (1 ≤ sh ∧ sh ≤ 3 ∧ 1 ≤ k ∧ k ≤ 7 ∧ 0 ≤ nd ∧ nd ≤ sh ∧ 0 ≤ t ∧ n ≤ 30) by omega))
      have H0 := hideIt (fun u => evSh_q sh true (by simp; omega) u)
      have d1 : decide (1 ≤ k) = false := by simpa using c1
      clear c0 c1
      go_enter Try.func17, Try.ntmps17
      go_upto_region 1 with fail
      rw [← hW1]
      clear hW1
      go_wp2_with (go_at_call 27; refine (H0.out _).mono ?_; rintro e w1 ⟨rfl, rfl⟩)
      go_ret
      exact ⟨by rw [HR.out]; rfl, HB.out⟩
  · have HR := hideIt (evB_f (i := i) (o := o) (a := a) (b := b) (show ¬ (1 ≤ sh ∧ sh ≤ 3 ∧ 1 ≤ k ∧ k ≤ 7 ∧ 0 ≤ nd ∧ nd ≤ sh ∧ 0 ≤ t ∧ n ≤ 30) by omega))
    have H0 := hideIt (fun u => evSh_q sh false (by simp; omega) u)
    clear c0
    go_enter Try.func17, Try.ntmps17
    go_upto_region 1 with fail
    rw [← hW1]
    clear hW1
    go_wp2_with (go_at_call 27; refine (H0.out _).mono ?_; rintro e w1 ⟨rfl, rfl⟩)
    go_ret
    exact ⟨by rw [HR.out]; rfl, HB.out⟩
set_option maxRecDepth 100000 in
set_option maxHeartbeats 4000000 in
theorem sEventOk_any (sh k nd t i o a b : Int) (cut : Bool) (ad : Option Addr) (n c : Nat) (w : World) : Calls Try.prog 15 #[.int .i64 sh, .agg #[.int .i64 k, .int .i64 nd, .int .i64 t, .int .i64 i, .int .i64 o, .int .i64 a, .int .i64 b, .bool cut, .slice ad n c]] w fun e w' => e = .returned (.bool (evB sh k nd t i o a b n)) ∧ Below w.heap.size w w' := by
  obtain ⟨W1, hW1⟩ : ∃ W1, W1 = w.alloc (.cells #[.int .i64 k, .int .i64 nd, .int .i64 t, .int .i64 i, .int .i64 o, .int .i64 a, .int .i64 b, .bool cut, .slice ad n c] 51) := ⟨_, rfl⟩
  have bW := belA w (.cells #[.int .i64 k, .int .i64 nd, .int .i64 t, .int .i64 i, .int .i64 o, .int .i64 a, .int .i64 b, .bool cut, .slice ad n c] 51)
  have X := BxA.new w 51 #[.int .i64 k, .int .i64 nd, .int .i64 t, .int .i64 i, .int .i64 o, .int .i64 a, .int .i64 b, .bool cut, .slice ad n c]
  rw [← hW1] at bW X
  have HB := hideIt bW
  have x0 := X.cell 0 rfl
  have x1 := X.cell 1 rfl
  have x2 := X.cell 2 rfl
  have x3 := X.cell 3 rfl
  have x4 := X.cell 4 rfl
  have x5 := X.cell 5 rfl
  have x6 := X.cell 6 rfl
  have x8 := X.cell 8 rfl
  have xl := X.lt
  clear X bW
  by_cases c0 : 1 ≤ sh ∧ sh ≤ 3
  · by_cases c1 : 1 ≤ k ∧ k ≤ 7
    · by_cases c2 : 0 ≤ nd ∧ nd ≤ sh
      · by_cases c3 : 0 ≤ t
        · by_cases c4 : (n : Int) ≤ 30
          · by_cases c7 : k ≠ 1
            · have HR := hideIt (evB_t (i := i) (o := o) (a := a) (b := b) (show 1 ≤ sh ∧ sh ≤ 3 ∧ 1 ≤ k ∧ k ≤ 7 ∧ 0 ≤ nd ∧ nd ≤ sh ∧ 0 ≤ t ∧ n ≤ 30 by omega))
              have H0 := hideIt (fun u => evIn (x := sh) (l := 1) (r := 3) true (by simp; omega) u)
              have H1 := hideIt (fun u => evIn (x := k) (l := 1) (r := 7) true (by simp; omega) u)
              have H2 := hideIt (fun u => evIn (x := nd) (l := 0) (r := sh) true (by simp; omega) u)
              have d3 : decide (t < 0) = false := by simp; omega
              have d4 : decide (30 < (n : Int)) = false := by simp; omega
              have d7 : (k != 1) = true := by simpa using c7
              have HQ := hideIt d7
              clear c0 c1 c2 c3 c4 c7
              go_enter Try.func15, Try.ntmps15
              go_upto_region 1 with fail
              rw [← hW1]
              clear hW1
              go_wp2_with (go_at_call 29; refine (H0.out _).mono ?_; rintro e w1 ⟨rfl, rfl⟩; refine Hid.out ?_)
              refine (show ∀ {p : Prop}, p → Hid p from fun h => h) ?_
              go_wp2_with (go_at_call 29; refine (H1.out _).mono ?_; rintro e w1 ⟨rfl, rfl⟩; refine Hid.out ?_)
              refine (show ∀ {p : Prop}, p → Hid p from fun h => h) ?_
              go_wp2_with (go_at_call 29; refine (H2.out _).mono ?_; rintro e w1 ⟨rfl, rfl⟩)
              go_ret
              exact ⟨by rw [HR.out, HQ.out]; rfl, by first | exact HB.out.trans ((belA _ _).mono HB.out.size) | exact HB.out.alloc HB.out.size _⟩
            · by_cases e0 : N1 i
              · by_cases e1 : N0 o
                · by_cases e2 : N0 a
                  · by_cases e3 : N0 b
                    · have HR := hideIt (evB_t (i := i) (o := o) (a := a) (b := b) (show 1 ≤ sh ∧ sh ≤ 3 ∧ 1 ≤ k ∧ k ≤ 7 ∧ 0 ≤ nd ∧ nd ≤ sh ∧ 0 ≤ t ∧ n ≤ 30 by omega))
                      have H0 := hideIt (fun u => evIn (x := sh) (l := 1) (r := 3) true (by simp; omega) u)
                      have H1 := hideIt (fun u => evIn (x := k) (l := 1) (r := 7) true (by simp; omega) u)
                      have H2 := hideIt (fun u => evIn (x := nd) (l := 0) (r := sh) true (by simp; omega) u)
                      have d3 : decide (t < 0) = false := by simp; omega
                      have d4 : decide (30 < (n : Int)) = false := by simp; omega
                      have d7 : (k != 1) = false := by simpa using c7
                      have HQ := hideIt d7
                      have G0 := hideIt (fun u => evIn (x := i) (l := 1) (r := 100000) true (decide_eq_true e0) u)
                      have G1 := hideIt (fun u => evIn (x := o) (l := 0) (r := 100000) true (decide_eq_true e1) u)
                      have G2 := hideIt (fun u => evIn (x := a) (l := 0) (r := 100000) true (decide_eq_true e2) u)
                      have G3 := hideIt (fun u => evIn (x := b) (l := 0) (r := 100000) true (decide_eq_true e3) u)
                      have HA : Hid (akB i o a b = true) := by show _ = _; simp [akB, *]
                      clear c0 c1 c2 c3 c4 c7 e0 e1 e2 e3
                      go_enter Try.func15, Try.ntmps15
                      go_upto_region 1 with fail
                      rw [← hW1]
                      clear hW1
                      go_wp2_with (go_at_call 29; refine (H0.out _).mono ?_; rintro e w1 ⟨rfl, rfl⟩; refine Hid.out ?_)
                      refine (show ∀ {p : Prop}, p → Hid p from fun h => h) ?_
                      go_wp2_with (go_at_call 29; refine (H1.out _).mono ?_; rintro e w1 ⟨rfl, rfl⟩; refine Hid.out ?_)
                      refine (show ∀ {p : Prop}, p → Hid p from fun h => h) ?_
                      go_wp2_with (go_at_call 29; refine (H2.out _).mono ?_; rintro e w1 ⟨rfl, rfl⟩; refine Hid.out ?_)
                      refine (show ∀ {p : Prop}, p → Hid p from fun h => h) ?_
                      go_wp2_with (go_at_call 29; refine (G0.out _).mono ?_; rintro e w1 ⟨rfl, rfl⟩; refine Hid.out ?_)
                      refine (show ∀ {p : Prop}, p → Hid p from fun h => h) ?_
                      go_wp2_with (go_at_call 29; refine (G1.out _).mono ?_; rintro e w1 ⟨rfl, rfl⟩; refine Hid.out ?_)
                      refine (show ∀ {p : Prop}, p → Hid p from fun h => h) ?_
                      go_wp2_with (go_at_call 29; refine (G2.out _).mono ?_; rintro e w1 ⟨rfl, rfl⟩; refine Hid.out ?_)
                      refine (show ∀ {p : Prop}, p → Hid p from fun h => h) ?_
                      go_wp2_with (go_at_call 29; refine (G3.out _).mono ?_; rintro e w1 ⟨rfl, rfl⟩)
                      go_ret
                      exact ⟨by rw [HR.out, HQ.out, HA.out]; rfl, by first | exact HB.out.trans ((belA _ _).mono HB.out.size) | exact HB.out.alloc HB.out.size _⟩
                    · have HR := hideIt (evB_t (i := i) (o := o) (a := a) (b := b) (show 1 ≤ sh ∧ sh ≤ 3 ∧ 1 ≤ k ∧ k ≤ 7 ∧ 0 ≤ nd ∧ nd ≤ sh ∧ 0 ≤ t ∧ n ≤ 30 by omega))
                      have H0 := hideIt (fun u => evIn (x := sh) (l := 1) (r := 3) true (by simp; omega) u)
                      have H1 := hideIt (fun u => evIn (x := k) (l := 1) (r := 7) true (by simp; omega) u)
                      have H2 := hideIt (fun u => evIn (x := nd) (l := 0) (r := sh) true (by simp; omega) u)
                      have d3 : decide (t < 0) = false := by simp; omega
                      have d4 : decide (30 < (n : Int)) = false := by simp; omega
                      have d7 : (k != 1) = false := by simpa using c7
                      have HQ := hideIt d7
                      have G0 := hideIt (fun u => evIn (x := i) (l := 1) (r := 100000) true (decide_eq_true e0) u)
                      have G1 := hideIt (fun u => evIn (x := o) (l := 0) (r := 100000) true (decide_eq_true e1) u)
                      have G2 := hideIt (fun u => evIn (x := a) (l := 0) (r := 100000) true (decide_eq_true e2) u)
                      have G3 := hideIt (fun u => evIn (x := b) (l := 0) (r := 100000) false (decide_eq_false e3) u)
                      have HA : Hid (akB i o a b = false) := by show _ = _; simp [akB, *]
                      clear c0 c1 c2 c3 c4 c7 e0 e1 e2 e3
                      go_enter Try.func15, Try.ntmps15
                      go_upto_region 1 with fail
                      rw [← hW1]
                      clear hW1
                      go_wp2_with (go_at_call 29; refine (H0.out _).mono ?_; rintro e w1 ⟨rfl, rfl⟩; refine Hid.out ?_)
                      refine (show ∀ {p : Prop}, p → Hid p from fun h => h) ?_
                      go_wp2_with (go_at_call 29; refine (H1.out _).mono ?_; rintro e w1 ⟨rfl, rfl⟩; refine Hid.out ?_)
                      refine (show ∀ {p : Prop}, p → Hid p from fun h => h) ?_
                      go_wp2_with (go_at_call 29; refine (H2.out _).mono ?_; rintro e w1 ⟨rfl, rfl⟩; refine Hid.out ?_)
                      refine (show ∀ {p : Prop}, p → Hid p from fun h => h) ?_
                      go_wp2_with (go_at_call 29; refine (G0.out _).mono ?_; rintro e w1 ⟨rfl, rfl⟩; refine Hid.out ?_)
                      refine (show ∀ {p : Prop}, p → Hid p from fun h => h) ?_
                      go_wp2_with (go_at_call 29; refine (G1.out _).mono ?_; rintro e w1 ⟨rfl, rfl⟩; refine Hid.out ?_)
                      refine (show ∀ {p : Prop}, p → Hid p from fun h => h) ?_
                      go_wp2_with (go_at_call 29; refine (G2.out _).mono ?_; rintro e w1 ⟨rfl, rfl⟩; refine Hid.out ?_)
                      refine (show ∀ {p : Prop}, p → Hid p from fun h => h) ?_
                      go_wp2_with (go_at_call 29; refine (G3.out _).mono ?_; rintro e w1 ⟨rfl, rfl⟩)
                      go_ret
                      exact ⟨by rw [HR.out, HQ.out, HA.out]; rfl, by first | exact HB.out.trans ((belA _ _).mono HB.out.size) | exact HB.out.alloc HB.out.size _⟩
                  · have HR := hideIt (evB_t (i := i) (o := o) (a := a) (b := b) (show 1 ≤ sh ∧ sh ≤ 3 ∧ 1 ≤ k ∧ k ≤ 7 ∧ 0 ≤ nd ∧ nd ≤ sh ∧ 0 ≤ t ∧ n ≤ 30 by omega))
                    have H0 := hideIt (fun u => evIn (x := sh) (l := 1) (r := 3) true (by simp; omega) u)
                    have H1 := hideIt (fun u => evIn (x := k) (l := 1) (r := 7) true (by simp; omega) u)
                    have H2 := hideIt (fun u => evIn (x := nd) (l := 0) (r := sh) true (by simp; omega) u)
                    have d3 : decide (t < 0) = false := by simp; omega
                    have d4 : decide (30 < (n : Int)) = false := by simp; omega
                    have d7 : (k != 1) = false := by simpa using c7
                    have HQ := hideIt d7
                    have G0 := hideIt (fun u => evIn (x := i) (l := 1) (r := 100000) true (decide_eq_true e0) u)
                    have G1 := hideIt (fun u => evIn (x := o) (l := 0) (r := 100000) true (decide_eq_true e1) u)
                    have G2 := hideIt (fun u => evIn (x := a) (l := 0) (r := 100000) false (decide_eq_false e2) u)
                    have HA : Hid (akB i o a b = false) := by show _ = _; simp [akB, *]
                    clear c0 c1 c2 c3 c4 c7 e0 e1 e2
                    go_enter Try.func15, Try.ntmps15
                    go_upto_region 1 with fail
                    rw [← hW1]
                    clear hW1
                    go_wp2_with (go_at_call 29; refine (H0.out _).mono ?_; rintro e w1 ⟨rfl, rfl⟩; refine Hid.out ?_)
                    refine (show ∀ {p : Prop}, p → Hid p from fun h => h) ?_
                    go_wp2_with (go_at_call 29; refine (H1.out _).mono ?_; rintro e w1 ⟨rfl, rfl⟩; refine Hid.out ?_)
                    refine (show ∀ {p : Prop}, p → Hid p from fun h => h) ?_
                    go_wp2_with (go_at_call 29; refine (H2.out _).mono ?_; rintro e w1 ⟨rfl, rfl⟩; refine Hid.out ?_)
                    refine (show ∀ {p : Prop}, p → Hid p from fun h => h) ?_
                    go_wp2_with (go_at_call 29; refine (G0.out _).mono ?_; rintro e w1 ⟨rfl, rfl⟩; refine Hid.out ?_)
                    refine (show ∀ {p : Prop}, p → Hid p from fun h => h) ?_
                    go_wp2_with (go_at_call 29; refine (G1.out _).mono ?_; rintro e w1 ⟨rfl, rfl⟩; refine Hid.out ?_)
                    refine (show ∀ {p : Prop}, p → Hid p from fun h => h) ?_
                    go_wp2_with (go_at_call 29; refine (G2.out _).mono ?_; rintro e w1 ⟨rfl, rfl⟩)
                    go_ret
                    exact ⟨by rw [HR.out, HQ.out, HA.out]; rfl, by first | exact HB.out.trans ((belA _ _).mono HB.out.size) | exact HB.out.alloc HB.out.size _⟩
                · have HR := hideIt (evB_t (i := i) (o := o) (a := a) (b := b) (show 1 ≤ sh ∧ sh ≤ 3 ∧ 1 ≤ k ∧ k ≤ 7 ∧ 0 ≤ nd ∧ nd ≤ sh ∧ 0 ≤ t ∧ n ≤ 30 by omega))
                  have H0 := hideIt (fun u => evIn (x := sh) (l := 1) (r := 3) true (by simp; omega) u)
                  have H1 := hideIt (fun u => evIn (x := k) (l := 1) (r := 7) true (by simp; omega) u)
                  have H2 := hideIt (fun u => evIn (x := nd) (l := 0) (r := sh) true (by simp; omega) u)
                  have d3 : decide (t < 0) = false := by simp; omega
                  have d4 : decide (30 < (n : Int)) = false := by simp; omega
                  have d7 : (k != 1) = false := by simpa using c7
                  have HQ := hideIt d7
                  have G0 := hideIt (fun u => evIn (x := i) (l := 1) (r := 100000) true (decide_eq_true e0) u)
                  have G1 := hideIt (fun u => evIn (x := o) (l := 0) (r := 100000) false (decide_eq_false e1) u)
                  have HA : Hid (akB i o a b = false) := by show _ = _; simp [akB, *]
                  clear c0 c1 c2 c3 c4 c7 e0 e1
                  go_enter Try.func15, Try.ntmps15
                  go_upto_region 1 with fail
                  rw [← hW1]
                  clear hW1
                  go_wp2_with (go_at_call 29; refine (H0.out _).mono ?_; rintro e w1 ⟨rfl, rfl⟩; refine Hid.out ?_)
                  refine (show ∀ {p : Prop}, p → Hid p from fun h => h) ?_
                  go_wp2_with (go_at_call 29; refine (H1.out _).mono ?_; rintro e w1 ⟨rfl, rfl⟩; refine Hid.out ?_)
                  refine (show ∀ {p : Prop}, p → Hid p from fun h => h) ?_
                  go_wp2_with (go_at_call 29; refine (H2.out _).mono ?_; rintro e w1 ⟨rfl, rfl⟩; refine Hid.out ?_)
                  refine (show ∀ {p : Prop}, p → Hid p from fun h => h) ?_
                  go_wp2_with (go_at_call 29; refine (G0.out _).mono ?_; rintro e w1 ⟨rfl, rfl⟩; refine Hid.out ?_)
                  refine (show ∀ {p : Prop}, p → Hid p from fun h => h) ?_
                  go_wp2_with (go_at_call 29; refine (G1.out _).mono ?_; rintro e w1 ⟨rfl, rfl⟩)
                  go_ret
                  exact ⟨by rw [HR.out, HQ.out, HA.out]; rfl, by first | exact HB.out.trans ((belA _ _).mono HB.out.size) | exact HB.out.alloc HB.out.size _⟩
              · have HR := hideIt (evB_t (i := i) (o := o) (a := a) (b := b) (show 1 ≤ sh ∧ sh ≤ 3 ∧ 1 ≤ k ∧ k ≤ 7 ∧ 0 ≤ nd ∧ nd ≤ sh ∧ 0 ≤ t ∧ n ≤ 30 by omega))
                have H0 := hideIt (fun u => evIn (x := sh) (l := 1) (r := 3) true (by simp; omega) u)
                have H1 := hideIt (fun u => evIn (x := k) (l := 1) (r := 7) true (by simp; omega) u)
                have H2 := hideIt (fun u => evIn (x := nd) (l := 0) (r := sh) true (by simp; omega) u)
                have d3 : decide (t < 0) = false := by simp; omega
                have d4 : decide (30 < (n : Int)) = false := by simp; omega
                have d7 : (k != 1) = false := by simpa using c7
                have HQ := hideIt d7
                have G0 := hideIt (fun u => evIn (x := i) (l := 1) (r := 100000) false (decide_eq_false e0) u)
                have HA : Hid (akB i o a b = false) := by show _ = _; simp [akB, *]
                clear c0 c1 c2 c3 c4 c7 e0
                go_enter Try.func15, Try.ntmps15
                go_upto_region 1 with fail
                rw [← hW1]
                clear hW1
                go_wp2_with (go_at_call 29; refine (H0.out _).mono ?_; rintro e w1 ⟨rfl, rfl⟩; refine Hid.out ?_)
                refine (show ∀ {p : Prop}, p → Hid p from fun h => h) ?_
                go_wp2_with (go_at_call 29; refine (H1.out _).mono ?_; rintro e w1 ⟨rfl, rfl⟩; refine Hid.out ?_)
                refine (show ∀ {p : Prop}, p → Hid p from fun h => h) ?_
                go_wp2_with (go_at_call 29; refine (H2.out _).mono ?_; rintro e w1 ⟨rfl, rfl⟩; refine Hid.out ?_)
                refine (show ∀ {p : Prop}, p → Hid p from fun h => h) ?_
                go_wp2_with (go_at_call 29; refine (G0.out _).mono ?_; rintro e w1 ⟨rfl, rfl⟩)
                go_ret
                exact ⟨by rw [HR.out, HQ.out, HA.out]; rfl, by first | exact HB.out.trans ((belA _ _).mono HB.out.size) | exact HB.out.alloc HB.out.size _⟩
          · have HR := hideIt (evB_f (i := i) (o := o) (a := a) (b := b) (show ¬ (1 ≤ sh ∧ sh ≤ 3 ∧ 1 ≤ k ∧ k ≤ 7 ∧ 0 ≤ nd ∧ nd ≤ sh ∧ 0 ≤ t ∧ n ≤ 30) by omega))
            have H0 := hideIt (fun u => evIn (x := sh) (l := 1) (r := 3) true (by simp; omega) u)
            have H1 := hideIt (fun u => evIn (x := k) (l := 1) (r := 7) true (by simp; omega) u)
            have H2 := hideIt (fun u => evIn (x := nd) (l := 0) (r := sh) true (by simp; omega) u)
            have d3 : decide (t < 0) = false := by simp; omega
            have d4 : decide (30 < (n : Int)) = true := by simp; omega
            clear c0 c1 c2 c3 c4
            go_enter Try.func15, Try.ntmps15
            go_upto_region 1 with fail
            rw [← hW1]
            clear hW1
            go_wp2_with (go_at_call 29; refine (H0.out _).mono ?_; rintro e w1 ⟨rfl, rfl⟩; refine Hid.out ?_)
            refine (show ∀ {p : Prop}, p → Hid p from fun h => h) ?_
            go_wp2_with (go_at_call 29; refine (H1.out _).mono ?_; rintro e w1 ⟨rfl, rfl⟩; refine Hid.out ?_)
            refine (show ∀ {p : Prop}, p → Hid p from fun h => h) ?_
            go_wp2_with (go_at_call 29; refine (H2.out _).mono ?_; rintro e w1 ⟨rfl, rfl⟩)
            go_ret
            exact ⟨by rw [HR.out]; rfl, HB.out⟩
        · have HR := hideIt (evB_f (i := i) (o := o) (a := a) (b := b) (show ¬ (1 ≤ sh ∧ sh ≤ 3 ∧ 1 ≤ k ∧ k ≤ 7 ∧ 0 ≤ nd ∧ nd ≤ sh ∧ 0 ≤ t ∧ n ≤ 30) by omega))
          have H0 := hideIt (fun u => evIn (x := sh) (l := 1) (r := 3) true (by simp; omega) u)
          have H1 := hideIt (fun u => evIn (x := k) (l := 1) (r := 7) true (by simp; omega) u)
          have H2 := hideIt (fun u => evIn (x := nd) (l := 0) (r := sh) true (by simp; omega) u)
          have d3 : decide (t < 0) = true := by simp; omega
          clear c0 c1 c2 c3
          go_enter Try.func15, Try.ntmps15
          go_upto_region 1 with fail
          rw [← hW1]
          clear hW1
          go_wp2_with (go_at_call 29; refine (H0.out _).mono ?_; rintro e w1 ⟨rfl, rfl⟩; refine Hid.out ?_)
          refine (show ∀ {p : Prop}, p → Hid p from fun h => h) ?_
          go_wp2_with (go_at_call 29; refine (H1.out _).mono ?_; rintro e w1 ⟨rfl, rfl⟩; refine Hid.out ?_)
          refine (show ∀ {p : Prop}, p → Hid p from fun h => h) ?_
          go_wp2_with (go_at_call 29; refine (H2.out _).mono ?_; rintro e w1 ⟨rfl, rfl⟩)
          go_ret
          exact ⟨by rw [HR.out]; rfl, HB.out⟩
      · have HR := hideIt (evB_f (i := i) (o := o) (a := a) (b := b) (show ¬ (1 ≤ sh ∧ sh ≤ 3 ∧ 1 ≤ k ∧ k ≤ 7 ∧ 0 ≤ nd ∧ nd ≤ sh ∧ 0 ≤ t ∧ n ≤ 30) by omega))
        have H0 := hideIt (fun u => evIn (x := sh) (l := 1) (r := 3) true (by simp; omega) u)
        have H1 := hideIt (fun u => evIn (x := k) (l := 1) (r := 7) true (by simp; omega) u)
        have H2 := hideIt (fun u => evIn (x := nd) (l := 0) (r := sh) false (by simp; omega) u)
        clear c0 c1 c2
        go_enter Try.func15, Try.ntmps15
        go_upto_region 1 with fail
        rw [← hW1]
        clear hW1
        go_wp2_with (go_at_call 29; refine (H0.out _).mono ?_; rintro e w1 ⟨rfl, rfl⟩; refine Hid.out ?_)
        refine (show ∀ {p : Prop}, p → Hid p from fun h => h) ?_
        go_wp2_with (go_at_call 29; refine (H1.out _).mono ?_; rintro e w1 ⟨rfl, rfl⟩; refine Hid.out ?_)
        refine (show ∀ {p : Prop}, p → Hid p from fun h => h) ?_
        go_wp2_with (go_at_call 29; refine (H2.out _).mono ?_; rintro e w1 ⟨rfl, rfl⟩)
        go_ret
        exact ⟨by rw [HR.out]; rfl, HB.out⟩
    · have HR := hideIt (evB_f (i := i) (o := o) (a := a) (b := b) (show ¬ (1 ≤ sh ∧ sh ≤ 3 ∧ 1 ≤ k ∧ k ≤ 7 ∧ 0 ≤ nd ∧ nd ≤ sh ∧ 0 ≤ t ∧ n ≤ 30) by omega))
      have H0 := hideIt (fun u => evIn (x := sh) (l := 1) (r := 3) true (by simp; omega) u)
      have H1 := hideIt (fun u => evIn (x := k) (l := 1) (r := 7) false (by simp; omega) u)
      clear c0 c1
      go_enter Try.func15, Try.ntmps15
      go_upto_region 1 with fail
      rw [← hW1]
      clear hW1
      go_wp2_with (go_at_call 29; refine (H0.out _).mono ?_; rintro e w1 ⟨rfl, rfl⟩; refine Hid.out ?_)
      refine (show ∀ {p : Prop}, p → Hid p from fun h => h) ?_
      go_wp2_with (go_at_call 29; refine (H1.out _).mono ?_; rintro e w1 ⟨rfl, rfl⟩)
      go_ret
      exact ⟨by rw [HR.out]; rfl, HB.out⟩
  · have HR := hideIt (evB_f (i := i) (o := o) (a := a) (b := b) (show ¬ (1 ≤ sh ∧ sh ≤ 3 ∧ 1 ≤ k ∧ k ≤ 7 ∧ 0 ≤ nd ∧ nd ≤ sh ∧ 0 ≤ t ∧ n ≤ 30) by omega))
    have H0 := hideIt (fun u => evIn (x := sh) (l := 1) (r := 3) false (by simp; omega) u)
    clear c0
    go_enter Try.func15, Try.ntmps15
    go_upto_region 1 with fail
    rw [← hW1]
    clear hW1
    go_wp2_with (go_at_call 29; refine (H0.out _).mono ?_; rintro e w1 ⟨rfl, rfl⟩)
    go_ret
    exact ⟨by rw [HR.out]; rfl, HB.out⟩
end Go.Proofs.Ytadbppackdfdjaa
namespace Go.Proofs.Ytadbppackdfdjaa
open Go.RowKit

theorem szEvent_or (k nd t i o a b : Int) (cut : Bool) (n : Nat) (ad : Option Addr) (c : Nat) (l : Int) (h0 : 0 ≤ l) (hl : l ≤ 1048576) (hn : n ≤ maxLen) (w : World) : Calls Try.prog 14 #[.agg #[.int .i64 k, .int .i64 nd, .int .i64 t, .int .i64 i, .int .i64 o, .int .i64 a, .int .i64 b, .bool cut, .slice ad n c], .int .i64 l] w fun e w' => ∃ x, e = .returned (.int .i64 x) ∧ ((decide (x < 0) = true ∧ x = -1) ∨ (decide (x < 0) = false ∧ n ≤ 1048576)) ∧ Below w.heap.size w w' := by
  have HS := hideIt (szIntS_or n ad c l h0 hl hn)
  go_enter Try.func14, Try.ntmps14
  go_wp2_with (go_at_call 41; refine (HS.out _).mono ?_; rintro e w1 ⟨x, rfl, hx, rfl⟩; refine Hid.out ?_)
  refine (show ∀ {p : Prop}, p → Hid p from fun h => h) ?_
  rcases hx with ⟨d, hx⟩ | ⟨d, hx⟩
  · go_wp2
    go_ret
    exact ⟨_, rfl, .inl ⟨by decide, rfl⟩, belA _ _⟩
  · have HX := hideIt (And.intro d hx.2.2)
    go_wp2
    go_ret
    exact ⟨_, rfl, .inr HX.out, belA _ _⟩
set_option maxRecDepth 100000 in
set_option maxHeartbeats 4000000 in
theorem toEvent_any (k nd t i o a b : Int) (cut : Bool) (ls : List Int) (n : Nat) (ad : Option Addr) (c : Nat) (hn : n ≤ 1048576) (w : World) (hls : Is w w.heap.size ad n ls) :
    Calls Try.prog 16 #[.agg #[.int .i64 k, .int .i64 nd, .int .i64 t, .int .i64 i, .int .i64 o, .int .i64 a, .int .i64 b, .bool cut, .slice ad n c]] w fun e w' => ∃ g, e = .returned (.agg #[.int .i64 k, .int .i64 nd, .int .i64 t, .int .i64 i, .int .i64 o, .int .i64 a, .int .i64 b, .bool cut, .slice (some ⟨g, 0, none⟩) n n]) ∧ w'.ownsRow w.heap.size 3 1 (.slice (some ⟨g, 0, none⟩) n n) n (ic ls) ∧ Below w.heap.size w w' := by
  obtain ⟨W2, hW2⟩ : ∃ W2, W2 = ((w.alloc (.cells #[.int .i64 k, .int .i64 nd, .int .i64 t, .int .i64 i, .int .i64 o, .int .i64 a, .int .i64 b, .bool cut, .slice ad n c] 47)).alloc (.cells #[.int .i64 0, .int .i64 0, .int .i64 0, .int .i64 0, .int .i64 0, .int .i64 0, .int .i64 0, .bool false, .slice none 0 0] 51)).alloc (.cells #[.int .i64 k, .int .i64 nd, .int .i64 t, .int .i64 0, .int .i64 0, .int .i64 0, .int .i64 0, .bool false, .slice none 0 0] 51) := ⟨_, rfl⟩
  have S2 := TH.start w 47 51 [.int .i64 k, .int .i64 nd, .int .i64 t, .int .i64 i, .int .i64 o, .int .i64 a, .int .i64 b, .bool cut, .slice ad n c] [.int .i64 0, .int .i64 0, .int .i64 0, .int .i64 0, .int .i64 0, .int .i64 0, .int .i64 0, .bool false, .slice none 0 0] [.int .i64 k, .int .i64 nd, .int .i64 t, .int .i64 0, .int .i64 0, .int .i64 0, .int .i64 0, .bool false, .slice none 0 0]
  rw [← hW2] at S2
  have HT := hideIt (toAsk_any i o a b W2)
  have HE := hideIt hls
  have HS2 := hideIt S2
  clear hls S2
  go_enter Try.func16, Try.ntmps16
  go_upto_region 5 with fail
  rw [← hW2]
  clear hW2
  have x3 := HS2.out.lw.at 3 rfl
  have x4 := HS2.out.lw.at 4 rfl
  have x5 := HS2.out.lw.at 5 rfl
  have x6 := HS2.out.lw.at 6 rfl
  go_wp2_with (go_at_call 42; refine HT.out.mono ?_; rintro e w2 ⟨rfl, b2⟩; refine Hid.out ?_)
  refine (show ∀ {p : Prop}, p → Hid p from fun h => h) ?_
  have T2 := HS2.out.up b2
  have S3 := (T2.set 3 [.int .i64 i, .int .i64 o, .int .i64 a, .int .i64 b]).set 7 [.bool cut]
  obtain ⟨W3, hW3⟩ : ∃ W3, W3 = setA (setA w2 (w.heap.size + 1 + 1) 3 [.int .i64 i, .int .i64 o, .int .i64 a, .int .i64 b]) (w.heap.size + 1 + 1) 7 [.bool cut] := ⟨_, rfl⟩
  rw [← hW3] at S3
  dsimp only [setA] at hW3
  have y3 := T2.out.at 3 rfl
  have f3 := T2.out.frozen 3
  have y4 := T2.out.at 4 rfl
  have f4 := T2.out.frozen 4
  have y5 := T2.out.at 5 rfl
  have f5 := T2.out.frozen 5
  have y6 := T2.out.at 6 rfl
  have f6 := T2.out.frozen 6
  have y7 := T2.out.at 7 rfl
  have f7 := T2.out.frozen 7
  have u7 := T2.lw.at 7 rfl
  have z8 := S3.lw.at 8 rfl
  have HS3 := hideIt S3
  have HO := hideIt (toIntS_any ls n ad c hn W3 (HE.out.up S3.below))
  clear x3 x4 x5 x6 HT T2 S3 HS2 HE b2
  go_upto_region 7 with fail
  rw [← hW3]
  clear hW3 y3 f3 y4 f4 y5 f5 y6 f6 y7 f7 u7
  go_wp2_with (go_at_call 43; refine HO.out.mono ?_; rintro e w3 ⟨g, rfl, o3, b3⟩; refine Hid.out ?_)
  refine (show ∀ {p : Prop}, p → Hid p from fun h => h) ?_
  have T3 := HS3.out.up b3
  have S4 := T3.set 8 [.slice (some ⟨g, 0, none⟩) n n]
  have zl := HS3.out.lt
  have p3 := own_setA (own_mono o3 zl) (G := w.heap.size + 1 + 1) (by omega) 8 [.slice (some ⟨g, 0, none⟩) n n]
  obtain ⟨W4, hW4⟩ : ∃ W4, W4 = setA w3 (w.heap.size + 1 + 1) 8 [.slice (some ⟨g, 0, none⟩) n n] := ⟨_, rfl⟩
  rw [← hW4] at S4 p3
  dsimp only [setA] at hW4
  have y8 := T3.out.at 8 rfl
  have f8 := T3.out.frozen 8
  have HS4 := hideIt S4
  have HP4 := hideIt p3
  clear o3 b3 T3 S4 p3 HO HS3 z8 zl
  go_upto_region 8 with fail
  rw [← hW4]
  clear hW4 y8 f8
  have k0 := HS4.out.out.at 0 rfl
  have r0 := HS4.out.rs.at 0 rfl
  have k1 := HS4.out.out.at 1 rfl
  have r1 := HS4.out.rs.at 1 rfl
  have k2 := HS4.out.out.at 2 rfl
  have r2 := HS4.out.rs.at 2 rfl
  have k3 := HS4.out.out.at 3 rfl
  have r3 := HS4.out.rs.at 3 rfl
  have k4 := HS4.out.out.at 4 rfl
  have r4 := HS4.out.rs.at 4 rfl
  have k5 := HS4.out.out.at 5 rfl
  have r5 := HS4.out.rs.at 5 rfl
  have k6 := HS4.out.out.at 6 rfl
  have r6 := HS4.out.rs.at 6 rfl
  have k7 := HS4.out.out.at 7 rfl
  have r7 := HS4.out.rs.at 7 rfl
  have k8 := HS4.out.out.at 8 rfl
  have r8 := HS4.out.rs.at 8 rfl
  have fz := HS4.out.rs.frozen
  have q0 := fz 0
  have q1 := fz 1
  have q2 := fz 2
  have q3 := fz 3
  have q4 := fz 4
  have q5 := fz 5
  have q6 := fz 6
  have q7 := fz 7
  have q8 := fz 8
  have HF : Hid ((setA W4 (w.heap.size + 1) 0 [.int .i64 k, .int .i64 nd, .int .i64 t, .int .i64 i, .int .i64 o, .int .i64 a, .int .i64 b, .bool cut, .slice (some ⟨g, 0, none⟩) n n]).ownsRow w.heap.size 3 1 (.slice (some ⟨g, 0, none⟩) n n) n (ic ls) ∧ Below w.heap.size w (setA W4 (w.heap.size + 1) 0 [.int .i64 k, .int .i64 nd, .int .i64 t, .int .i64 i, .int .i64 o, .int .i64 a, .int .i64 b, .bool cut, .slice (some ⟨g, 0, none⟩) n n])) := ⟨own_mono (own_setA HP4.out (by omega) _ _) (by omega), below_setA HS4.out.below (by omega) _ _⟩
  dsimp only [setA] at HF
  have XF := HS4.out.rs.setA 0 [.int .i64 k, .int .i64 nd, .int .i64 t, .int .i64 i, .int .i64 o, .int .i64 a, .int .i64 b, .bool cut, .slice (some ⟨g, 0, none⟩) n n]
  have c0 := XF.at 0 rfl
  have c1 := XF.at 1 rfl
  have c2 := XF.at 2 rfl
  have c3 := XF.at 3 rfl
  have c4 := XF.at 4 rfl
  have c5 := XF.at 5 rfl
  have c6 := XF.at 6 rfl
  have c7 := XF.at 7 rfl
  have c8 := XF.at 8 rfl
  dsimp only [setA] at c0 c1 c2 c3 c4 c5 c6 c7 c8
  have HC := hideIt (And.intro c0 (And.intro c1 (And.intro c2 (And.intro c3 (And.intro c4 (And.intro c5 (And.intro c6 (And.intro c7 c8))))))))
  clear fz HP4 HS4 XF c0 c1 c2 c3 c4 c5 c6 c7 c8
  go_wp2
  obtain ⟨c0, c1, c2, c3, c4, c5, c6, c7, c8⟩ := HC.out
  exact bodyPost_ret (v := .agg #[.int .i64 k, .int .i64 nd, .int .i64 t, .int .i64 i, .int .i64 o, .int .i64 a, .int .i64 b, .bool cut, .slice (some ⟨g, 0, none⟩) n n]) (by simp [results, Try.results16, go_sem, c0, c1, c2, c3, c4, c5, c6, c7, c8]) rfl ⟨g, rfl, HF.out.1, HF.out.2⟩

set_option maxRecDepth 100000 in
set_option maxHeartbeats 4000000 in
theorem eqEvent_same (k nd t i o a b : Int) (cut : Bool) (ls : List Int) (n : Nat) (ad ad' : Option Addr) (c c' : Nat) (hn : n ≤ 1048576) (w : World) (h : Is w w.heap.size ad n ls) (h' : Is w w.heap.size ad' n ls) :
    Calls Try.prog 18 #[.agg #[.int .i64 k, .int .i64 nd, .int .i64 t, .int .i64 i, .int .i64 o, .int .i64 a, .int .i64 b, .bool cut, .slice ad n c], .agg #[.int .i64 k, .int .i64 nd, .int .i64 t, .int .i64 i, .int .i64 o, .int .i64 a, .int .i64 b, .bool cut, .slice ad' n c']] w fun e w' => e = .returned (.bool true) ∧ Below w.heap.size w w' := by
  obtain ⟨W, hW⟩ : ∃ W, W = (w.alloc (.cells #[.int .i64 k, .int .i64 nd, .int .i64 t, .int .i64 i, .int .i64 o, .int .i64 a, .int .i64 b, .bool cut, .slice ad n c] 51)).alloc (.cells #[.int .i64 k, .int .i64 nd, .int .i64 t, .int .i64 i, .int .i64 o, .int .i64 a, .int .i64 b, .bool cut, .slice ad' n c'] 51) := ⟨_, rfl⟩
  have B2 : Below w.heap.size w W := by rw [hW]; exact ((Below.refl _ _).alloc (Nat.le_refl _) _).alloc (by simp) _
  have X1 := (BxA.new w 51 #[.int .i64 k, .int .i64 nd, .int .i64 t, .int .i64 i, .int .i64 o, .int .i64 a, .int .i64 b, .bool cut, .slice ad n c]).up (belA _ (.cells #[.int .i64 k, .int .i64 nd, .int .i64 t, .int .i64 i, .int .i64 o, .int .i64 a, .int .i64 b, .bool cut, .slice ad' n c'] 51))
  have X2 := BxA.new (w.alloc (.cells #[.int .i64 k, .int .i64 nd, .int .i64 t, .int .i64 i, .int .i64 o, .int .i64 a, .int .i64 b, .bool cut, .slice ad n c] 51)) 51 #[.int .i64 k, .int .i64 nd, .int .i64 t, .int .i64 i, .int .i64 o, .int .i64 a, .int .i64 b, .bool cut, .slice ad' n c']
  rw [← hW] at X1 X2
  rw [show (w.alloc (.cells #[.int .i64 k, .int .i64 nd, .int .i64 t, .int .i64 i, .int .i64 o, .int .i64 a, .int .i64 b, .bool cut, .slice ad n c] 51)).heap.size = w.heap.size + 1 by simp] at X2
  have HA := hideIt (eqAsk_yes i o a b W)
  have HO := hideIt (fun u (hu : Below w.heap.size w u) => eqIntS_same ls n ad ad' c c' hn u (h.up hu) (h'.up hu))
  have HB := hideIt B2
  have HX1 := hideIt X1
  have HX2 := hideIt X2
  have x0 := X1.cell 0 rfl
  have y0 := X2.cell 0 rfl
  have x1 := X1.cell 1 rfl
  have y1 := X2.cell 1 rfl
  have x2 := X1.cell 2 rfl
  have y2 := X2.cell 2 rfl
  have x3 := X1.cell 3 rfl
  have y3 := X2.cell 3 rfl
  have x4 := X1.cell 4 rfl
  have y4 := X2.cell 4 rfl
  have x5 := X1.cell 5 rfl
  have y5 := X2.cell 5 rfl
  have x6 := X1.cell 6 rfl
  have y6 := X2.cell 6 rfl
  have dk : (k != k) = false := by simp
  have dn : (nd != nd) = false := by simp
  have dt : (t != t) = false := by simp
  have dc : (cut != cut) = false := by simp
  clear h h' B2 X1 X2
  go_enter Try.func18, Try.ntmps18
  go_upto_region 1 with fail
  rw [← hW]
  clear hW
  go_wp2_with (go_at_call 45; refine HA.out.mono ?_; rintro e w1 ⟨rfl, b1⟩; refine Hid.out ?_)
  refine (show ∀ {p : Prop}, p → Hid p from fun h => h) ?_
  have B3 := HB.out.trans (b1.mono HB.out.size)
  have HO2 := hideIt (HO.out w1 B3)
  have HB3 := hideIt B3
  have Y1 := HX1.out.up b1
  have Y2 := HX2.out.up b1
  clear x0 y0 x1 y1 x2 y2 x3 y3 x4 y4 x5 y5 x6 y6 B3 b1 HB HO HA HX1 HX2
  have x7 := Y1.cell 7 rfl
  have x8 := Y1.cell 8 rfl
  have y7 := Y2.cell 7 rfl
  have y8 := Y2.cell 8 rfl
  clear Y1 Y2
  go_wp2_with (go_at_call 46; refine HO2.out.mono ?_; rintro e w2 ⟨rfl, b2⟩)
  go_ret
  exact ⟨rfl, HB3.out.trans (b2.mono HB3.out.size)⟩

theorem BxA.c9 {u : World} {b : Nat} {t : TypeId} {v0 v1 v2 v3 v4 v5 v6 v7 v8 : Value} (x : BxA u b t #[v0, v1, v2, v3, v4, v5, v6, v7, v8]) : u.cell? ⟨b, 0, none⟩ = some v0 ∧ u.cell? ⟨b, 1, none⟩ = some v1 ∧ u.cell? ⟨b, 2, none⟩ = some v2 ∧ u.cell? ⟨b, 3, none⟩ = some v3 ∧ u.cell? ⟨b, 4, none⟩ = some v4 ∧ u.cell? ⟨b, 5, none⟩ = some v5 ∧ u.cell? ⟨b, 6, none⟩ = some v6 ∧ u.cell? ⟨b, 7, none⟩ = some v7 ∧ u.cell? ⟨b, 8, none⟩ = some v8 :=
  ⟨x.cell 0 rfl, x.cell 1 rfl, x.cell 2 rfl, x.cell 3 rfl, x.cell 4 rfl, x.cell 5 rfl, x.cell 6 rfl, x.cell 7 rfl, x.cell 8 rfl⟩
theorem bupE {w u v : World} (h : Below w.heap.size w u) (hb : Below u.heap.size u v) : Below w.heap.size w v := h.trans (hb.mono h.size)

set_option maxRecDepth 100000 in
set_option maxHeartbeats 16000000 in
theorem fnExactEventOk.walk (sh : Int) (_ : (Lit.int .i64 sh).wf = true) (k nd t i o a b : Int) (cut : Bool) (ls : List Int) (n : Nat) (ad : Option Addr) (c : Nat) (hm : n ≤ maxLen) (w : World) (hls : Is w w.heap.size ad n ls) :
    Calls Try.prog 4 #[.int .i64 sh, .agg #[.int .i64 k, .int .i64 nd, .int .i64 t, .int .i64 i, .int .i64 o, .int .i64 a, .int .i64 b, .bool cut, .slice ad n c]] w fun e w' => e = .returned (.bool true) ∧ Below w.heap.size w w' := by
  have bW := belA w (.cells #[.int .i64 k, .int .i64 nd, .int .i64 t, .int .i64 i, .int .i64 o, .int .i64 a, .int .i64 b, .bool cut, .slice ad n c] 47)
  have X1 := BxA.new w 47 #[.int .i64 k, .int .i64 nd, .int .i64 t, .int .i64 i, .int .i64 o, .int .i64 a, .int .i64 b, .bool cut, .slice ad n c]
  have HS := hideIt (fun u => szEvent_or k nd t i o a b cut n ad c 1048576 (by omega) (by omega) hm u)
  have HT := hideIt (fun u (hu : Below w.heap.size w u) (hf : n ≤ 1048576) => toEvent_any k nd t i o a b cut ls n ad c hf u (hls.up hu))
  have HDs := hideIt (fun u g => sEventOk_any sh k nd t i o a b cut (some ⟨g, 0, none⟩) n n u)
  have HDi := hideIt (fun u g => iEventOk_any sh k nd t i o a b cut (some ⟨g, 0, none⟩) n n u)
  have HE := hideIt (fun (u : World) g g' (hf : n ≤ 1048576) (r : Is u u.heap.size (some ⟨g, 0, none⟩) n ls) (r' : Is u u.heap.size (some ⟨g', 0, none⟩) n ls) => eqEvent_same k nd t i o a b cut ls n (some ⟨g, 0, none⟩) (some ⟨g', 0, none⟩) n n hf u r r')
  generalize evB sh k nd t i o a b n = fl at *
  have hff : (fl != fl) = false := by simp
  clear hls hm
  obtain ⟨W1, hW1⟩ : ∃ W1, W1 = w.alloc (.cells #[.int .i64 k, .int .i64 nd, .int .i64 t, .int .i64 i, .int .i64 o, .int .i64 a, .int .i64 b, .bool cut, .slice ad n c] 47) := ⟨_, rfl⟩
  rw [← hW1] at bW X1
  have HB := hideIt bW
  obtain ⟨x0, x1, x2, x3, x4, x5, x6, x7, x8⟩ := X1.c9
  have HX1 := hideIt X1
  clear X1 bW
  go_enter Try.func4, Try.ntmps4
  go_upto_region 1 with fail
  rw [← hW1]
  clear hW1
  go_wp2_with (go_at_call 14; refine (HS.out _).mono ?_; rintro e w2 ⟨z, rfl, hz, b2⟩; refine Hid.out ?_)
  refine (show ∀ {p : Prop}, p → Hid p from fun h => h) ?_
  clear x0 x1 x2 x3 x4 x5 x6 x7 x8 HS
  have B2 := bupE HB.out b2
  rcases hz with ⟨d1, hz⟩ | ⟨d1, hf⟩
  · have HB2 := hideIt B2
    clear B2 b2
    go_wp2
    go_ret
    exact ⟨rfl, HB2.out⟩
  obtain ⟨x0, x1, x2, x3, x4, x5, x6, x7, x8⟩ := (HX1.out.up b2).c9
  have Hf := hideIt hf
  have H3 := hideIt (HT.out w2 B2 hf)
  have HX2 := hideIt (HX1.out.up b2)
  have HB2 := hideIt B2
  clear hf b2 B2 HX1
  go_wp2_with (go_at_call 16; refine H3.out.mono ?_; rintro e w3 ⟨g, rfl, q3, b3⟩; refine Hid.out ?_)
  refine (show ∀ {p : Prop}, p → Hid p from fun h => h) ?_
  have B3 := bupE HB2.out b3
  have H4 := hideIt (HDs.out w3 g)
  have HX3 := hideIt (HX2.out.up b3)
  have HB3 := hideIt B3
  clear H3 q3 b3 B3 HX2 HDs
  go_wp2_with (go_at_call 15; refine H4.out.mono ?_; rintro e w4 ⟨rfl, b4⟩; refine Hid.out ?_)
  refine (show ∀ {p : Prop}, p → Hid p from fun h => h) ?_
  have B4 := bupE HB3.out b4
  have HX4 := hideIt (HX3.out.up b4)
  clear x0 x1 x2 x3 x4 x5 x6 x7 x8
  obtain ⟨x0, x1, x2, x3, x4, x5, x6, x7, x8⟩ := HX4.out.c9
  have H5 := hideIt (HT.out w4 B4 Hf.out)
  have HB4 := hideIt B4
  clear H4 b4 B4 HX3 HB3
  go_wp2_with (go_at_call 16; refine H5.out.mono ?_; rintro e w5 ⟨g, rfl, q5, b5⟩; refine Hid.out ?_)
  refine (show ∀ {p : Prop}, p → Hid p from fun h => h) ?_
  obtain ⟨W5, hW5⟩ : ∃ W5, W5 = w5.alloc (.cells #[.int .i64 k, .int .i64 nd, .int .i64 t, .int .i64 i, .int .i64 o, .int .i64 a, .int .i64 b, .bool cut, .slice (some ⟨g, 0, none⟩) n n] 51) := ⟨_, rfl⟩
  have bA : Below w5.heap.size w5 W5 := by rw [hW5]; exact belA _ _
  have Y5 : BxA W5 w5.heap.size 51 #[.int .i64 k, .int .i64 nd, .int .i64 t, .int .i64 i, .int .i64 o, .int .i64 a, .int .i64 b, .bool cut, .slice (some ⟨g, 0, none⟩) n n] := by rw [hW5]; exact BxA.new _ _ _
  have B5 := bupE (bupE HB4.out b5) bA
  have HX5 := hideIt ((HX4.out.up b5).up bA)
  have r5 := (Is_of_own q5).up bA
  have Hr5 := hideIt r5
  have H6 := hideIt (HDi.out W5 g)
  obtain ⟨b9, hb9⟩ : ∃ b9, b9 = w5.heap.size := ⟨_, rfl⟩
  rw [← hb9] at Y5
  obtain ⟨y0, y1, y2, y3, y4, y5, y6, y7, y8⟩ := Y5.c9
  have HY5 := hideIt Y5
  have HB5 := hideIt B5
  clear H5 q5 b5 bA B5 r5 Y5 HX4 HB4 HDi
  go_upto_region 7 with fail
  rw [← hW5, ← hb9]
  clear hW5 hb9 x0 x1 x2 x3 x4 x5 x6 x7 x8
  go_wp2_with (go_at_call 17; refine H6.out.mono ?_; rintro e w6 ⟨rfl, b6⟩; refine Hid.out ?_)
  refine (show ∀ {p : Prop}, p → Hid p from fun h => h) ?_
  have D6 : Below w6.heap.size w6 w6.drew := (Below.refl _ _).drew
  have HC := hideIt (fun u (hu : Below w6.heap.size w6 u) => And.intro (HY5.out.up (bupE b6 hu)).c9 (HX5.out.up (bupE b6 hu)).c9)
  have hS6 := HC.out _ D6
  have H7 := hideIt (HT.out _ (bupE (bupE HB5.out b6) D6) Hf.out)
  have HE2 := hideIt (fun (u : World) g' (hu : Below w6.heap.size w6 u) (r' : Is u u.heap.size (some ⟨g', 0, none⟩) n ls) => HE.out u g g' Hf.out (Hr5.out.up (bupE b6 hu)) r')
  have HB6 := hideIt (bupE HB5.out b6)
  clear H6 y0 y1 y2 y3 y4 y5 y6 y7 y8 b6 HT HE Hf Hr5 HB5 HY5 HX5
  go_upto_region 10 with fail
  go_region_held3 (fun u => (u.cell? ⟨b9, 0, none⟩ = some (.int .i64 k) ∧ u.cell? ⟨b9, 1, none⟩ = some (.int .i64 nd) ∧ u.cell? ⟨b9, 2, none⟩ = some (.int .i64 t) ∧ u.cell? ⟨b9, 3, none⟩ = some (.int .i64 i) ∧ u.cell? ⟨b9, 4, none⟩ = some (.int .i64 o) ∧ u.cell? ⟨b9, 5, none⟩ = some (.int .i64 a) ∧ u.cell? ⟨b9, 6, none⟩ = some (.int .i64 b) ∧ u.cell? ⟨b9, 7, none⟩ = some (.bool cut) ∧ u.cell? ⟨b9, 8, none⟩ = some (.slice (some ⟨g, 0, none⟩) n n)) ∧ (u.cell? ⟨w.heap.size, 0, none⟩ = some (.int .i64 k) ∧ u.cell? ⟨w.heap.size, 1, none⟩ = some (.int .i64 nd) ∧ u.cell? ⟨w.heap.size, 2, none⟩ = some (.int .i64 t) ∧ u.cell? ⟨w.heap.size, 3, none⟩ = some (.int .i64 i) ∧ u.cell? ⟨w.heap.size, 4, none⟩ = some (.int .i64 o) ∧ u.cell? ⟨w.heap.size, 5, none⟩ = some (.int .i64 a) ∧ u.cell? ⟨w.heap.size, 6, none⟩ = some (.int .i64 b) ∧ u.cell? ⟨w.heap.size, 7, none⟩ = some (.bool cut) ∧ u.cell? ⟨w.heap.size, 8, none⟩ = some (.slice ad n c)))
    (first | assumption)
    (first
    | (go_at_call 16; refine H7.out.mono ?_; rintro e w7 ⟨k1, rfl, q7, b7⟩; have B7 := bupE D6 b7; have hS7 := HC.out _ B7)
    | (go_at_call 18; refine (HE2.out _ _ B7 (Is_of_own q7)).mono ?_; rintro e w8 ⟨rfl, b8⟩; have B8 := bupE B7 b8; have hS8 := HC.out _ B8))
  have BF := hideIt (bupE HB6.out B8)
  clear hS6 hS7 hS8 HC H7 HE2
  go_wp2
  go_ret
  exact ⟨rfl, BF.out⟩
end Go.Proofs.Ytadbppackdfdjaa
namespace Go.Proofs.Ytadbppackdfdjaa
open Go.RowKit Go.ChangeShapes Go.WideShapes Go.ChangeAt

theorem two7 {α : Type} {l : List α} (h : l.length = 2) : ∃ a b, l = [a, b] := by
  match l, h with
  | [a, b], _ => exact ⟨a, b, rfl⟩
/-- a row of numbers -/
theorem open_int1 {H : Type} {enc : TypeId × Value → H} {W : World} {fuel : Nat} {cs : List Value} {y : DataW H × List MemPlace}
    (h : DataW.trod enc Try.prog W 0 (fun _ => true) true fuel 26 cs = some y) : ∃ (a : Option Addr) (n c : Nat) (ls : List Int), cs = [.slice a n c] ∧ n ≤ maxLen ∧ n ≤ c ∧ Is W W.heap.size a n ls := by
  rcases open_ints Try.underlying26 Try.underlying3 (by kernel_rfl) h with ⟨hcs, _⟩ | ⟨x, l, c, zs, hcs, _, hl, hm, hz, _, hcell, hwz⟩
  · exact ⟨none, 0, 0, [], hcs, by unfold maxLen; omega, by omega, ⟨rfl, .inl rfl⟩⟩
  · have hzl : zs.length = c := by simpa using hz
    by_cases h0 : l = 0
    · subst h0
      exact ⟨_, 0, c, [], hcs, by unfold maxLen; omega, by omega, ⟨rfl, .inl rfl⟩⟩
    · obtain ⟨b, off, rfl, hc⟩ := ints_at hcell (by omega)
      have hb : b < W.heap.size := World.block_lt_of_cell? W _ (hc 0 (by omega))
      refine ⟨_, l, c, zs.take l, hcs, by omega, by omega, ⟨by rw [List.length_take]; omega, .inr ⟨b, off, rfl, hb, fun j x hx => ?_⟩⟩⟩
      have hj : j < l := by have := (List.getElem?_eq_some_iff.1 hx).1; rw [List.length_take] at this; omega
      rw [List.getElem?_take_of_lt hj] at hx
      rw [hc j (by omega), List.getD_eq_getElem?_getD, hx]
      rfl
theorem open_intSS {H : Type} {enc : TypeId × Value → H} {W : World} {a : Option Addr} {len cap fuel : Nat} {x : DataW H × List MemPlace}
    (h : DataW.trod enc Try.prog W 0 (fun _ => true) true fuel 28 [.slice a len cap] = some x) : len ≤ maxLen ∧ ∃ ts : List (List Int), Ts W W.heap.size a len ts ∧ ∀ t ∈ ts, t.length ≤ maxLen := by
  rcases DataW.trod_slice Try.underlying28 h with ⟨hcs, _⟩ | ⟨ad, l, c, elems, rest, n, _, hcs, _, _, hlc, hm, hel, hei, _, _⟩
  · simp at hcs
    obtain ⟨rfl, rfl, rfl⟩ := hcs
    exact ⟨by unfold maxLen; omega, [], ⟨rfl, .inl rfl⟩, by simp⟩
  · simp at hcs
    obtain ⟨rfl, rfl, rfl⟩ := hcs
    refine ⟨by omega, ?_⟩
    have each : ∀ i, i < len → ∃ t : List Int, (∃ (a' : Option Addr) (c' : Nat), W.cell? ((ad.add i).add 0) = some (.slice a' t.length c') ∧ Is W W.heap.size a' t.length t ∧ t.length ≤ c') ∧ t.length ≤ maxLen := by
      intro i hi
      have h1 := hei i hi
      obtain ⟨y, hy⟩ : ∃ y, elems[i]? = some y := ⟨elems[i]'(by omega), List.getElem?_eq_getElem _⟩
      rw [hy, Option.bind_eq_some_iff] at h1
      obtain ⟨cs', hc, ht⟩ := h1
      obtain ⟨a', n', c', ls, rfl, q1, q2, q3⟩ := open_int1 ht
      rw [show Try.prog.cellsOf 26 = 1 by kernel_rfl] at hc
      have hcell := (World.cells?_some hc).2.2
      have hn := q3.1
      subst hn
      refine ⟨ls, ⟨a', c', ?_, q3, q2⟩, q1⟩
      simpa using hcell 0 (by omega)
    by_cases h0 : len = 0
    · subst h0
      exact ⟨[], ⟨rfl, .inl rfl⟩, by simp⟩
    · obtain ⟨f0, ⟨_, _, hc0, _⟩, _⟩ := each 0 (by omega)
      obtain ⟨b, off, spot⟩ := ad
      have hspot : spot = none := by simpa [Addr.add] using World.cell?_spot hc0
      subst hspot
      have hb : b < W.heap.size := by
        have := World.block_lt_of_cell? W _ hc0
        simpa [Addr.add] using this
      obtain ⟨F, hF⟩ := Classical.axiomOfChoice (fun i : Fin len => each i.1 i.2)
      refine ⟨List.ofFn F, ⟨by simp, .inr ⟨b, off, rfl, hb, fun j f hf => ?_⟩⟩, fun f hf => ?_⟩
      · obtain ⟨hj, rfl⟩ := List.getElem?_eq_some_iff.1 hf
        have hj' : j < len := by simpa using hj
        obtain ⟨⟨a', c', c0, c1⟩, _⟩ := hF ⟨j, hj'⟩
        rw [add_plain, add_plain, Nat.add_zero] at c0
        simp only [List.getElem_ofFn]
        exact ⟨a', c', c0, c1⟩
      · obtain ⟨i, rfl⟩ := List.mem_ofFn.1 hf
        exact (hF i).2
end Go.Proofs.Ytadbppackdfdjaa
namespace Go.Proofs.Ytadbppackdfdjaa
open Go.RowKit Go.ChangeShapes Go.WideShapes Go.ChangeAt

theorem sliceH {H : Type} {enc : TypeId × Value → H} {W : World} {fuel : Nat} {t e : TypeId} {cs : List Value} {x : DataW H × List MemPlace} (hu : Try.prog.underlying t = some (.slice e))
    (h : DataW.trod enc Try.prog W 0 (fun _ => true) true fuel t cs = some x) : ∃ a n c, cs = [.slice a n c] := by
  rcases DataW.trod_slice hu h with ⟨hcs, _⟩ | ⟨ad, l, c, _, _, _, _, hcs, _⟩
  · exact ⟨_, _, _, hcs⟩
  · exact ⟨_, _, _, hcs⟩
theorem len9 {α : Type} {l : List α} (h : l.length = 9) : ∃ c0 c1 c2 c3 c4 c5 c6 c7 c8, l = [c0, c1, c2, c3, c4, c5, c6, c7, c8] := by
  match l, h with
  | [c0, c1, c2, c3, c4, c5, c6, c7, c8], _ => exact ⟨c0, c1, c2, c3, c4, c5, c6, c7, c8, rfl⟩
theorem open_ints13 {H : Type} {enc : TypeId × Value → H} {W : World} {fuel : Nat} {a : Option Addr} {n c : Nat} {y : DataW H × List MemPlace}
    (h : DataW.trod enc Try.prog W 0 (fun _ => true) true fuel 26 [.slice a n c] = some y) : n ≤ maxLen ∧ ∃ ls : List Int, Is W W.heap.size a n ls := by
  obtain ⟨a', n', c', ls, hc, h1, _, h2⟩ := open_int1 h
  simp at hc
  obtain ⟨rfl, rfl, rfl⟩ := hc
  exact ⟨h1, ls, h2⟩
set_option maxRecDepth 100000 in
theorem trod_ask {H : Type} {enc : TypeId × Value → H} {W : World} {fuel : Nat} {c0 c1 c2 c3 : Value} {y : DataW H × List MemPlace}
    (h : DataW.trod enc Try.prog W 0 (fun _ => true) true fuel 45 [c0, c1, c2, c3] = some y) : ∃ i o a b : Int, c0 = .int .i64 i ∧ c1 = .int .i64 o ∧ c2 = .int .i64 a ∧ c3 = .int .i64 b := by
  obtain ⟨xs, n, _, _, hl, hlen, hfi⟩ := DataW.trod_struct Try.underlying45 h
  have h0 : DataW.trod enc Try.prog W 0 (fun _ => true) true n 3 (([c0, c1, c2, c3].drop 0).take (Try.prog.cellsOf 3)) = xs[0]? := hfi 0 _ rfl
  have h1 : DataW.trod enc Try.prog W 0 (fun _ => true) true n 3 (([c0, c1, c2, c3].drop 1).take (Try.prog.cellsOf 3)) = xs[1]? := hfi 1 _ rfl
  have h2 : DataW.trod enc Try.prog W 0 (fun _ => true) true n 3 (([c0, c1, c2, c3].drop 2).take (Try.prog.cellsOf 3)) = xs[2]? := hfi 2 _ rfl
  have h3 : DataW.trod enc Try.prog W 0 (fun _ => true) true n 3 (([c0, c1, c2, c3].drop 3).take (Try.prog.cellsOf 3)) = xs[3]? := hfi 3 _ rfl
  rw [show Try.prog.cellsOf 3 = 1 by kernel_rfl] at h0
  rw [show Try.prog.cellsOf 3 = 1 by kernel_rfl] at h1
  rw [show Try.prog.cellsOf 3 = 1 by kernel_rfl] at h2
  rw [show Try.prog.cellsOf 3 = 1 by kernel_rfl] at h3
  have g : ∀ i, i < 4 → ∃ z, xs[i]? = some z := fun i hi => ⟨xs[i]'(by simp at hlen; omega), List.getElem?_eq_getElem _⟩
  obtain ⟨z0, e0⟩ := g 0 (by omega)
  rw [e0] at h0
  have h0' : DataW.trod enc Try.prog W 0 (fun _ => true) true n 3 [c0] = some z0 := by simpa using h0
  obtain ⟨k0, hk0, _⟩ := DataW.trod_int Try.underlying3 h0'
  simp at hk0
  subst hk0
  obtain ⟨z1, e1⟩ := g 1 (by omega)
  rw [e1] at h1
  have h1' : DataW.trod enc Try.prog W 0 (fun _ => true) true n 3 [c1] = some z1 := by simpa using h1
  obtain ⟨k1, hk1, _⟩ := DataW.trod_int Try.underlying3 h1'
  simp at hk1
  subst hk1
  obtain ⟨z2, e2⟩ := g 2 (by omega)
  rw [e2] at h2
  have h2' : DataW.trod enc Try.prog W 0 (fun _ => true) true n 3 [c2] = some z2 := by simpa using h2
  obtain ⟨k2, hk2, _⟩ := DataW.trod_int Try.underlying3 h2'
  simp at hk2
  subst hk2
  obtain ⟨z3, e3⟩ := g 3 (by omega)
  rw [e3] at h3
  have h3' : DataW.trod enc Try.prog W 0 (fun _ => true) true n 3 [c3] = some z3 := by simpa using h3
  obtain ⟨k3, hk3, _⟩ := DataW.trod_int Try.underlying3 h3'
  simp at hk3
  subst hk3
  exact ⟨k0, k1, k2, k3, rfl, rfl, rfl, rfl⟩
set_option maxRecDepth 100000 in
theorem open_event {H : Type} {enc : TypeId × Value → H} {W : World} {r : Reach} {base : Nat} {v : Value} {d : DataW H} {p : List MemPlace}
    (hv : Value.okWide Try.prog W r base 47 v) (h : DataW.Trod enc Try.prog W 0 (fun _ => true) true 47 v d p) :
    ∃ (k nd t i o a b : Int) (cut : Bool) (ls : List Int) (n : Nat) (ad : Option Addr) (c : Nat), v = .agg #[.int .i64 k, .int .i64 nd, .int .i64 t, .int .i64 i, .int .i64 o, .int .i64 a, .int .i64 b, .bool cut, .slice ad n c] ∧ n ≤ maxLen ∧ Is W W.heap.size ad n ls := by
  obtain ⟨cs, rfl, hcs⟩ := okWide_struct Try.underlying47 hv
  obtain ⟨fuel, hf⟩ := h
  obtain ⟨xs, n, _, _, hl, hlen, hfi⟩ := DataW.trod_struct Try.underlying47 hf
  rw [show Try.prog.cellsOf 47 = 9 by kernel_rfl] at hcs hl
  obtain ⟨l⟩ := cs
  obtain ⟨c0, c1, c2, c3, c4, c5, c6, c7, c8, rfl⟩ := len9 (by simpa using hcs : l.length = 9)
  have ec : (Value.agg (List.toArray [c0, c1, c2, c3, c4, c5, c6, c7, c8])).cells.toList = [c0, c1, c2, c3, c4, c5, c6, c7, c8] := by simp [Value.cells]
  rw [ec] at hfi
  have h0 : DataW.trod enc Try.prog W 0 (fun _ => true) true n 3 (([c0, c1, c2, c3, c4, c5, c6, c7, c8].drop 0).take (Try.prog.cellsOf 3)) = xs[0]? := hfi 0 _ rfl
  have h1 : DataW.trod enc Try.prog W 0 (fun _ => true) true n 3 (([c0, c1, c2, c3, c4, c5, c6, c7, c8].drop 1).take (Try.prog.cellsOf 3)) = xs[1]? := hfi 1 _ rfl
  have h2 : DataW.trod enc Try.prog W 0 (fun _ => true) true n 3 (([c0, c1, c2, c3, c4, c5, c6, c7, c8].drop 2).take (Try.prog.cellsOf 3)) = xs[2]? := hfi 2 _ rfl
  have h3 : DataW.trod enc Try.prog W 0 (fun _ => true) true n 45 (([c0, c1, c2, c3, c4, c5, c6, c7, c8].drop 3).take (Try.prog.cellsOf 45)) = xs[3]? := hfi 3 _ rfl
  have h4 : DataW.trod enc Try.prog W 0 (fun _ => true) true n 4 (([c0, c1, c2, c3, c4, c5, c6, c7, c8].drop 7).take (Try.prog.cellsOf 4)) = xs[4]? := hfi 4 _ rfl
  have h5 : DataW.trod enc Try.prog W 0 (fun _ => true) true n 26 (([c0, c1, c2, c3, c4, c5, c6, c7, c8].drop 8).take (Try.prog.cellsOf 26)) = xs[5]? := hfi 5 _ rfl
  rw [show Try.prog.cellsOf 3 = 1 by kernel_rfl] at h0
  rw [show Try.prog.cellsOf 3 = 1 by kernel_rfl] at h1
  rw [show Try.prog.cellsOf 3 = 1 by kernel_rfl] at h2
  rw [show Try.prog.cellsOf 45 = 4 by kernel_rfl] at h3
  rw [show Try.prog.cellsOf 4 = 1 by kernel_rfl] at h4
  rw [show Try.prog.cellsOf 26 = 1 by kernel_rfl] at h5
  have g : ∀ i, i < 6 → ∃ z, xs[i]? = some z := fun i hi => ⟨xs[i]'(by simp at hlen; omega), List.getElem?_eq_getElem _⟩
  obtain ⟨z0, e0⟩ := g 0 (by omega)
  rw [e0] at h0
  have h0' : DataW.trod enc Try.prog W 0 (fun _ => true) true n 3 [c0] = some z0 := by simpa using h0
  obtain ⟨k0, hk0, _⟩ := DataW.trod_int Try.underlying3 h0'
  simp at hk0
  subst hk0
  obtain ⟨z1, e1⟩ := g 1 (by omega)
  rw [e1] at h1
  have h1' : DataW.trod enc Try.prog W 0 (fun _ => true) true n 3 [c1] = some z1 := by simpa using h1
  obtain ⟨k1, hk1, _⟩ := DataW.trod_int Try.underlying3 h1'
  simp at hk1
  subst hk1
  obtain ⟨z2, e2⟩ := g 2 (by omega)
  rw [e2] at h2
  have h2' : DataW.trod enc Try.prog W 0 (fun _ => true) true n 3 [c2] = some z2 := by simpa using h2
  obtain ⟨k2, hk2, _⟩ := DataW.trod_int Try.underlying3 h2'
  simp at hk2
  subst hk2
  obtain ⟨z3, e3⟩ := g 3 (by omega)
  rw [e3] at h3
  have h3' : DataW.trod enc Try.prog W 0 (fun _ => true) true n 45 [c3, c4, c5, c6] = some z3 := by simpa using h3
  obtain ⟨i, o, a, b, rfl, rfl, rfl, rfl⟩ := trod_ask h3'
  obtain ⟨z4, e4⟩ := g 4 (by omega)
  rw [e4] at h4
  have h4' : DataW.trod enc Try.prog W 0 (fun _ => true) true n 4 [c7] = some z4 := by simpa using h4
  obtain ⟨k4, hk4, _⟩ := DataW.trod_bool Try.underlying4 h4'
  simp at hk4
  subst hk4
  obtain ⟨z5, e5⟩ := g 5 (by omega)
  rw [e5] at h5
  have h5' : DataW.trod enc Try.prog W 0 (fun _ => true) true n 26 [c8] = some z5 := by simpa using h5
  obtain ⟨a5, m5, d5, hx5⟩ := sliceH Try.underlying26 h5'
  simp at hx5
  subst hx5
  obtain ⟨q5, ls5, r5⟩ := open_ints13 h5'
  exact ⟨k0, k1, k2, i, o, a, b, k4, ls5, m5, a5, d5, rfl, q5, r5⟩
end Go.Proofs.Ytadbppackdfdjaa
