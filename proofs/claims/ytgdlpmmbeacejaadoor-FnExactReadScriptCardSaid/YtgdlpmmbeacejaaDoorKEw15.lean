/- The program's and the specification's EventOk: one answer. -/
import Derived.Test.YtgdlpmmbeacejaaDoorKEv15
namespace Go.Proofs.YtgdlpmmbeacejaaDoor
open Go.RowKit

theorem evB_f {sh k nd t i o a b : Int} {n : Nat} (h : ¬ (1 ≤ sh ∧ sh ≤ 3 ∧ 1 ≤ k ∧ k ≤ 7 ∧ 0 ≤ nd ∧ nd ≤ sh ∧ 0 ≤ t ∧ n ≤ 30)) : evB sh k nd t i o a b n = false := by unfold evB; rw [decide_eq_false h]; rfl
theorem evB_t {sh k nd t i o a b : Int} {n : Nat} (h : 1 ≤ sh ∧ sh ≤ 3 ∧ 1 ≤ k ∧ k ≤ 7 ∧ 0 ≤ nd ∧ nd ≤ sh ∧ 0 ≤ t ∧ n ≤ 30) : evB sh k nd t i o a b n = (k != 1 || akB i o a b) := by unfold evB; rw [decide_eq_true h]; rfl
theorem evSh_q (x : Int) (q : Bool) (h : decide (1 ≤ x ∧ x ≤ 3) = q) (w : World) : Calls Tryd.prog 58 #[.int .i64 x] w fun e w' => e = .returned (.bool q) ∧ w' = w := by have := evShOk x w; rwa [h] at this

set_option maxRecDepth 100000 in
set_option maxHeartbeats 4000000 in
theorem iEventOk_any (sh k nd t i o a b : Int) (cut : Bool) (ad : Option Addr) (n c : Nat) (w : World) : Calls Tryd.prog 49 #[.int .i64 sh, .agg #[.int .i64 k, .int .i64 nd, .int .i64 t, .int .i64 i, .int .i64 o, .int .i64 a, .int .i64 b, .bool cut, .slice ad n c]] w fun e w' => e = .returned (.bool (evB sh k nd t i o a b n)) ∧ Below w.heap.size w w' := by
  obtain ⟨W1, hW1⟩ : ∃ W1, W1 = w.alloc (.cells #[.int .i64 k, .int .i64 nd, .int .i64 t, .int .i64 i, .int .i64 o, .int .i64 a, .int .i64 b, .bool cut, .slice ad n c] 57) := ⟨_, rfl⟩
  have bW := belA w (.cells #[.int .i64 k, .int .i64 nd, .int .i64 t, .int .i64 i, .int .i64 o, .int .i64 a, .int .i64 b, .bool cut, .slice ad n c] 57)
  have X := BxA.new w 57 #[.int .i64 k, .int .i64 nd, .int .i64 t, .int .i64 i, .int .i64 o, .int .i64 a, .int .i64 b, .bool cut, .slice ad n c]
  rw [← hW1] at bW X
  have HB := hideIt bW
  have x0 := X.cell 0 rfl
  have x1 := X.cell 1 rfl
  have x2 := X.cell 2 rfl
  have x3 := X.cell 3 rfl
  have x4 := X.cell 4 rfl
  have x5 := X.cell 5 rfl
  have x6 := X.cell 6 rfl
  have x8 := X.cell 8 rfl
  have xl := X.lt
  clear X bW
  by_cases c0 : 1 ≤ sh ∧ sh ≤ 3
  · by_cases c1 : 1 ≤ k
    · by_cases c2 : k ≤ 7
      · by_cases c3 : 0 ≤ nd
        · by_cases c4 : nd ≤ sh
          · by_cases c5 : 0 ≤ t
            · by_cases c6 : (n : Int) ≤ 30
              · by_cases c7 : k ≠ 1
                · have HR := hideIt (evB_t (i := i) (o := o) (a := a) (b := b) (show 1 ≤ sh ∧ sh ≤ 3 ∧ 1 ≤ k ∧ k ≤ 7 ∧ 0 ≤ nd ∧ nd ≤ sh ∧ 0 ≤ t ∧ n ≤ 30 by omega))
                  have H0 := hideIt (fun u => evSh_q sh true (by simp; omega) u)
                  have d1 : decide (1 ≤ k) = true := by simpa using c1
                  have d2 : decide (k ≤ 7) = true := by simpa using c2
                  have d3 : decide (0 ≤ nd) = true := by simpa using c3
                  have d4 : decide (nd ≤ sh) = true := by simpa using c4
                  have d5 : decide (0 ≤ t) = true := by simpa using c5
                  have d6 : decide ((n : Int) ≤ 30) = true := by simpa using c6
                  have d7 : (k != 1) = true := by simpa using c7
                  have HQ := hideIt d7
                  clear c0 c1 c2 c3 c4 c5 c6 c7
                  go_enter Tryd.func49, Tryd.ntmps49
                  go_upto_region 1 with fail
                  rw [← hW1]
                  clear hW1
                  go_wp2_with (go_at_call 58; refine (H0.out _).mono ?_; rintro e w1 ⟨rfl, rfl⟩)
                  go_ret
                  exact ⟨by rw [HR.out, HQ.out]; rfl, HB.out⟩
                · have HR := hideIt (evB_t (i := i) (o := o) (a := a) (b := b) (show 1 ≤ sh ∧ sh ≤ 3 ∧ 1 ≤ k ∧ k ≤ 7 ∧ 0 ≤ nd ∧ nd ≤ sh ∧ 0 ≤ t ∧ n ≤ 30 by omega))
                  have H0 := hideIt (fun u => evSh_q sh true (by simp; omega) u)
                  have d1 : decide (1 ≤ k) = true := by simpa using c1
                  have d2 : decide (k ≤ 7) = true := by simpa using c2
                  have d3 : decide (0 ≤ nd) = true := by simpa using c3
                  have d4 : decide (nd ≤ sh) = true := by simpa using c4
                  have d5 : decide (0 ≤ t) = true := by simpa using c5
                  have d6 : decide ((n : Int) ≤ 30) = true := by simpa using c6
                  have d7 : (k != 1) = false := by simpa using c7
                  have HF := hideIt (fun u => fitsRec_any i o a b u)
                  have HQ := hideIt d7
                  clear c0 c1 c2 c3 c4 c5 c6 c7
                  go_enter Tryd.func49, Tryd.ntmps49
                  go_upto_region 1 with fail
                  rw [← hW1]
                  clear hW1
                  go_wp2_with (go_at_call 58; refine (H0.out _).mono ?_; rintro e w1 ⟨rfl, rfl⟩; refine Hid.out ?_)
                  refine (show ∀ {p : Prop}, p → Hid p from fun h => h) ?_
                  go_wp2_with (go_at_call 59; refine (HF.out _).mono ?_; rintro e w2 ⟨rfl, b2⟩)
                  go_ret
                  exact ⟨by rw [HR.out, HQ.out]; rfl, HB.out.trans (b2.mono HB.out.size)⟩
              · have HR := hideIt (evB_f (i := i) (o := o) (a := a) (b := b) (show ¬ (1 ≤ sh ∧ sh ≤ 3 ∧ 1 ≤ k ∧ k ≤ 7 ∧ 0 ≤ nd ∧ nd ≤ sh ∧ 0 ≤ t ∧ n ≤ 30) by omega))
                have H0 := hideIt (fun u => evSh_q sh true (by simp; omega) u)
                have d1 : decide (1 ≤ k) = true := by simpa using c1
                have d2 : decide (k ≤ 7) = true := by simpa using c2
                have d3 : decide (0 ≤ nd) = true := by simpa using c3
                have d4 : decide (nd ≤ sh) = true := by simpa using c4
                have d5 : decide (0 ≤ t) = true := by simpa using c5
                have d6 : decide ((n : Int) ≤ 30) = false := by simpa using c6
                clear c0 c1 c2 c3 c4 c5 c6
                go_enter Tryd.func49, Tryd.ntmps49
                go_upto_region 1 with fail
                rw [← hW1]
                clear hW1
                go_wp2_with (go_at_call 58; refine (H0.out _).mono ?_; rintro e w1 ⟨rfl, rfl⟩)
                go_ret
                exact ⟨by rw [HR.out]; rfl, HB.out⟩
            · have HR := hideIt (evB_f (i := i) (o := o) (a := a) (b := b) (show ¬ (1 ≤ sh ∧ sh ≤ 3 ∧ 1 ≤ k ∧ k ≤ 7 ∧ 0 ≤ nd ∧ nd ≤ sh ∧ 0 ≤ t ∧ n ≤ 30) by omega))
              have H0 := hideIt (fun u => evSh_q sh true (by simp; omega) u)
              have d1 : decide (1 ≤ k) = true := by simpa using c1
              have d2 : decide (k ≤ 7) = true := by simpa using c2
              have d3 : decide (0 ≤ nd) = true := by simpa using c3
              have d4 : decide (nd ≤ sh) = true := by simpa using c4
              have d5 : decide (0 ≤ t) = false := by simpa using c5
              clear c0 c1 c2 c3 c4 c5
              go_enter Tryd.func49, Tryd.ntmps49
              go_upto_region 1 with fail
              rw [← hW1]
              clear hW1
              go_wp2_with (go_at_call 58; refine (H0.out _).mono ?_; rintro e w1 ⟨rfl, rfl⟩)
              go_ret
              exact ⟨by rw [HR.out]; rfl, HB.out⟩
          · have HR := hideIt (evB_f (i := i) (o := o) (a := a) (b := b) (show ¬ (1 ≤ sh ∧ sh ≤ 3 ∧ 1 ≤ k ∧ k ≤ 7 ∧ 0 ≤ nd ∧ nd ≤ sh ∧ 0 ≤ t ∧ n ≤ 30) by omega))
            have H0 := hideIt (fun u => evSh_q sh true (by simp; omega) u)
            have d1 : decide (1 ≤ k) = true := by simpa using c1
            have d2 : decide (k ≤ 7) = true := by simpa using c2
            have d3 : decide (0 ≤ nd) = true := by simpa using c3
            have d4 : decide (nd ≤ sh) = false := by simpa using c4
            clear c0 c1 c2 c3 c4
            go_enter Tryd.func49, Tryd.ntmps49
            go_upto_region 1 with fail
            rw [← hW1]
            clear hW1
            go_wp2_with (go_at_call 58; refine (H0.out _).mono ?_; rintro e w1 ⟨rfl, rfl⟩)
            go_ret
            exact ⟨by rw [HR.out]; rfl, HB.out⟩
        · have HR := hideIt (evB_f (i := i) (o := o) (a := a) (b := b) (show ¬ (1 ≤ sh ∧ sh ≤ 3 ∧ 1 ≤ k ∧ k ≤ 7 ∧ 0 ≤ nd ∧ nd ≤ sh ∧ 0 ≤ t ∧ n ≤ 30) by omega))
          have H0 := hideIt (fun u => evSh_q sh true (by simp; omega) u)
          have d1 : decide (1 ≤ k) = true := by simpa using c1
          have d2 : decide (k ≤ 7) = true := by simpa using c2
          have d3 : decide (0 ≤ nd) = false := by simpa using c3
          clear c0 c1 c2 c3
          go_enter Tryd.func49, Tryd.ntmps49
          go_upto_region 1 with fail
          rw [← hW1]
          clear hW1
          go_wp2_with (go_at_call 58; refine (H0.out _).mono ?_; rintro e w1 ⟨rfl, rfl⟩)
          go_ret
          exact ⟨by rw [HR.out]; rfl, HB.out⟩
      · have HR := hideIt (evB_f (i := i) (o := o) (a := a) (b := b) (show ¬ (1 ≤ sh ∧ sh ≤ 3 ∧ 1 ≤ k ∧ k ≤ 7 ∧ 0 ≤ nd ∧ nd ≤ sh ∧ 0 ≤ t ∧ n ≤ 30) by omega))
        have H0 := hideIt (fun u => evSh_q sh true (by simp; omega) u)
        have d1 : decide (1 ≤ k) = true := by simpa using c1
        have d2 : decide (k ≤ 7) = false := by simpa using c2
        clear c0 c1 c2
        go_enter Tryd.func49, Tryd.ntmps49
        go_upto_region 1 with fail
        rw [← hW1]
        clear hW1
        go_wp2_with (go_at_call 58; refine (H0.out _).mono ?_; rintro e w1 ⟨rfl, rfl⟩)
        go_ret
        exact ⟨by rw [HR.out]; rfl, HB.out⟩
    · have HR := hideIt (evB_f (i := i) (o := o) (a := a) (b := b) (show ¬ (1 ≤ sh ∧ sh ≤ 3 ∧ 1 ≤ k ∧ k ≤ 7 ∧ 0 ≤ nd ∧ nd ≤ sh ∧ 0 ≤ t ∧ n ≤ 30) by omega))
      have H0 := hideIt (fun u => evSh_q sh true (by simp; omega) u)
      have d1 : decide (1 ≤ k) = false := by simpa using c1
      clear c0 c1
      go_enter Tryd.func49, Tryd.ntmps49
      go_upto_region 1 with fail
      rw [← hW1]
      clear hW1
      go_wp2_with (go_at_call 58; refine (H0.out _).mono ?_; rintro e w1 ⟨rfl, rfl⟩)
      go_ret
      exact ⟨by rw [HR.out]; rfl, HB.out⟩
  · have HR := hideIt (evB_f (i := i) (o := o) (a := a) (b := b) (show ¬ (1 ≤ sh ∧ sh ≤ 3 ∧ 1 ≤ k ∧ k ≤ 7 ∧ 0 ≤ nd ∧ nd ≤ sh ∧ 0 ≤ t ∧ n ≤ 30) by omega))
    have H0 := hideIt (fun u => evSh_q sh false (by simp; omega) u)
    clear c0
    go_enter Tryd.func49, Tryd.ntmps49
    go_upto_region 1 with fail
    rw [← hW1]
    clear hW1
    go_wp2_with (go_at_call 58; refine (H0.out _).mono ?_; rintro e w1 ⟨rfl, rfl⟩)
    go_ret
    exact ⟨by rw [HR.out]; rfl, HB.out⟩
set_option maxRecDepth 100000 in
set_option maxHeartbeats 4000000 in
theorem sEventOk_any (sh k nd t i o a b : Int) (cut : Bool) (ad : Option Addr) (n c : Nat) (w : World) : Calls Tryd.prog 24 #[.int .i64 sh, .agg #[.int .i64 k, .int .i64 nd, .int .i64 t, .int .i64 i, .int .i64 o, .int .i64 a, .int .i64 b, .bool cut, .slice ad n c]] w fun e w' => e = .returned (.bool (evB sh k nd t i o a b n)) ∧ Below w.heap.size w w' := by
  obtain ⟨W1, hW1⟩ : ∃ W1, W1 = w.alloc (.cells #[.int .i64 k, .int .i64 nd, .int .i64 t, .int .i64 i, .int .i64 o, .int .i64 a, .int .i64 b, .bool cut, .slice ad n c] 57) := ⟨_, rfl⟩
  have bW := belA w (.cells #[.int .i64 k, .int .i64 nd, .int .i64 t, .int .i64 i, .int .i64 o, .int .i64 a, .int .i64 b, .bool cut, .slice ad n c] 57)
  have X := BxA.new w 57 #[.int .i64 k, .int .i64 nd, .int .i64 t, .int .i64 i, .int .i64 o, .int .i64 a, .int .i64 b, .bool cut, .slice ad n c]
  rw [← hW1] at bW X
  have HB := hideIt bW
  have x0 := X.cell 0 rfl
  have x1 := X.cell 1 rfl
  have x2 := X.cell 2 rfl
  have x3 := X.cell 3 rfl
  have x4 := X.cell 4 rfl
  have x5 := X.cell 5 rfl
  have x6 := X.cell 6 rfl
  have x8 := X.cell 8 rfl
  have xl := X.lt
  clear X bW
  by_cases c0 : 1 ≤ sh ∧ sh ≤ 3
  · by_cases c1 : 1 ≤ k ∧ k ≤ 7
    · by_cases c2 : 0 ≤ nd ∧ nd ≤ sh
      · by_cases c3 : 0 ≤ t
        · by_cases c4 : (n : Int) ≤ 30
          · by_cases c7 : k ≠ 1
            · have HR := hideIt (evB_t (i := i) (o := o) (a := a) (b := b) (show 1 ≤ sh ∧ sh ≤ 3 ∧ 1 ≤ k ∧ k ≤ 7 ∧ 0 ≤ nd ∧ nd ≤ sh ∧ 0 ≤ t ∧ n ≤ 30 by omega))
              have H0 := hideIt (fun u => evIn (x := sh) (l := 1) (r := 3) true (by simp; omega) u)
              have H1 := hideIt (fun u => evIn (x := k) (l := 1) (r := 7) true (by simp; omega) u)
              have H2 := hideIt (fun u => evIn (x := nd) (l := 0) (r := sh) true (by simp; omega) u)
              have d3 : decide (t < 0) = false := by simp; omega
              have d4 : decide (30 < (n : Int)) = false := by simp; omega
              have d7 : (k != 1) = true := by simpa using c7
              have HQ := hideIt d7
              clear c0 c1 c2 c3 c4 c7
              go_enter Tryd.func24, Tryd.ntmps24
              go_upto_region 1 with fail
              rw [← hW1]
              clear hW1
              go_wp2_with (go_at_call 35; refine (H0.out _).mono ?_; rintro e w1 ⟨rfl, rfl⟩; refine Hid.out ?_)
              refine (show ∀ {p : Prop}, p → Hid p from fun h => h) ?_
              go_wp2_with (go_at_call 35; refine (H1.out _).mono ?_; rintro e w1 ⟨rfl, rfl⟩; refine Hid.out ?_)
              refine (show ∀ {p : Prop}, p → Hid p from fun h => h) ?_
              go_wp2_with (go_at_call 35; refine (H2.out _).mono ?_; rintro e w1 ⟨rfl, rfl⟩)
              go_ret
              exact ⟨by rw [HR.out, HQ.out]; rfl, by first | exact HB.out.trans ((belA _ _).mono HB.out.size) | exact HB.out.alloc HB.out.size _⟩
            · by_cases e0 : N1 i
              · by_cases e1 : N0 o
                · by_cases e2 : N0 a
                  · by_cases e3 : N0 b
                    · have HR := hideIt (evB_t (i := i) (o := o) (a := a) (b := b) (show 1 ≤ sh ∧ sh ≤ 3 ∧ 1 ≤ k ∧ k ≤ 7 ∧ 0 ≤ nd ∧ nd ≤ sh ∧ 0 ≤ t ∧ n ≤ 30 by omega))
                      have H0 := hideIt (fun u => evIn (x := sh) (l := 1) (r := 3) true (by simp; omega) u)
                      have H1 := hideIt (fun u => evIn (x := k) (l := 1) (r := 7) true (by simp; omega) u)
                      have H2 := hideIt (fun u => evIn (x := nd) (l := 0) (r := sh) true (by simp; omega) u)
                      have d3 : decide (t < 0) = false := by simp; omega
                      have d4 : decide (30 < (n : Int)) = false := by simp; omega
                      have d7 : (k != 1) = false := by simpa using c7
                      have HQ := hideIt d7
                      have G0 := hideIt (fun u => evIn (x := i) (l := 1) (r := 100000) true (decide_eq_true e0) u)
                      have G1 := hideIt (fun u => evIn (x := o) (l := 0) (r := 100000) true (decide_eq_true e1) u)
                      have G2 := hideIt (fun u => evIn (x := a) (l := 0) (r := 100000) true (decide_eq_true e2) u)
                      have G3 := hideIt (fun u => evIn (x := b) (l := 0) (r := 100000) true (decide_eq_true e3) u)
                      have HA : Hid (akB i o a b = true) := by show _ = _; simp [akB, *]
                      clear c0 c1 c2 c3 c4 c7 e0 e1 e2 e3
                      go_enter Tryd.func24, Tryd.ntmps24
                      go_upto_region 1 with fail
                      rw [← hW1]
                      clear hW1
                      go_wp2_with (go_at_call 35; refine (H0.out _).mono ?_; rintro e w1 ⟨rfl, rfl⟩; refine Hid.out ?_)
                      refine (show ∀ {p : Prop}, p → Hid p from fun h => h) ?_
                      go_wp2_with (go_at_call 35; refine (H1.out _).mono ?_; rintro e w1 ⟨rfl, rfl⟩; refine Hid.out ?_)
                      refine (show ∀ {p : Prop}, p → Hid p from fun h => h) ?_
                      go_wp2_with (go_at_call 35; refine (H2.out _).mono ?_; rintro e w1 ⟨rfl, rfl⟩; refine Hid.out ?_)
                      refine (show ∀ {p : Prop}, p → Hid p from fun h => h) ?_
                      go_wp2_with (go_at_call 35; refine (G0.out _).mono ?_; rintro e w1 ⟨rfl, rfl⟩; refine Hid.out ?_)
                      refine (show ∀ {p : Prop}, p → Hid p from fun h => h) ?_
                      go_wp2_with (go_at_call 35; refine (G1.out _).mono ?_; rintro e w1 ⟨rfl, rfl⟩; refine Hid.out ?_)
                      refine (show ∀ {p : Prop}, p → Hid p from fun h => h) ?_
                      go_wp2_with (go_at_call 35; refine (G2.out _).mono ?_; rintro e w1 ⟨rfl, rfl⟩; refine Hid.out ?_)
                      refine (show ∀ {p : Prop}, p → Hid p from fun h => h) ?_
                      go_wp2_with (go_at_call 35; refine (G3.out _).mono ?_; rintro e w1 ⟨rfl, rfl⟩)
                      go_ret
                      exact ⟨by rw [HR.out, HQ.out, HA.out]; rfl, by first | exact HB.out.trans ((belA _ _).mono HB.out.size) | exact HB.out.alloc HB.out.size _⟩
                    · have HR := hideIt (evB_t (i := i) (o := o) (a := a) (b := b) (show 1 ≤ sh ∧ sh ≤ 3 ∧ 1 ≤ k ∧ k ≤ 7 ∧ 0 ≤ nd ∧ nd ≤ sh ∧ 0 ≤ t ∧ n ≤ 30 by omega))
                      have H0 := hideIt (fun u => evIn (x := sh) (l := 1) (r := 3) true (by simp; omega) u)
                      have H1 := hideIt (fun u => evIn (x := k) (l := 1) (r := 7) true (by simp; omega) u)
                      have H2 := hideIt (fun u => evIn (x := nd) (l := 0) (r := sh) true (by simp; omega) u)
                      have d3 : decide (t < 0) = false := by simp; omega
                      have d4 : decide (30 < (n : Int)) = false := by simp; omega
                      have d7 : (k != 1) = false := by simpa using c7
                      have HQ := hideIt d7
                      have G0 := hideIt (fun u => evIn (x := i) (l := 1) (r := 100000) true (decide_eq_true e0) u)
                      have G1 := hideIt (fun u => evIn (x := o) (l := 0) (r := 100000) true (decide_eq_true e1) u)
                      have G2 := hideIt (fun u => evIn (x := a) (l := 0) (r := 100000) true (decide_eq_true e2) u)
                      have G3 := hideIt (fun u => evIn (x := b) (l := 0) (r := 100000) false (decide_eq_false e3) u)
                      have HA : Hid (akB i o a b = false) := by show _ = _; simp [akB, *]
                      clear c0 c1 c2 c3 c4 c7 e0 e1 e2 e3
                      go_enter Tryd.func24, Tryd.ntmps24
                      go_upto_region 1 with fail
                      rw [← hW1]
                      clear hW1
                      go_wp2_with (go_at_call 35; refine (H0.out _).mono ?_; rintro e w1 ⟨rfl, rfl⟩; refine Hid.out ?_)
                      refine (show ∀ {p : Prop}, p → Hid p from fun h => h) ?_
                      go_wp2_with (go_at_call 35; refine (H1.out _).mono ?_; rintro e w1 ⟨rfl, rfl⟩; refine Hid.out ?_)
                      refine (show ∀ {p : Prop}, p → Hid p from fun h => h) ?_
                      go_wp2_with (go_at_call 35; refine (H2.out _).mono ?_; rintro e w1 ⟨rfl, rfl⟩; refine Hid.out ?_)
                      refine (show ∀ {p : Prop}, p → Hid p from fun h => h) ?_
                      go_wp2_with (go_at_call 35; refine (G0.out _).mono ?_; rintro e w1 ⟨rfl, rfl⟩; refine Hid.out ?_)
                      refine (show ∀ {p : Prop}, p → Hid p from fun h => h) ?_
                      go_wp2_with (go_at_call 35; refine (G1.out _).mono ?_; rintro e w1 ⟨rfl, rfl⟩; refine Hid.out ?_)
                      refine (show ∀ {p : Prop}, p → Hid p from fun h => h) ?_
                      go_wp2_with (go_at_call 35; refine (G2.out _).mono ?_; rintro e w1 ⟨rfl, rfl⟩; refine Hid.out ?_)
                      refine (show ∀ {p : Prop}, p → Hid p from fun h => h) ?_
                      go_wp2_with (go_at_call 35; refine (G3.out _).mono ?_; rintro e w1 ⟨rfl, rfl⟩)
                      go_ret
                      exact ⟨by rw [HR.out, HQ.out, HA.out]; rfl, by first | exact HB.out.trans ((belA _ _).mono HB.out.size) | exact HB.out.alloc HB.out.size _⟩
                  · have HR := hideIt (evB_t (i := i) (o := o) (a := a) (b := b) (show 1 ≤ sh ∧ sh ≤ 3 ∧ 1 ≤ k ∧ k ≤ 7 ∧ 0 ≤ nd ∧ nd ≤ sh ∧ 0 ≤ t ∧ n ≤ 30 by omega))
                    have H0 := hideIt (fun u => evIn (x := sh) (l := 1) (r := 3) true (by simp; omega) u)
                    have H1 := hideIt (fun u => evIn (x := k) (l := 1) (r := 7) true (by simp; omega) u)
                    have H2 := hideIt (fun u => evIn (x := nd) (l := 0) (r := sh) true (by simp; omega) u)
                    have d3 : decide (t < 0) = false := by simp; omega
                    have d4 : decide (30 < (n : Int)) = false := by simp; omega
                    have d7 : (k != 1) = false := by simpa using c7
                    have HQ := hideIt d7
                    have G0 := hideIt (fun u => evIn (x := i) (l := 1) (r := 100000) true (decide_eq_true e0) u)
                    have G1 := hideIt (fun u => evIn (x := o) (l := 0) (r := 100000) true (decide_eq_true e1) u)
                    have G2 := hideIt (fun u => evIn (x := a) (l := 0) (r := 100000) false (decide_eq_false e2) u)
                    have HA : Hid (akB i o a b = false) := by show _ = _; simp [akB, *]
                    clear c0 c1 c2 c3 c4 c7 e0 e1 e2
                    go_enter Tryd.func24, Tryd.ntmps24
                    go_upto_region 1 with fail
                    rw [← hW1]
                    clear hW1
                    go_wp2_with (go_at_call 35; refine (H0.out _).mono ?_; rintro e w1 ⟨rfl, rfl⟩; refine Hid.out ?_)
                    refine (show ∀ {p : Prop}, p → Hid p from fun h => h) ?_
                    go_wp2_with (go_at_call 35; refine (H1.out _).mono ?_; rintro e w1 ⟨rfl, rfl⟩; refine Hid.out ?_)
                    refine (show ∀ {p : Prop}, p → Hid p from fun h => h) ?_
                    go_wp2_with (go_at_call 35; refine (H2.out _).mono ?_; rintro e w1 ⟨rfl, rfl⟩; refine Hid.out ?_)
                    refine (show ∀ {p : Prop}, p → Hid p from fun h => h) ?_
                    go_wp2_with (go_at_call 35; refine (G0.out _).mono ?_; rintro e w1 ⟨rfl, rfl⟩; refine Hid.out ?_)
                    refine (show ∀ {p : Prop}, p → Hid p from fun h => h) ?_
                    go_wp2_with (go_at_call 35; refine (G1.out _).mono ?_; rintro e w1 ⟨rfl, rfl⟩; refine Hid.out ?_)
                    refine (show ∀ {p : Prop}, p → Hid p from fun h => h) ?_
                    go_wp2_with (go_at_call 35; refine (G2.out _).mono ?_; rintro e w1 ⟨rfl, rfl⟩)
                    go_ret
                    exact ⟨by rw [HR.out, HQ.out, HA.out]; rfl, by first | exact HB.out.trans ((belA _ _).mono HB.out.size) | exact HB.out.alloc HB.out.size _⟩
                · have HR := hideIt (evB_t (i := i) (o := o) (a := a) (b := b) (show 1 ≤ sh ∧ sh ≤ 3 ∧ 1 ≤ k ∧ k ≤ 7 ∧ 0 ≤ nd ∧ nd ≤ sh ∧ 0 ≤ t ∧ n ≤ 30 by omega))
                  have H0 := hideIt (fun u => evIn (x := sh) (l := 1) (r := 3) true (by simp; omega) u)
                  have H1 := hideIt (fun u => evIn (x := k) (l := 1) (r := 7) true (by simp; omega) u)
                  have H2 := hideIt (fun u => evIn (x := nd) (l := 0) (r := sh) true (by simp; omega) u)
                  have d3 : decide (t < 0) = false := by simp; omega
                  have d4 : decide (30 < (n : Int)) = false := by simp; omega
                  have d7 : (k != 1) = false := by simpa using c7
                  have HQ := hideIt d7
                  have G0 := hideIt (fun u => evIn (x := i) (l := 1) (r := 100000) true (decide_eq_true e0) u)
                  have G1 := hideIt (fun u => evIn (x := o) (l := 0) (r := 100000) false (decide_eq_false e1) u)
                  have HA : Hid (akB i o a b = false) := by show _ = _; simp [akB, *]
                  clear c0 c1 c2 c3 c4 c7 e0 e1
                  go_enter Tryd.func24, Tryd.ntmps24
                  go_upto_region 1 with fail
                  rw [← hW1]
                  clear hW1
                  go_wp2_with (go_at_call 35; refine (H0.out _).mono ?_; rintro e w1 ⟨rfl, rfl⟩; refine Hid.out ?_)
                  refine (show ∀ {p : Prop}, p → Hid p from fun h => h) ?_
                  go_wp2_with (go_at_call 35; refine (H1.out _).mono ?_; rintro e w1 ⟨rfl, rfl⟩; refine Hid.out ?_)
                  refine (show ∀ {p : Prop}, p → Hid p from fun h => h) ?_
                  go_wp2_with (go_at_call 35; refine (H2.out _).mono ?_; rintro e w1 ⟨rfl, rfl⟩; refine Hid.out ?_)
                  refine (show ∀ {p : Prop}, p → Hid p from fun h => h) ?_
                  go_wp2_with (go_at_call 35; refine (G0.out _).mono ?_; rintro e w1 ⟨rfl, rfl⟩; refine Hid.out ?_)
                  refine (show ∀ {p : Prop}, p → Hid p from fun h => h) ?_
                  go_wp2_with (go_at_call 35; refine (G1.out _).mono ?_; rintro e w1 ⟨rfl, rfl⟩)
                  go_ret
                  exact ⟨by rw [HR.out, HQ.out, HA.out]; rfl, by first | exact HB.out.trans ((belA _ _).mono HB.out.size) | exact HB.out.alloc HB.out.size _⟩
              · have HR := hideIt (evB_t (i := i) (o := o) (a := a) (b := b) (show 1 ≤ sh ∧ sh ≤ 3 ∧ 1 ≤ k ∧ k ≤ 7 ∧ 0 ≤ nd ∧ nd ≤ sh ∧ 0 ≤ t ∧ n ≤ 30 by omega))
                have H0 := hideIt (fun u => evIn (x := sh) (l := 1) (r := 3) true (by simp; omega) u)
                have H1 := hideIt (fun u => evIn (x := k) (l := 1) (r := 7) true (by simp; omega) u)
                have H2 := hideIt (fun u => evIn (x := nd) (l := 0) (r := sh) true (by simp; omega) u)
                have d3 : decide (t < 0) = false := by simp; omega
                have d4 : decide (30 < (n : Int)) = false := by simp; omega
                have d7 : (k != 1) = false := by simpa using c7
                have HQ := hideIt d7
                have G0 := hideIt (fun u => evIn (x := i) (l := 1) (r := 100000) false (decide_eq_false e0) u)
                have HA : Hid (akB i o a b = false) := by show _ = _; simp [akB, *]
                clear c0 c1 c2 c3 c4 c7 e0
                go_enter Tryd.func24, Tryd.ntmps24
                go_upto_region 1 with fail
                rw [← hW1]
                clear hW1
                go_wp2_with (go_at_call 35; refine (H0.out _).mono ?_; rintro e w1 ⟨rfl, rfl⟩; refine Hid.out ?_)
                refine (show ∀ {p : Prop}, p → Hid p from fun h => h) ?_
                go_wp2_with (go_at_call 35; refine (H1.out _).mono ?_; rintro e w1 ⟨rfl, rfl⟩; refine Hid.out ?_)
                refine (show ∀ {p : Prop}, p → Hid p from fun h => h) ?_
                go_wp2_with (go_at_call 35; refine (H2.out _).mono ?_; rintro e w1 ⟨rfl, rfl⟩; refine Hid.out ?_)
                refine (show ∀ {p : Prop}, p → Hid p from fun h => h) ?_
                go_wp2_with (go_at_call 35; refine (G0.out _).mono ?_; rintro e w1 ⟨rfl, rfl⟩)
                go_ret
                exact ⟨by rw [HR.out, HQ.out, HA.out]; rfl, by first | exact HB.out.trans ((belA _ _).mono HB.out.size) | exact HB.out.alloc HB.out.size _⟩
          · have HR := hideIt (evB_f (i := i) (o := o) (a := a) (b := b) (show ¬ (1 ≤ sh ∧ sh ≤ 3 ∧ 1 ≤ k ∧ k ≤ 7 ∧ 0 ≤ nd ∧ nd ≤ sh ∧ 0 ≤ t ∧ n ≤ 30) by omega))
            have H0 := hideIt (fun u => evIn (x := sh) (l := 1) (r := 3) true (by simp; omega) u)
            have H1 := hideIt (fun u => evIn (x := k) (l := 1) (r := 7) true (by simp; omega) u)
            have H2 := hideIt (fun u => evIn (x := nd) (l := 0) (r := sh) true (by simp; omega) u)
            have d3 : decide (t < 0) = false := by simp; omega
            have d4 : decide (30 < (n : Int)) = true := by simp; omega
            clear c0 c1 c2 c3 c4
            go_enter Tryd.func24, Tryd.ntmps24
            go_upto_region 1 with fail
            rw [← hW1]
            clear hW1
            go_wp2_with (go_at_call 35; refine (H0.out _).mono ?_; rintro e w1 ⟨rfl, rfl⟩; refine Hid.out ?_)
            refine (show ∀ {p : Prop}, p → Hid p from fun h => h) ?_
            go_wp2_with (go_at_call 35; refine (H1.out _).mono ?_; rintro e w1 ⟨rfl, rfl⟩; refine Hid.out ?_)
            refine (show ∀ {p : Prop}, p → Hid p from fun h => h) ?_
            go_wp2_with (go_at_call 35; refine (H2.out _).mono ?_; rintro e w1 ⟨rfl, rfl⟩)
            go_ret
            exact ⟨by rw [HR.out]; rfl, HB.out⟩
        · have HR := hideIt (evB_f (i := i) (o := o) (a := a) (b := b) (show ¬ (1 ≤ sh ∧ sh ≤ 3 ∧ 1 ≤ k ∧ k ≤ 7 ∧ 0 ≤ nd ∧ nd ≤ sh ∧ 0 ≤ t ∧ n ≤ 30) by omega))
          have H0 := hideIt (fun u => evIn (x := sh) (l := 1) (r := 3) true (by simp; omega) u)
          have H1 := hideIt (fun u => evIn (x := k) (l := 1) (r := 7) true (by simp; omega) u)
          have H2 := hideIt (fun u => evIn (x := nd) (l := 0) (r := sh) true (by simp; omega) u)
          have d3 : decide (t < 0) = true := by simp; omega
          clear c0 c1 c2 c3
          go_enter Tryd.func24, Tryd.ntmps24
          go_upto_region 1 with fail
          rw [← hW1]
          clear hW1
          go_wp2_with (go_at_call 35; refine (H0.out _).mono ?_; rintro e w1 ⟨rfl, rfl⟩; refine Hid.out ?_)
          refine (show ∀ {p : Prop}, p → Hid p from fun h => h) ?_
          go_wp2_with (go_at_call 35; refine (H1.out _).mono ?_; rintro e w1 ⟨rfl, rfl⟩; refine Hid.out ?_)
          refine (show ∀ {p : Prop}, p → Hid p from fun h => h) ?_
          go_wp2_with (go_at_call 35; refine (H2.out _).mono ?_; rintro e w1 ⟨rfl, rfl⟩)
          go_ret
          exact ⟨by rw [HR.out]; rfl, HB.out⟩
      · have HR := hideIt (evB_f (i := i) (o := o) (a := a) (b := b) (show ¬ (1 ≤ sh ∧ sh ≤ 3 ∧ 1 ≤ k ∧ k ≤ 7 ∧ 0 ≤ nd ∧ nd ≤ sh ∧ 0 ≤ t ∧ n ≤ 30) by omega))
        have H0 := hideIt (fun u => evIn (x := sh) (l := 1) (r := 3) true (by simp; omega) u)
        have H1 := hideIt (fun u => evIn (x := k) (l := 1) (r := 7) true (by simp; omega) u)
        have H2 := hideIt (fun u => evIn (x := nd) (l := 0) (r := sh) false (by simp; omega) u)
        clear c0 c1 c2
        go_enter Tryd.func24, Tryd.ntmps24
        go_upto_region 1 with fail
        rw [← hW1]
        clear hW1
        go_wp2_with (go_at_call 35; refine (H0.out _).mono ?_; rintro e w1 ⟨rfl, rfl⟩; refine Hid.out ?_)
        refine (show ∀ {p : Prop}, p → Hid p from fun h => h) ?_
        go_wp2_with (go_at_call 35; refine (H1.out _).mono ?_; rintro e w1 ⟨rfl, rfl⟩; refine Hid.out ?_)
        refine (show ∀ {p : Prop}, p → Hid p from fun h => h) ?_
        go_wp2_with (go_at_call 35; refine (H2.out _).mono ?_; rintro e w1 ⟨rfl, rfl⟩)
        go_ret
        exact ⟨by rw [HR.out]; rfl, HB.out⟩
    · have HR := hideIt (evB_f (i := i) (o := o) (a := a) (b := b) (show ¬ (1 ≤ sh ∧ sh ≤ 3 ∧ 1 ≤ k ∧ k ≤ 7 ∧ 0 ≤ nd ∧ nd ≤ sh ∧ 0 ≤ t ∧ n ≤ 30) by omega))
      have H0 := hideIt (fun u => evIn (x := sh) (l := 1) (r := 3) true (by simp; omega) u)
      have H1 := hideIt (fun u => evIn (x := k) (l := 1) (r := 7) false (by simp; omega) u)
      clear c0 c1
      go_enter Tryd.func24, Tryd.ntmps24
      go_upto_region 1 with fail
      rw [← hW1]
      clear hW1
      go_wp2_with (go_at_call 35; refine (H0.out _).mono ?_; rintro e w1 ⟨rfl, rfl⟩; refine Hid.out ?_)
      refine (show ∀ {p : Prop}, p → Hid p from fun h => h) ?_
      go_wp2_with (go_at_call 35; refine (H1.out _).mono ?_; rintro e w1 ⟨rfl, rfl⟩)
      go_ret
      exact ⟨by rw [HR.out]; rfl, HB.out⟩
  · have HR := hideIt (evB_f (i := i) (o := o) (a := a) (b := b) (show ¬ (1 ≤ sh ∧ sh ≤ 3 ∧ 1 ≤ k ∧ k ≤ 7 ∧ 0 ≤ nd ∧ nd ≤ sh ∧ 0 ≤ t ∧ n ≤ 30) by omega))
    have H0 := hideIt (fun u => evIn (x := sh) (l := 1) (r := 3) false (by simp; omega) u)
    clear c0
    go_enter Tryd.func24, Tryd.ntmps24
    go_upto_region 1 with fail
    rw [← hW1]
    clear hW1
    go_wp2_with (go_at_call 35; refine (H0.out _).mono ?_; rintro e w1 ⟨rfl, rfl⟩)
    go_ret
    exact ⟨by rw [HR.out]; rfl, HB.out⟩
end Go.Proofs.YtgdlpmmbeacejaaDoor
