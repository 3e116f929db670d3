/- The walk of FnExactWebNew. -/
import Derived.Test.YtgjngaaibcmgmaaKEdgeI6
import Derived.Deep.DeepCutAuto
namespace Go.Proofs.Ytgjngaaibcmgmaa
open Go.RowKit

/-- what WebNew answers -/
def wnM (n : Int) : Int := if 1 ≤ n ∧ n ≤ 12 then n else 0
def wnB (n : Int) : Bool := decide (1 ≤ n ∧ n ≤ 12)
theorem sWebNew_any (n : Int) (w : World) : Calls Try.prog 5 #[.int .i64 n] w fun e w' => e = .returned (.tuple #[.agg #[.int .i64 (wnM n), .slice none 0 0], .bool (wnB n)]) ∧ Below w.heap.size w w' := by
  by_cases h : 1 ≤ n ∧ n ≤ 12
  · have e1 : wnM n = n := by unfold wnM; rw [if_pos h]
    have e2 : wnB n = true := decide_eq_true h
    rw [e1, e2]
    have HI : Hid (∀ u, Calls Try.prog 17 #[.int .i64 n, .int .i64 1, .int .i64 12] u fun e w' => e = .returned (.bool true) ∧ w' = u) := fun u => by
      have := l01In_any n 1 12 u
      rw [decide_eq_true h] at this
      exact this
    clear e1 e2
    go_enter Try.func5, Try.ntmps5
    go_wp2_with (go_at_call 17; refine (HI.out _).mono ?_; rintro e w1 ⟨rfl, rfl⟩)
    exact bodyPost_ret (v := .tuple #[.agg #[.int .i64 n, .slice none 0 0], .bool true]) (by simp [results, Try.results5, go_sem]) rfl ⟨rfl, (Below.refl _ _).alloc (Nat.le_refl _) _⟩
  · have e1 : wnM n = 0 := by unfold wnM; rw [if_neg h]
    have e2 : wnB n = false := decide_eq_false h
    rw [e1, e2]
    have HI : Hid (∀ u, Calls Try.prog 17 #[.int .i64 n, .int .i64 1, .int .i64 12] u fun e w' => e = .returned (.bool false) ∧ w' = u) := fun u => by
      have := l01In_any n 1 12 u
      rw [decide_eq_false h] at this
      exact this
    clear e1 e2
    go_enter Try.func5, Try.ntmps5
    go_wp2_with (go_at_call 17; refine (HI.out _).mono ?_; rintro e w1 ⟨rfl, rfl⟩)
    exact bodyPost_ret (v := .tuple #[.agg #[.int .i64 0, .slice none 0 0], .bool false]) (by simp [results, Try.results5, go_sem]) rfl ⟨rfl, (Below.refl _ _).alloc (Nat.le_refl _) _⟩
theorem iWebNew_any (n : Int) (w : World) : Calls Try.prog 6 #[.int .i64 n] w fun e w' => e = .returned (.tuple #[.agg #[.int .i64 (wnM n), .slice none 0 0], .bool (wnB n)]) ∧ Below w.heap.size w w' := by
  by_cases h : 1 ≤ n ∧ n ≤ 12
  · have e1 : wnM n = n := by unfold wnM; rw [if_pos h]
    have e2 : wnB n = true := decide_eq_true h
    rw [e1, e2]
    have HI : Hid (∀ u, Calls Try.prog 18 #[.int .i64 n] u fun e w' => e = .returned (.bool true) ∧ w' = u) := fun u => by
      have := vertsOk_any n u
      rw [decide_eq_true h] at this
      exact this
    clear e1 e2
    go_enter Try.func6, Try.ntmps6
    go_wp2_with (go_at_call 18; refine (HI.out _).mono ?_; rintro e w1 ⟨rfl, rfl⟩)
    exact bodyPost_ret (v := .tuple #[.agg #[.int .i64 n, .slice none 0 0], .bool true]) (by simp [results, Try.results6, go_sem]) rfl ⟨rfl, (Below.refl _ _).alloc (Nat.le_refl _) _⟩
  · have e1 : wnM n = 0 := by unfold wnM; rw [if_neg h]
    have e2 : wnB n = false := decide_eq_false h
    rw [e1, e2]
    have HI : Hid (∀ u, Calls Try.prog 18 #[.int .i64 n] u fun e w' => e = .returned (.bool false) ∧ w' = u) := fun u => by
      have := vertsOk_any n u
      rw [decide_eq_false h] at this
      exact this
    clear e1 e2
    go_enter Try.func6, Try.ntmps6
    go_wp2_with (go_at_call 18; refine (HI.out _).mono ?_; rintro e w1 ⟨rfl, rfl⟩)
    exact bodyPost_ret (v := .tuple #[.agg #[.int .i64 0, .slice none 0 0], .bool false]) (by simp [results, Try.results6, go_sem]) rfl ⟨rfl, (Below.refl _ _).alloc (Nat.le_refl _) _⟩
theorem ls_none (w : World) (k0 : Nat) : Ls w w.heap.size none 0 (lmarks k0 0) := ⟨rfl, .inl rfl⟩
set_option maxRecDepth 100000 in
set_option maxHeartbeats 4000000 in
theorem fnExactWebNew.walk (n : Int) (_hn : (Lit.int .i64 n).wf = true) (w : World) :
    Calls Try.prog 3 #[.int .i64 n] w fun e w' => e = .returned (.bool true) ∧ Below w.heap.size w w' := by
  have HS := hideIt (fun u (hu : Good w u) => (sWebNew_any n u).mono fun e v ⟨h1, h2⟩ => And.intro h1 (hu.up h2))
  have HI := hideIt (fun u (hu : Good w u) => (iWebNew_any n u).mono fun e v ⟨h1, h2⟩ => And.intro h1 (And.intro (hu.up h2) (show Good u v from h2)))
  have HE := hideIt (fun M u => eqWeb_same M [] 0 none none 0 0 (by omega) u ⟨rfl, .inl rfl⟩ ⟨rfl, .inl rfl⟩)
  have HM := hideIt (fun M u => markWeb_zero M none 0 1 u)
  have HH : Hid (∀ (M : Int) (u : World), Calls Try.prog 9 #[.agg #[.int .i64 M, .slice none 0 0], .int .i64 1] u fun e v => e = .returned (.int .i64 1) ∧ Below u.heap.size u v) := fun M u => (heldWeb_any M 0 1 none 0 (by omega) (by omega) u (ls_none u 1)).mono fun e v ⟨h1, h2⟩ => ⟨by rw [h1]; rfl, h2⟩
  have d0 : ∀ b : Bool, (b != b) = false := fun b => by cases b <;> rfl
  have dB := d0 (wnB n)
  generalize wnM n = M at *
  generalize wnB n = B at *
  go_enter Try.func3, Try.ntmps3
  go_wp2_with (go_at_call 5; refine (HS.out _ (Good.refl _)).mono ?_; rintro e w1 ⟨rfl, g1⟩; refine Hid.out ?_)
  refine (show ∀ {p : Prop}, p → Hid p from fun h => h) ?_
  have H1 := hideIt (HI.out _ (g1.alloc (.cells #[.int .i64 M, .slice none 0 0] 24)))
  go_wp2_with (go_at_call 6; refine H1.out.mono ?_; rintro e w2 ⟨rfl, g2, g12⟩; refine Hid.out ?_)
  refine (show ∀ {p : Prop}, p → Hid p from fun h => h) ?_
  have bw : Hid (∀ u, Good (w1.alloc (.cells #[.int .i64 M, .slice none 0 0] 24)) u → u.cell? ⟨w1.heap.size, 0, none⟩ = some (.int .i64 M) ∧ u.cell? ⟨w1.heap.size, 1, none⟩ = some (.slice none 0 0)) := fun u hu => ⟨by rw [hu.cell (by simp)]; simp, by rw [hu.cell (by simp)]; simp⟩
  have g3 := g2.alloc (.cells #[.int .i64 M, .slice none 0 0] 24)
  have g13 := g12.alloc (.cells #[.int .i64 M, .slice none 0 0] 24)
  have bg : Hid (∀ u, Good (w2.alloc (.cells #[.int .i64 M, .slice none 0 0] 24)) u → u.cell? ⟨w2.heap.size, 0, none⟩ = some (.int .i64 M) ∧ u.cell? ⟨w2.heap.size, 1, none⟩ = some (.slice none 0 0)) := fun u hu => ⟨by rw [hu.cell (by simp)]; simp, by rw [hu.cell (by simp)]; simp⟩
  obtain ⟨x0, x1⟩ := bw.out _ g13
  clear H1
  go_wp2_with (go_at_call 7; refine (HE.out M _).mono ?_; rintro e w3 ⟨rfl, hb3⟩; refine Hid.out ?_)
  refine (show ∀ {p : Prop}, p → Hid p from fun h => h) ?_
  have k3 : Good (w2.alloc (.cells #[.int .i64 M, .slice none 0 0] 24)) w3 := hb3
  obtain ⟨y0, y1⟩ := bg.out _ k3
  clear x0 x1
  go_wp2_with (go_at_call 8; refine (HM.out M _).mono ?_; rintro e w4 ⟨rfl, hb4⟩; refine Hid.out ?_)
  refine (show ∀ {p : Prop}, p → Hid p from fun h => h) ?_
  have k4 := k3.up hb4
  obtain ⟨y2, y3⟩ := bg.out _ k4
  clear y0 y1
  go_wp2_with (go_at_call 9; refine (HH.out M _).mono ?_; rintro e w5 ⟨rfl, hb5⟩; refine Hid.out ?_)
  refine (show ∀ {p : Prop}, p → Hid p from fun h => h) ?_
  have k5 := k4.up hb5
  have H5 := hideIt (HI.out _ (g3.up k5))
  clear y2 y3
  go_wp2_with (go_at_call 6; refine H5.out.mono ?_; rintro e w6 ⟨rfl, g6, g56⟩; refine Hid.out ?_)
  refine (show ∀ {p : Prop}, p → Hid p from fun h => h) ?_
  have k6 := (k5.up g56).alloc (.cells #[.int .i64 M, .slice none 0 0] 24)
  obtain ⟨x0, x1⟩ := bw.out _ (g13.up k6)
  obtain ⟨y0, y1⟩ := bg.out _ k6
  clear H5
  go_wp2_with (go_at_call 7; refine (HE.out M _).mono ?_; rintro e w7 ⟨rfl, hb7⟩; refine Hid.out ?_)
  refine (show ∀ {p : Prop}, p → Hid p from fun h => h) ?_
  have k7 := k6.up hb7
  obtain ⟨y2, y3⟩ := bg.out _ k7
  clear x0 x1 y0 y1
  go_wp2_with (go_at_call 9; refine (HH.out M _).mono ?_; rintro e w8 ⟨rfl, hb8⟩)
  go_ret
  exact ⟨rfl, g3.up (k7.up hb8)⟩
end Go.Proofs.Ytgjngaaibcmgmaa
