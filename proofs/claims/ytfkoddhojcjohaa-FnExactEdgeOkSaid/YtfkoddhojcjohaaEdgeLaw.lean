/- The walk of FnExactEdgeOk. -/
import Derived.Test.YtfkoddhojcjohaaLawG
namespace Go.Proofs.Ytfkoddhojcjohaa
open Go.RowKit

set_option maxRecDepth 100000 in
set_option maxHeartbeats 4000000 in
theorem fnExactEdgeOk.walk (n : Int) (_hn : (Lit.int .i64 n).wf = true) (f : EdgeV) (_hf : FitE f) (w : World) :
    Calls Try.prog 5 #[.int .i64 n, .agg #[.int .i64 f.1, .int .i64 f.2]] w fun e w' => e = .returned (.bool true) ∧ Below w.heap.size w w' := by
  have S0 : Good w (w.alloc (.cells #[.int .i64 f.1, .int .i64 f.2] 42)) := (Good.refl w).alloc _
  have HT : Hid (∀ u, Good (w.alloc (.cells #[.int .i64 f.1, .int .i64 f.2] 42)) u → Calls Try.prog 25 #[.agg #[.int .i64 f.1, .int .i64 f.2]] u fun e v => e = .returned (.agg #[.int .i64 f.1, .int .i64 f.2]) ∧ Good (w.alloc (.cells #[.int .i64 f.1, .int .i64 f.2] 42)) v) := fun u hu =>
    (toEdge_any f u).mono fun _ _ ⟨he, hb⟩ => ⟨he, hu.up hb⟩
  have HS : Hid (∀ u, Good (w.alloc (.cells #[.int .i64 f.1, .int .i64 f.2] 42)) u → Calls Try.prog 24 #[.int .i64 n, .agg #[.int .i64 f.1, .int .i64 f.2]] u fun e v => e = .returned (.bool (eB n f)) ∧ Good (w.alloc (.cells #[.int .i64 f.1, .int .i64 f.2] 42)) v) := fun u hu =>
    (sEdgeOk_any n f u).mono fun _ _ ⟨he, hb⟩ => ⟨he, hu.up hb⟩
  have HI : Hid (∀ u, Good (w.alloc (.cells #[.int .i64 f.1, .int .i64 f.2] 42)) u → Calls Try.prog 14 #[.int .i64 n, .agg #[.int .i64 f.1, .int .i64 f.2]] u fun e v => e = .returned (.bool (eB n f)) ∧ Good (w.alloc (.cells #[.int .i64 f.1, .int .i64 f.2] 42)) v) := fun u hu =>
    (iEdgeOk_any n f u).mono fun _ _ ⟨he, hb⟩ => ⟨he, hu.up hb⟩
  have HK : Hid (∀ u, Good (w.alloc (.cells #[.int .i64 f.1, .int .i64 f.2] 42)) u → u.cell? ⟨w.heap.size, 0, none⟩ = some (.int .i64 f.1) ∧ u.cell? ⟨w.heap.size, 1, none⟩ = some (.int .i64 f.2)) := fun u hu =>
    ⟨by rw [hu.cell (by simp)]; simp, by rw [hu.cell (by simp)]; simp⟩
  have HZ : Hid (∀ u, Good (w.alloc (.cells #[.int .i64 f.1, .int .i64 f.2] 42)) u → Below w.heap.size w u) := fun u hu => Below.trans S0 (Below.mono hu (by simp))
  have S1 := Good.refl (w.alloc (.cells #[.int .i64 f.1, .int .i64 f.2] 42))
  clear S0
  generalize eB n f = r at HS HI
  go_enter Try.func5, Try.ntmps5
  go_wp2_with (go_at_call 25; refine (HT.out _ S1).mono ?_; rintro e w2 ⟨rfl, S2⟩; refine Hid.out ?_)
  refine (show ∀ {p : Prop}, p → Hid p from fun h => h) ?_
  go_wp2_with (go_at_call 24; refine (HS.out _ S2).mono ?_; rintro e w3 ⟨rfl, S3⟩; refine Hid.out ?_)
  refine (show ∀ {p : Prop}, p → Hid p from fun h => h) ?_
  obtain ⟨k0, k1⟩ := HK.out _ S3
  go_wp2_with (go_at_call 25; refine (HT.out _ S3).mono ?_; rintro e w4 ⟨rfl, S4⟩; refine Hid.out ?_)
  refine (show ∀ {p : Prop}, p → Hid p from fun h => h) ?_
  go_wp2_with (go_at_call 14; refine (HI.out _ S4).mono ?_; rintro e w5 ⟨rfl, S5⟩; refine Hid.out ?_)
  refine (show ∀ {p : Prop}, p → Hid p from fun h => h) ?_
  have dr : (r != r) = false := by simp
  go_wp2
  go_ret
  exact ⟨rfl, HZ.out _ S5⟩
end Go.Proofs.Ytfkoddhojcjohaa
