/- The walk of FnExactHasEdge. -/
import Derived.Test.YtfkoddhojcjohaaLawG
import Derived.Test.YtfkoddhojcjohaaSHas
import Derived.Test.YtfkoddhojcjohaaIHas
namespace Go.Proofs.Ytfkoddhojcjohaa
open Go.RowKit

/-- the world behind the law's boxes -/
def lwHasEdge (w : World) (N : Int) (a : Option Addr) (n c : Nat) (f : EdgeV) : World := (w.alloc (.cells #[.int .i64 N, .slice a n c] 47)).alloc (.cells #[.int .i64 f.1, .int .i64 f.2] 42)
set_option maxRecDepth 100000 in
set_option maxHeartbeats 4000000 in
theorem fnExactHasEdge.walk (N : Int) (_hN : (Lit.int .i64 N).wf = true) (fs : List EdgeV) (_hft : ∀ f ∈ fs, FitE f) (n : Nat) (a : Option Addr) (c : Nat) (hn : n ≤ maxLen) (f : EdgeV) (_hf : FitE f) (w : World) (h : Es w w.heap.size a n fs) :
    Calls Try.prog 7 #[.agg #[.int .i64 N, .slice a n c], .agg #[.int .i64 f.1, .int .i64 f.2]] w fun e w' => e = .returned (.bool true) ∧ Below w.heap.size w w' := by
  have bel : Below w.heap.size w (lwHasEdge w N a n c f) := ((Below.refl _ _).alloc (Nat.le_refl _) _).alloc (by simp) _
  have hsz : (lwHasEdge w N a n c f).heap.size = w.heap.size + 2 := by simp [lwHasEdge]
  have fA : Es (lwHasEdge w N a n c f) (lwHasEdge w N a n c f).heap.size a n fs := (h.below bel (Nat.le_refl _)).mono (by omega)
  have q0 : (lwHasEdge w N a n c f).cell? ⟨w.heap.size, 0, none⟩ = some (.int .i64 N) := by simp [lwHasEdge, go_sem]
  have q1 : (lwHasEdge w N a n c f).cell? ⟨w.heap.size, 1, none⟩ = some (.slice a n c) := by simp [lwHasEdge, go_sem]
  have q2 : (lwHasEdge w N a n c f).cell? ⟨w.heap.size + 1, 0, none⟩ = some (.int .i64 f.1) := by simp [lwHasEdge, go_sem]
  have q3 : (lwHasEdge w N a n c f).cell? ⟨w.heap.size + 1, 1, none⟩ = some (.int .i64 f.2) := by simp [lwHasEdge, go_sem]
  have HZ : Hid (∀ u, Good (lwHasEdge w N a n c f) u → Below w.heap.size w u) := fun u hu => bel.trans (Below.mono hu (by omega))
  have HK : Hid (∀ u, Good (lwHasEdge w N a n c f) u → (u.cell? ⟨w.heap.size, 0, none⟩ = some (.int .i64 N) ∧ u.cell? ⟨w.heap.size, 1, none⟩ = some (.slice a n c)) ∧ u.cell? ⟨w.heap.size + 1, 0, none⟩ = some (.int .i64 f.1) ∧ u.cell? ⟨w.heap.size + 1, 1, none⟩ = some (.int .i64 f.2)) := fun u hu =>
    ⟨⟨by rw [hu.cell (by omega)]; exact q0, by rw [hu.cell (by omega)]; exact q1⟩, by rw [hu.cell (by omega)]; exact q2, by rw [hu.cell (by omega)]; exact q3⟩
  have HSZ : Hid (∀ u, Good (lwHasEdge w N a n c f) u → Calls Try.prog 26 #[.agg #[.int .i64 N, .slice a n c], .int .i64 1048576] u fun e v => e = .returned (.int .i64 (if n ≤ 1048576 then 1048576 - (n : Int) else -1)) ∧ Good (lwHasEdge w N a n c f) v) := fun u hu =>
    (szGraph_any N n a c hn u).mono fun _ _ ⟨he, hb⟩ => ⟨he, hu.up hb⟩
  by_cases g : n ≤ 1048576
  · rw [if_pos g] at HSZ
    have HT : Hid (∀ u, Good (lwHasEdge w N a n c f) u → Calls Try.prog 27 #[.agg #[.int .i64 N, .slice a n c]] u fun e v => ∃ g, e = .returned (.agg #[.int .i64 N, .slice (some ⟨g, 0, none⟩) n n]) ∧ Es v v.heap.size (some ⟨g, 0, none⟩) n fs ∧ Good (lwHasEdge w N a n c f) v ∧ u.heap.size ≤ v.heap.size ∧ Below u.heap.size u v) := fun u hu =>
      (toGraph_any N fs n a c g u (hu.es fA)).mono fun _ _ ⟨g, he, ho, hb⟩ => ⟨g, he, Es_of_own ho, hu.up hb, hb.size, hb⟩
    have HTE : Hid (∀ u0 u, Good u0 u → Calls Try.prog 25 #[.agg #[.int .i64 f.1, .int .i64 f.2]] u fun e v => e = .returned (.agg #[.int .i64 f.1, .int .i64 f.2]) ∧ Good u0 v ∧ Below u.heap.size u v) := fun u0 u hu =>
      (toEdge_any f u).mono fun _ _ ⟨he, hb⟩ => ⟨he, hu.up hb, hb⟩
    have HS : Hid (∀ u b, Good (lwHasEdge w N a n c f) u → Es u u.heap.size (some ⟨b, 0, none⟩) n fs → Calls Try.prog 23 #[.agg #[.int .i64 N, .slice (some ⟨b, 0, none⟩) n n], .agg #[.int .i64 f.1, .int .i64 f.2]] u fun e v => e = .returned (.bool (hasB fs f)) ∧ Good (lwHasEdge w N a n c f) v) := fun u b hu hf =>
      (sHasEdge_any N fs f n _ n g u hf).mono fun _ _ ⟨he, hb⟩ => ⟨he, hu.up hb⟩
    have HI : Hid (∀ u b, Good (lwHasEdge w N a n c f) u → Es u u.heap.size (some ⟨b, 0, none⟩) n fs → Calls Try.prog 12 #[.agg #[.int .i64 N, .slice (some ⟨b, 0, none⟩) n n], .agg #[.int .i64 f.1, .int .i64 f.2]] u fun e v => e = .returned (.bool (hasB fs f)) ∧ Below u.heap.size u v) := fun u b hu hf =>
      (iHasEdge_any N fs f n _ n g u hf)
    have d1 : decide (1048576 - (n : Int) < 0) = false := decide_eq_false (by omega)
    have S1 := Good.refl (lwHasEdge w N a n c f)
    have zlw := hsz
    have ZL : Hid (w.heap.size < (lwHasEdge w N a n c f).heap.size) := by show _ < _; omega
    clear bel fA h hsz zlw
    generalize (hasB fs f) = r at HS HI
    go_enter Try.func7, Try.ntmps7
    go_wp2_with (go_at_call 26; refine (HSZ.out _ S1).mono ?_; rintro e w2 ⟨rfl, S2⟩; refine Hid.out ?_)
    refine (show ∀ {p : Prop}, p → Hid p from fun h => h) ?_
    have S2d := S2.drew
    go_wp2
    go_region_held3 (fun u => Good (lwHasEdge w N a n c f) u ∧ (u.cell? ⟨w.heap.size, 0, none⟩ = some (.int .i64 N) ∧ u.cell? ⟨w.heap.size, 1, none⟩ = some (.slice a n c)) ∧ u.cell? ⟨w.heap.size + 1, 0, none⟩ = some (.int .i64 f.1) ∧ u.cell? ⟨w.heap.size + 1, 1, none⟩ = some (.int .i64 f.2))
      (first | exact ⟨S4, HK.out _ S4⟩ | exact ⟨S3b, HK.out _ S3b⟩ | exact ⟨S3, HK.out _ S3⟩ | exact ⟨S2d, HK.out _ S2d⟩)
      (first | (go_at_call 27; refine (HT.out _ S2d).mono ?_; rintro e w3 ⟨g3, rfl, f3, S3, z3, b3⟩) | (go_at_call 25; refine (HTE.out _ _ S3).mono ?_; rintro e w3b ⟨rfl, S3b, b3b⟩) | (go_at_call 23; refine (HS.out _ g3 S3b (f3.up b3b)).mono ?_; rintro e w4 ⟨rfl, S4⟩))
    refine (show ∀ {p : Prop}, Hid p → p from fun h => h) ?_
    refine (show ∀ {p : Prop}, p → Hid p from fun h => h) ?_
    obtain ⟨⟨k0, k1⟩, k2, k3⟩ := HK.out _ S4
    clear f3 z3 b3 S3 S3b b3b S2d S2
    go_wp2_with (go_at_call 27; refine (HT.out _ S4).mono ?_; rintro e w5 ⟨g5, rfl, f5, S5, z5, b5⟩; refine Hid.out ?_)
    refine (show ∀ {p : Prop}, p → Hid p from fun h => h) ?_
    clear k0 k1 k2 k3
    have S5a : Good (lwHasEdge w N a n c f) (w5.alloc (.cells #[.int .i64 N, .slice (some ⟨g5, 0, none⟩) n n] 26)) := S5.alloc _
    have f5a : Es (w5.alloc (.cells #[.int .i64 N, .slice (some ⟨g5, 0, none⟩) n n] 26)) (w5.alloc (.cells #[.int .i64 N, .slice (some ⟨g5, 0, none⟩) n n] 26)).heap.size (some ⟨g5, 0, none⟩) n fs := (f5.alloc (Nat.le_refl _) _).mono (by simp)
    have G5 : Good (w5.alloc (.cells #[.int .i64 N, .slice (some ⟨g5, 0, none⟩) n n] 26)) (w5.alloc (.cells #[.int .i64 N, .slice (some ⟨g5, 0, none⟩) n n] 26)).drew := (Good.refl _).drew
    have HK5 : Hid (∀ u, Good (w5.alloc (.cells #[.int .i64 N, .slice (some ⟨g5, 0, none⟩) n n] 26)) u → (u.cell? ⟨w5.heap.size, 0, none⟩ = some (.int .i64 N) ∧ u.cell? ⟨w5.heap.size, 1, none⟩ = some (.slice (some ⟨g5, 0, none⟩) n n)) ∧ u.cell? ⟨w.heap.size + 1, 0, none⟩ = some (.int .i64 f.1) ∧ u.cell? ⟨w.heap.size + 1, 1, none⟩ = some (.int .i64 f.2)) := fun u hu =>
      ⟨⟨by rw [hu.cell (by simp)]; simp, by rw [hu.cell (by simp)]; simp⟩, (HK.out u (S5a.up hu)).2⟩
    have HI5 : Hid (∀ u, Good (w5.alloc (.cells #[.int .i64 N, .slice (some ⟨g5, 0, none⟩) n n] 26)) u → Calls Try.prog 12 #[.agg #[.int .i64 N, .slice (some ⟨g5, 0, none⟩) n n], .agg #[.int .i64 f.1, .int .i64 f.2]] u fun e v => e = .returned (.bool r) ∧ Good (w5.alloc (.cells #[.int .i64 N, .slice (some ⟨g5, 0, none⟩) n n] 26)) v) := fun u hu =>
      (HI.out u g5 (S5a.up hu) (hu.es f5a)).mono fun _ _ ⟨he, hb⟩ => ⟨he, hu.up hb⟩
    go_wp2
    go_region_held3 (fun u => Good (w5.alloc (.cells #[.int .i64 N, .slice (some ⟨g5, 0, none⟩) n n] 26)) u ∧ (u.cell? ⟨w5.heap.size, 0, none⟩ = some (.int .i64 N) ∧ u.cell? ⟨w5.heap.size, 1, none⟩ = some (.slice (some ⟨g5, 0, none⟩) n n)) ∧ u.cell? ⟨w.heap.size + 1, 0, none⟩ = some (.int .i64 f.1) ∧ u.cell? ⟨w.heap.size + 1, 1, none⟩ = some (.int .i64 f.2))
      (first | exact ⟨b7, HK5.out _ b7⟩ | exact ⟨G6, HK5.out _ G6⟩ | exact ⟨G5, HK5.out _ G5⟩)
      (first | (go_at_call 25; refine (HTE.out _ _ G5).mono ?_; rintro e w6 ⟨rfl, G6, b6⟩) | (go_at_call 12; refine (HI5.out _ G6).mono ?_; rintro e w7 ⟨rfl, b7⟩))
    refine (show ∀ {p : Prop}, Hid p → p from fun h => h) ?_
    refine (show ∀ {p : Prop}, p → Hid p from fun h => h) ?_
    have S6 := S5a
    have f6 := f5a
    have S7 : Good (lwHasEdge w N a n c f) w7 := S6.up b7
    have x0 : w7.cell? ⟨w5.heap.size, 0, none⟩ = some (.int .i64 N) := (HK5.out _ b7).1.1
    have x1 : w7.cell? ⟨w5.heap.size, 1, none⟩ = some (.slice (some ⟨g5, 0, none⟩) n n) := (HK5.out _ b7).1.2
    have z7 : w5.heap.size < w7.heap.size := by have := b7.size; simp at this; omega
    have y7 : w.heap.size < w7.heap.size := Nat.lt_of_lt_of_le ZL.out S7.size
    obtain ⟨⟨k0, k1⟩, k2, k3⟩ := HK.out _ S7
    have f7 := hideIt (f6.up b7)
    have S8 : Good w7 w7.drew := (Good.refl w7).drew
    have HT8 : Hid (∀ u, Good w7 u → Calls Try.prog 27 #[.agg #[.int .i64 N, .slice a n c]] u fun e v => ∃ g, e = .returned (.agg #[.int .i64 N, .slice (some ⟨g, 0, none⟩) n n]) ∧ Es v v.heap.size (some ⟨g, 0, none⟩) n fs ∧ Good w7 v) := fun u hu =>
      (HT.out u (S7.up hu)).mono fun _ _ ⟨g, he, hf, _, _, hb⟩ => ⟨g, he, hf, hu.up hb⟩
    have HE8 : Hid (∀ u g', Good w7 u → Es u u.heap.size (some ⟨g', 0, none⟩) n fs → Calls Try.prog 28 #[.agg #[.int .i64 N, .slice (some ⟨g5, 0, none⟩) n n], .agg #[.int .i64 N, .slice (some ⟨g', 0, none⟩) n n]] u fun e v => e = .returned (.bool true) ∧ Good w7 v) := fun u g' hu hf =>
      (eqGraph_same N fs n _ _ n n g u (hu.es f7.out) hf).mono fun _ _ ⟨he, hb⟩ => ⟨he, hu.up hb⟩
    have HK8 : Hid (∀ u, Good w7 u → (u.cell? ⟨w.heap.size, 0, none⟩ = some (.int .i64 N) ∧ u.cell? ⟨w.heap.size, 1, none⟩ = some (.slice a n c)) ∧ u.cell? ⟨w5.heap.size, 0, none⟩ = some (.int .i64 N) ∧ u.cell? ⟨w5.heap.size, 1, none⟩ = some (.slice (some ⟨g5, 0, none⟩) n n)) := fun u hu =>
      ⟨⟨by rw [hu.cell y7]; exact k0, by rw [hu.cell y7]; exact k1⟩, by rw [hu.cell z7]; exact x0, by rw [hu.cell z7]; exact x1⟩
    have S7z := hideIt (HZ.out _ S7)
    have y8 := hideIt (show w.heap.size ≤ w7.heap.size by omega)
    have dr : (r != r) = false := by simp
    clear f5 f6 b5 b7 z5 S6 S5 S4 S1 G5 G6 b6 S5a f5a k2 k3
    go_wp2
    go_region_held3 (fun u => Good w7 u ∧ (u.cell? ⟨w.heap.size, 0, none⟩ = some (.int .i64 N) ∧ u.cell? ⟨w.heap.size, 1, none⟩ = some (.slice a n c)) ∧ u.cell? ⟨w5.heap.size, 0, none⟩ = some (.int .i64 N) ∧ u.cell? ⟨w5.heap.size, 1, none⟩ = some (.slice (some ⟨g5, 0, none⟩) n n))
      (first | exact ⟨S10, HK8.out _ S10⟩ | exact ⟨S9, HK8.out _ S9⟩ | exact ⟨S8, HK8.out _ S8⟩)
      (first | (go_at_call 27; refine (HT8.out _ S8).mono ?_; rintro e w9 ⟨g9, rfl, f9, S9⟩) | (go_at_call 28; refine (HE8.out _ _ S9 f9).mono ?_; rintro e w10 ⟨rfl, S10⟩))
    all_goals
      go_wp2
      go_ret
      exact ⟨rfl, S7z.out.trans (Below.mono S10 y8.out)⟩
  · rw [if_neg g] at HSZ
    have S1 := Good.refl (lwHasEdge w N a n c f)
    clear bel fA h hsz
    go_enter Try.func7, Try.ntmps7
    go_wp2_with (go_at_call 26; refine (HSZ.out _ S1).mono ?_; rintro e w2 ⟨rfl, S2⟩; refine Hid.out ?_)
    refine (show ∀ {p : Prop}, p → Hid p from fun h => h) ?_
    go_wp2
    go_ret
    exact ⟨rfl, HZ.out _ S2⟩
end Go.Proofs.Ytfkoddhojcjohaa
