/- The walk of FnExactTogether. -/
import Derived.Test.YtfkoddhojcjohabLawG
import Derived.Test.YtfkoddhojcjohabTogeth
import Derived.Test.YtfkoddhojcjohabTogeth
namespace Go.Proofs.Ytfkoddhojcjohab
open Go.RowKit

/-- the world behind the law's boxes -/
def lwTogether (w : World) (N : Int) (a : Option Addr) (n c : Nat) : World := w.alloc (.cells #[.int .i64 N, .slice a n c] 24)
set_option maxRecDepth 100000 in
set_option maxHeartbeats 4000000 in
theorem fnExactTogether.walk (N : Int) (_hN : (Lit.int .i64 N).wf = true) (fs : List EdgeV) (_hft : ∀ f ∈ fs, FitE f) (n : Nat) (a : Option Addr) (c : Nat) (hn : n ≤ maxLen) (x : Int) (_hx : (Lit.int .i64 x).wf = true) (y : Int) (_hy : (Lit.int .i64 y).wf = true) (w : World) (h : Es w w.heap.size a n fs) :
    Calls Try.prog 5 #[.agg #[.int .i64 N, .slice a n c], .int .i64 x, .int .i64 y] w fun e w' => e = .returned (.bool true) ∧ Below w.heap.size w w' := by
  have bel : Below w.heap.size w (lwTogether w N a n c) := (Below.refl _ _).alloc (Nat.le_refl _) _
  have hsz : (lwTogether w N a n c).heap.size = w.heap.size + 1 := by simp [lwTogether]
  have fA : Es (lwTogether w N a n c) (lwTogether w N a n c).heap.size a n fs := (h.below bel (Nat.le_refl _)).mono (by omega)
  have q0 : (lwTogether w N a n c).cell? ⟨w.heap.size, 0, none⟩ = some (.int .i64 N) := by simp [lwTogether, go_sem]
  have q1 : (lwTogether w N a n c).cell? ⟨w.heap.size, 1, none⟩ = some (.slice a n c) := by simp [lwTogether, go_sem]
  have HZ : Hid (∀ u, Good (lwTogether w N a n c) u → Below w.heap.size w u) := fun u hu => bel.trans (Below.mono hu (by omega))
  have HK : Hid (∀ u, Good (lwTogether w N a n c) u → (u.cell? ⟨w.heap.size, 0, none⟩ = some (.int .i64 N) ∧ u.cell? ⟨w.heap.size, 1, none⟩ = some (.slice a n c))) := fun u hu =>
    ⟨by rw [hu.cell (by omega)]; exact q0, by rw [hu.cell (by omega)]; exact q1⟩
  have HSZ : Hid (∀ u, Good (lwTogether w N a n c) u → Calls Try.prog 7 #[.agg #[.int .i64 N, .slice a n c], .int .i64 1048576] u fun e v => e = .returned (.int .i64 (if n ≤ 1048576 then 1048576 - (n : Int) else -1)) ∧ Good (lwTogether w N a n c) v) := fun u hu =>
    (szGraph_any N n a c hn u).mono fun _ _ ⟨he, hb⟩ => ⟨he, hu.up hb⟩
  by_cases g : n ≤ 1048576
  · rw [if_pos g] at HSZ
    have HT : Hid (∀ u, Good (lwTogether w N a n c) u → Calls Try.prog 9 #[.agg #[.int .i64 N, .slice a n c]] u fun e v => ∃ g, e = .returned (.agg #[.int .i64 N, .slice (some ⟨g, 0, none⟩) n n]) ∧ Es v v.heap.size (some ⟨g, 0, none⟩) n fs ∧ Good (lwTogether w N a n c) v ∧ u.heap.size ≤ v.heap.size ∧ Below u.heap.size u v) := fun u hu =>
      (toGraph_any N fs n a c g u (hu.es fA)).mono fun _ _ ⟨g, he, ho, hb⟩ => ⟨g, he, Es_of_own ho, hu.up hb, hb.size, hb⟩
    have HS : Hid (∀ u b, Good (lwTogether w N a n c) u → Es u u.heap.size (some ⟨b, 0, none⟩) n fs → Calls Try.prog 20 #[.agg #[.int .i64 N, .slice (some ⟨b, 0, none⟩) n n], .int .i64 x, .int .i64 y] u fun e v => e = .returned (.bool (togB (labE N fs) x y)) ∧ Good (lwTogether w N a n c) v) := fun u b hu hf =>
      (sTogether_any N fs x y n _ n g u hf).mono fun _ _ ⟨he, hb⟩ => ⟨he, hu.up hb⟩
    have HI : Hid (∀ u b, Good (lwTogether w N a n c) u → Es u u.heap.size (some ⟨b, 0, none⟩) n fs → Calls Try.prog 21 #[.agg #[.int .i64 N, .slice (some ⟨b, 0, none⟩) n n], .int .i64 x, .int .i64 y] u fun e v => e = .returned (.bool (togB (labE N fs) x y)) ∧ Below u.heap.size u v) := fun u b hu hf =>
      (iTogether_any N fs x y n _ n g u hf)
    have d1 : decide (1048576 - (n : Int) < 0) = false := decide_eq_false (by omega)
    have S1 := Good.refl (lwTogether w N a n c)
    have zlw := hsz
    have ZL : Hid (w.heap.size < (lwTogether w N a n c).heap.size) := by show _ < _; omega
    clear bel fA h hsz zlw
    generalize (togB (labE N fs) x y) = r at HS HI
    go_enter Try.func5, Try.ntmps5
    go_wp2_with (go_at_call 7; refine (HSZ.out _ S1).mono ?_; rintro e w2 ⟨rfl, S2⟩; refine Hid.out ?_)
    refine (show ∀ {p : Prop}, p → Hid p from fun h => h) ?_
    obtain ⟨k0, k1⟩ := HK.out _ S2
    go_wp2_with (go_at_call 9; refine (HT.out _ S2).mono ?_; rintro e w3 ⟨g3, rfl, f3, S3, z3, b3⟩; refine Hid.out ?_)
    refine (show ∀ {p : Prop}, p → Hid p from fun h => h) ?_
    clear k0 k1
    go_wp2_with (go_at_call 20; refine (HS.out _ g3 S3 f3).mono ?_; rintro e w4 ⟨rfl, S4⟩; refine Hid.out ?_)
    refine (show ∀ {p : Prop}, p → Hid p from fun h => h) ?_
    obtain ⟨k0, k1⟩ := HK.out _ S4
    clear f3 z3 b3 S3
    go_wp2_with (go_at_call 9; refine (HT.out _ S4).mono ?_; rintro e w5 ⟨g5, rfl, f5, S5, z5, b5⟩; refine Hid.out ?_)
    refine (show ∀ {p : Prop}, p → Hid p from fun h => h) ?_
    clear k0 k1
    have S6 : Good (lwTogether w N a n c) (w5.alloc (.cells #[.int .i64 N, .slice (some ⟨g5, 0, none⟩) n n] 30)) := S5.alloc _
    have f6 : Es (w5.alloc (.cells #[.int .i64 N, .slice (some ⟨g5, 0, none⟩) n n] 30)) (w5.alloc (.cells #[.int .i64 N, .slice (some ⟨g5, 0, none⟩) n n] 30)).heap.size (some ⟨g5, 0, none⟩) n fs := (f5.alloc (Nat.le_refl _) _).mono (by simp)
    go_wp2_with (go_at_call 21; refine (HI.out _ g5 S6 f6).mono ?_; rintro e w7 ⟨rfl, b7⟩; refine Hid.out ?_)
    refine (show ∀ {p : Prop}, p → Hid p from fun h => h) ?_
    have S7 : Good (lwTogether w N a n c) w7 := S6.up b7
    have x0 : w7.cell? ⟨w5.heap.size, 0, none⟩ = some (.int .i64 N) := by rw [b7.cell (by simp)]; simp
    have x1 : w7.cell? ⟨w5.heap.size, 1, none⟩ = some (.slice (some ⟨g5, 0, none⟩) n n) := by rw [b7.cell (by simp)]; simp
    have z7 : w5.heap.size < w7.heap.size := by have := b7.size; simp at this; omega
    have y7 : w.heap.size < w7.heap.size := Nat.lt_of_lt_of_le ZL.out S7.size
    obtain ⟨k0, k1⟩ := HK.out _ S7
    have f7 := hideIt (f6.up b7)
    have S8 : Good w7 w7.drew := (Good.refl w7).drew
    have HT8 : Hid (∀ u, Good w7 u → Calls Try.prog 9 #[.agg #[.int .i64 N, .slice a n c]] u fun e v => ∃ g, e = .returned (.agg #[.int .i64 N, .slice (some ⟨g, 0, none⟩) n n]) ∧ Es v v.heap.size (some ⟨g, 0, none⟩) n fs ∧ Good w7 v) := fun u hu =>
      (HT.out u (S7.up hu)).mono fun _ _ ⟨g, he, hf, _, _, hb⟩ => ⟨g, he, hf, hu.up hb⟩
    have HE8 : Hid (∀ u g', Good w7 u → Es u u.heap.size (some ⟨g', 0, none⟩) n fs → Calls Try.prog 12 #[.agg #[.int .i64 N, .slice (some ⟨g5, 0, none⟩) n n], .agg #[.int .i64 N, .slice (some ⟨g', 0, none⟩) n n]] u fun e v => e = .returned (.bool true) ∧ Good w7 v) := fun u g' hu hf =>
      (eqGraph_same N fs n _ _ n n g u (hu.es f7.out) hf).mono fun _ _ ⟨he, hb⟩ => ⟨he, hu.up hb⟩
    have HK8 : Hid (∀ u, Good w7 u → (u.cell? ⟨w.heap.size, 0, none⟩ = some (.int .i64 N) ∧ u.cell? ⟨w.heap.size, 1, none⟩ = some (.slice a n c)) ∧ u.cell? ⟨w5.heap.size, 0, none⟩ = some (.int .i64 N) ∧ u.cell? ⟨w5.heap.size, 1, none⟩ = some (.slice (some ⟨g5, 0, none⟩) n n)) := fun u hu =>
      ⟨⟨by rw [hu.cell y7]; exact k0, by rw [hu.cell y7]; exact k1⟩, by rw [hu.cell z7]; exact x0, by rw [hu.cell z7]; exact x1⟩
    have S7z := hideIt (HZ.out _ S7)
    have y8 := hideIt (show w.heap.size ≤ w7.heap.size by omega)
    have dr : (r != r) = false := by simp
    clear f5 f6 b5 b7 z5 S6 S5 S4 S2 S1
    go_wp2
    go_region_held3 (fun u => Good w7 u ∧ (u.cell? ⟨w.heap.size, 0, none⟩ = some (.int .i64 N) ∧ u.cell? ⟨w.heap.size, 1, none⟩ = some (.slice a n c)) ∧ u.cell? ⟨w5.heap.size, 0, none⟩ = some (.int .i64 N) ∧ u.cell? ⟨w5.heap.size, 1, none⟩ = some (.slice (some ⟨g5, 0, none⟩) n n))
      (first | exact ⟨S10, HK8.out _ S10⟩ | exact ⟨S9, HK8.out _ S9⟩ | exact ⟨S8, HK8.out _ S8⟩)
      (first | (go_at_call 9; refine (HT8.out _ S8).mono ?_; rintro e w9 ⟨g9, rfl, f9, S9⟩) | (go_at_call 12; refine (HE8.out _ _ S9 f9).mono ?_; rintro e w10 ⟨rfl, S10⟩))
    all_goals
      go_wp2
      go_ret
      exact ⟨rfl, S7z.out.trans (Below.mono S10 y8.out)⟩
  · rw [if_neg g] at HSZ
    have S1 := Good.refl (lwTogether w N a n c)
    clear bel fA h hsz
    go_enter Try.func5, Try.ntmps5
    go_wp2_with (go_at_call 7; refine (HSZ.out _ S1).mono ?_; rintro e w2 ⟨rfl, S2⟩; refine Hid.out ?_)
    refine (show ∀ {p : Prop}, p → Hid p from fun h => h) ?_
    go_wp2
    go_ret
    exact ⟨rfl, HZ.out _ S2⟩
end Go.Proofs.Ytfkoddhojcjohab
