/- The program's Model: what a question makes of a graph. A graph copied, changed; the program's Model. The specification's l05Put and AddEdge. The specification's AddEdge. The specification's l05Without and TakeEdge. The specification's Model. -/
import Derived.Test.YtobcihdjennieaaKISt
import Derived.Test.YtobcihdjennieaaKTogeth
import Derived.Deep.RegionHeld3
import Derived.Deep.DeepCutAuto
import Derived.Deep.AppendLies
namespace Go.Proofs.Ytobcihdjennieaa
open Go.RowKit

/-- a vertex of the graph -/
def hvB (N v : Int) : Bool := decide (0 ≤ v ∧ v < N)
/-- a shard of some head -/
def sdB (b : Int) : Bool := decide (1 ≤ b ∧ b ≤ 3)
/-- the edge of a question -/
def edA (xa xb : Int) : EdgeV := (min xa xb, max xa xb)
/-- the graph can tell -/
def telB (N xo xa xb : Int) : Bool :=
  if xo = 1 ∨ xo = 2 then (hvB N xa && hvB N xb) && decide (xa ≠ xb) else if xo = 3 then hvB N xa && hvB N xb else if xo = 4 then hvB N xa && sdB xb else false
/-- what a change that may be none leaves, and what is said -/
def chR (es : List EdgeV) (o : Option (List EdgeV)) : List EdgeV × Int := (o.getD es, if o.isSome then 1 else 2)
/-- what a question makes of a graph, and its Say -/
def mdR (N : Int) (es : List EdgeV) (xo xa xb : Int) : List EdgeV × Int :=
  if telB N xo xa xb = false then (es, 3) else if xo = 1 then chR es (addE N es (edA xa xb)) else if xo = 2 then chR es (takE N es (edA xa xb)) else if xo = 3 ∧ togB (labE N es) xa xb = false then (es, 2) else (es, 1)
/-- the answer of Model: a graph of the answer's own, and a number -/
def MAns (w : World) (N : Int) (r : List EdgeV × Int) (e : Ending) (w' : World) : Prop :=
  ∃ a m c, e = .returned (.tuple #[.agg #[.int .i64 N, .slice a m c], .int .i64 r.2]) ∧ w'.ownsRow w.heap.size 59 2 (.slice a m c) m (ecells r.1) ∧ Below w.heap.size w w'

theorem hasV_any (N v : Int) (a : Option Addr) (n c : Nat) (w : World) : Calls Try.prog 53 #[.agg #[.int .i64 N, .slice a n c], .int .i64 v] w fun e w' => e = .returned (.bool (hvB N v)) ∧ Below w.heap.size w w' := by
  by_cases h1 : 0 ≤ v
  · by_cases h2 : v < N
    · have d1 : decide (0 ≤ v) = true := by simpa using h1
      have d2 : decide (v < N) = true := by simpa using h2
      go_enter Try.func53, Try.ntmps53
      go_wp2
      go_ret
      exact ⟨by simp [hvB, h1, h2], (Below.refl _ _).alloc (Nat.le_refl _) _⟩
    · have d1 : decide (0 ≤ v) = true := by simpa using h1
      have d2 : decide (v < N) = false := by simpa using h2
      go_enter Try.func53, Try.ntmps53
      go_wp2
      go_ret
      exact ⟨by simp [hvB]; omega, (Below.refl _ _).alloc (Nat.le_refl _) _⟩
  · have d1 : decide (0 ≤ v) = false := by simpa using h1
    go_enter Try.func53, Try.ntmps53
    go_wp2
    go_ret
    exact ⟨by simp [hvB]; omega, (Below.refl _ _).alloc (Nat.le_refl _) _⟩
theorem shId_any (x : Int) (w : World) : Calls Try.prog 54 #[.int .i64 x] w fun e w' => e = .returned (.bool (sdB x)) ∧ w' = w := by
  by_cases h1 : 1 ≤ x
  · by_cases h2 : x ≤ 3
    · have d1 : decide (1 ≤ x) = true := by simpa using h1
      have d2 : decide (x ≤ 3) = true := by simpa using h2
      go_enter Try.func54, Try.ntmps54
      go_wp2
      go_ret
      exact ⟨by simp [sdB, h1, h2], rfl⟩
    · have d1 : decide (1 ≤ x) = true := by simpa using h1
      have d2 : decide (x ≤ 3) = false := by simpa using h2
      go_enter Try.func54, Try.ntmps54
      go_wp2
      go_ret
      exact ⟨by simp [sdB]; omega, rfl⟩
  · have d1 : decide (1 ≤ x) = false := by simpa using h1
    go_enter Try.func54, Try.ntmps54
    go_wp2
    go_ret
    exact ⟨by simp [sdB]; omega, rfl⟩
theorem askEdge_any (xi xo xa xb : Int) (w : World) : Calls Try.prog 32 #[.agg #[.int .i64 xi, .int .i64 xo, .int .i64 xa, .int .i64 xb]] w fun e w' => e = .returned (.agg #[.int .i64 (edA xa xb).1, .int .i64 (edA xa xb).2]) ∧ Below w.heap.size w w' := by
  go_enter Try.func32, Try.ntmps32
  go_wp2
  exact bodyPost_ret (v := .agg #[.int .i64 (min xa xb), .int .i64 (max xa xb)]) (by simp [results, Try.results32, go_sem]) rfl ⟨rfl, ((Below.refl _ _).alloc (Nat.le_refl _) _).alloc (by simp) _⟩

/-- the world behind the boxes -/
def t2 (w : World) (N : Int) (a : Option Addr) (n c : Nat) (xi xo xa xb : Int) : World := (w.alloc (.cells #[.int .i64 N, .slice a n c] 26)).alloc (.cells #[.int .i64 xi, .int .i64 xo, .int .i64 xa, .int .i64 xb] 28)
theorem t2_size (w : World) (N : Int) (a : Option Addr) (n c : Nat) (xi xo xa xb : Int) : (t2 w N a n c xi xo xa xb).heap.size = w.heap.size + 2 := by simp [t2]
/-- what the boxes hold, whatever has come since -/
structure InT (w : World) (N : Int) (a : Option Addr) (n c : Nat) (xi xo xa xb : Int) (u : World) : Prop where
  good : Good (t2 w N a n c xi xo xa xb) u
theorem InT.start (w : World) (N : Int) (a : Option Addr) (n c : Nat) (xi xo xa xb : Int) : InT w N a n c xi xo xa xb (t2 w N a n c xi xo xa xb) := ⟨Good.refl _⟩
section
variable {w u v : World} {N : Int} {a : Option Addr} {n c : Nat} {xi xo xa xb : Int}
theorem InT.up (h : InT w N a n c xi xo xa xb u) (hb : Below u.heap.size u v) : InT w N a n c xi xo xa xb v := ⟨h.good.up hb⟩
theorem InT.drew (h : InT w N a n c xi xo xa xb u) : InT w N a n c xi xo xa xb u.drew := ⟨h.good.drew⟩
theorem InT.size (h : InT w N a n c xi xo xa xb u) : w.heap.size + 2 ≤ u.heap.size := by have := h.good.size; rw [t2_size] at this; exact this
theorem InT.below (h : InT w N a n c xi xo xa xb u) : Below w.heap.size w u := by
  have h1 : Below w.heap.size w (t2 w N a n c xi xo xa xb) := by
    unfold t2
    exact ((Below.refl _ _).alloc (by simp) _).alloc (by simp) _
  exact h1.trans (Below.mono h.good (by rw [t2_size]; omega))
theorem InT.cells (h : InT w N a n c xi xo xa xb u) : u.cell? ⟨w.heap.size, 0, none⟩ = some (.int .i64 N) ∧ u.cell? ⟨w.heap.size, 1, none⟩ = some (.slice a n c) ∧ u.cell? ⟨w.heap.size + 1, 0, none⟩ = some (.int .i64 xi) ∧ u.cell? ⟨w.heap.size + 1, 1, none⟩ = some (.int .i64 xo) ∧ u.cell? ⟨w.heap.size + 1, 2, none⟩ = some (.int .i64 xa) ∧ u.cell? ⟨w.heap.size + 1, 3, none⟩ = some (.int .i64 xb) := by
  have hs := t2_size w N a n c xi xo xa xb
  refine ⟨?_, ?_, ?_, ?_, ?_, ?_⟩
  · rw [h.good.cell (by omega)]; simp [t2, go_sem]
  · rw [h.good.cell (by omega)]; simp [t2, go_sem]
  · rw [h.good.cell (by omega)]; simp [t2, go_sem]
  · rw [h.good.cell (by omega)]; simp [t2, go_sem]
  · rw [h.good.cell (by omega)]; simp [t2, go_sem]
  · rw [h.good.cell (by omega)]; simp [t2, go_sem]
end
/-- the world behind the boxes -/
def c2 (w : World) (N : Int) (a : Option Addr) (n c : Nat) : World := (w.alloc (.cells #[.int .i64 N, .slice a n c] 26)).alloc (.cells #[.int .i64 0, .slice none 0 0] 26)
theorem c2_size (w : World) (N : Int) (a : Option Addr) (n c : Nat) : (c2 w N a n c).heap.size = w.heap.size + 2 := by simp [c2]
/-- what the boxes hold, whatever has come since -/
structure InC (w : World) (N : Int) (a : Option Addr) (n c : Nat) (u : World) : Prop where
  good : Good (c2 w N a n c) u
theorem InC.start (w : World) (N : Int) (a : Option Addr) (n c : Nat) : InC w N a n c (c2 w N a n c) := ⟨Good.refl _⟩
section
variable {w u v : World} {N : Int} {a : Option Addr} {n c : Nat}
theorem InC.up (h : InC w N a n c u) (hb : Below u.heap.size u v) : InC w N a n c v := ⟨h.good.up hb⟩
theorem InC.drew (h : InC w N a n c u) : InC w N a n c u.drew := ⟨h.good.drew⟩
theorem InC.size (h : InC w N a n c u) : w.heap.size + 2 ≤ u.heap.size := by have := h.good.size; rw [c2_size] at this; exact this
theorem InC.below (h : InC w N a n c u) : Below w.heap.size w u := by
  have h1 : Below w.heap.size w (c2 w N a n c) := by
    unfold c2
    exact ((Below.refl _ _).alloc (by simp) _).alloc (by simp) _
  exact h1.trans (Below.mono h.good (by rw [c2_size]; omega))
theorem InC.cells (h : InC w N a n c u) : u.cell? ⟨w.heap.size, 0, none⟩ = some (.int .i64 N) ∧ u.cell? ⟨w.heap.size, 1, none⟩ = some (.slice a n c) := by
  have hs := c2_size w N a n c
  refine ⟨?_, ?_⟩
  · rw [h.good.cell (by omega)]; simp [c2, go_sem]
  · rw [h.good.cell (by omega)]; simp [c2, go_sem]
theorem InC.out (h : InC w N a n c u) : (u.cell? ⟨w.heap.size + 1, 0, none⟩ = some (.int .i64 0) ∧ u.cell? ⟨w.heap.size + 1, 1, none⟩ = some (.slice none 0 0)) ∧ (u.frozen? ⟨w.heap.size + 1, 0, none⟩ = false ∧ u.frozen? ⟨w.heap.size + 1, 1, none⟩ = false) := by
  have hs := c2_size w N a n c
  refine ⟨⟨?_, ?_⟩, ?_, ?_⟩
  · rw [h.good.cell (by omega)]; simp [c2, go_sem]
  · rw [h.good.cell (by omega)]; simp [c2, go_sem]
  · rw [Below.frozen h.good (by show w.heap.size + 1 < _; omega)]; simp [c2, go_sem]
  · rw [Below.frozen h.good (by show w.heap.size + 1 < _; omega)]; simp [c2, go_sem]
theorem InC.cellsSet (h : InC w N a n c u) (v0 v1 : Value) : ((u.setCell ⟨w.heap.size + 1, 0, none⟩ v0).setCell ⟨w.heap.size + 1, 1, none⟩ v1).cell? ⟨w.heap.size, 0, none⟩ = some (.int .i64 N) ∧ ((u.setCell ⟨w.heap.size + 1, 0, none⟩ v0).setCell ⟨w.heap.size + 1, 1, none⟩ v1).cell? ⟨w.heap.size, 1, none⟩ = some (.slice a n c) := by
  obtain ⟨k0, k1⟩ := h.cells
  refine ⟨?_, ?_⟩
  · rw [set_other (by omega), set_other (by omega)]; exact k0
  · rw [set_other (by omega), set_other (by omega)]; exact k1
end
/-- the world behind the boxes -/
def m3 (w : World) (N : Int) (a : Option Addr) (n c : Nat) (xi xo xa xb : Int) : World := ((w.alloc (.cells #[.int .i64 N, .slice a n c] 26)).alloc (.cells #[.int .i64 xi, .int .i64 xo, .int .i64 xa, .int .i64 xb] 28)).alloc (.cells #[.int .i64 0, .slice none 0 0] 26)
theorem m3_size (w : World) (N : Int) (a : Option Addr) (n c : Nat) (xi xo xa xb : Int) : (m3 w N a n c xi xo xa xb).heap.size = w.heap.size + 3 := by simp [m3]
/-- what the boxes hold, whatever has come since -/
structure InM (w : World) (N : Int) (a : Option Addr) (n c : Nat) (xi xo xa xb : Int) (u : World) : Prop where
  good : Good (m3 w N a n c xi xo xa xb) u
theorem InM.start (w : World) (N : Int) (a : Option Addr) (n c : Nat) (xi xo xa xb : Int) : InM w N a n c xi xo xa xb (m3 w N a n c xi xo xa xb) := ⟨Good.refl _⟩
section
variable {w u v : World} {N : Int} {a : Option Addr} {n c : Nat} {xi xo xa xb : Int}
theorem InM.up (h : InM w N a n c xi xo xa xb u) (hb : Below u.heap.size u v) : InM w N a n c xi xo xa xb v := ⟨h.good.up hb⟩
theorem InM.drew (h : InM w N a n c xi xo xa xb u) : InM w N a n c xi xo xa xb u.drew := ⟨h.good.drew⟩
theorem InM.size (h : InM w N a n c xi xo xa xb u) : w.heap.size + 3 ≤ u.heap.size := by have := h.good.size; rw [m3_size] at this; exact this
theorem InM.below (h : InM w N a n c xi xo xa xb u) : Below w.heap.size w u := by
  have h1 : Below w.heap.size w (m3 w N a n c xi xo xa xb) := by
    unfold m3
    exact (((Below.refl _ _).alloc (by simp) _).alloc (by simp) _).alloc (by simp; omega) _
  exact h1.trans (Below.mono h.good (by rw [m3_size]; omega))
theorem InM.cells (h : InM w N a n c xi xo xa xb u) : u.cell? ⟨w.heap.size, 0, none⟩ = some (.int .i64 N) ∧ u.cell? ⟨w.heap.size, 1, none⟩ = some (.slice a n c) ∧ u.cell? ⟨w.heap.size + 1, 0, none⟩ = some (.int .i64 xi) ∧ u.cell? ⟨w.heap.size + 1, 1, none⟩ = some (.int .i64 xo) ∧ u.cell? ⟨w.heap.size + 1, 2, none⟩ = some (.int .i64 xa) ∧ u.cell? ⟨w.heap.size + 1, 3, none⟩ = some (.int .i64 xb) := by
  have hs := m3_size w N a n c xi xo xa xb
  refine ⟨?_, ?_, ?_, ?_, ?_, ?_⟩
  · rw [h.good.cell (by omega)]; simp [m3, go_sem]
  · rw [h.good.cell (by omega)]; simp [m3, go_sem]
  · rw [h.good.cell (by omega)]; simp [m3, go_sem]
  · rw [h.good.cell (by omega)]; simp [m3, go_sem]
  · rw [h.good.cell (by omega)]; simp [m3, go_sem]
  · rw [h.good.cell (by omega)]; simp [m3, go_sem]
theorem InM.out (h : InM w N a n c xi xo xa xb u) : (u.cell? ⟨w.heap.size + 1 + 1, 0, none⟩ = some (.int .i64 0) ∧ u.cell? ⟨w.heap.size + 1 + 1, 1, none⟩ = some (.slice none 0 0)) ∧ (u.frozen? ⟨w.heap.size + 1 + 1, 0, none⟩ = false ∧ u.frozen? ⟨w.heap.size + 1 + 1, 1, none⟩ = false) := by
  have hs := m3_size w N a n c xi xo xa xb
  refine ⟨⟨?_, ?_⟩, ?_, ?_⟩
  · rw [h.good.cell (by omega)]; simp [m3, go_sem]
  · rw [h.good.cell (by omega)]; simp [m3, go_sem]
  · rw [Below.frozen h.good (by show w.heap.size + 1 + 1 < _; omega)]; simp [m3, go_sem]
  · rw [Below.frozen h.good (by show w.heap.size + 1 + 1 < _; omega)]; simp [m3, go_sem]
theorem InM.cellsSet (h : InM w N a n c xi xo xa xb u) (v0 v1 : Value) : ((u.setCell ⟨w.heap.size + 1 + 1, 0, none⟩ v0).setCell ⟨w.heap.size + 1 + 1, 1, none⟩ v1).cell? ⟨w.heap.size, 0, none⟩ = some (.int .i64 N) ∧ ((u.setCell ⟨w.heap.size + 1 + 1, 0, none⟩ v0).setCell ⟨w.heap.size + 1 + 1, 1, none⟩ v1).cell? ⟨w.heap.size, 1, none⟩ = some (.slice a n c) ∧ ((u.setCell ⟨w.heap.size + 1 + 1, 0, none⟩ v0).setCell ⟨w.heap.size + 1 + 1, 1, none⟩ v1).cell? ⟨w.heap.size + 1, 0, none⟩ = some (.int .i64 xi) ∧ ((u.setCell ⟨w.heap.size + 1 + 1, 0, none⟩ v0).setCell ⟨w.heap.size + 1 + 1, 1, none⟩ v1).cell? ⟨w.heap.size + 1, 1, none⟩ = some (.int .i64 xo) ∧ ((u.setCell ⟨w.heap.size + 1 + 1, 0, none⟩ v0).setCell ⟨w.heap.size + 1 + 1, 1, none⟩ v1).cell? ⟨w.heap.size + 1, 2, none⟩ = some (.int .i64 xa) ∧ ((u.setCell ⟨w.heap.size + 1 + 1, 0, none⟩ v0).setCell ⟨w.heap.size + 1 + 1, 1, none⟩ v1).cell? ⟨w.heap.size + 1, 3, none⟩ = some (.int .i64 xb) := by
  obtain ⟨k0, k1, k2, k3, k4, k5⟩ := h.cells
  refine ⟨?_, ?_, ?_, ?_, ?_, ?_⟩
  · rw [set_other (by omega), set_other (by omega)]; exact k0
  · rw [set_other (by omega), set_other (by omega)]; exact k1
  · rw [set_other (by omega), set_other (by omega)]; exact k2
  · rw [set_other (by omega), set_other (by omega)]; exact k3
  · rw [set_other (by omega), set_other (by omega)]; exact k4
  · rw [set_other (by omega), set_other (by omega)]; exact k5
end

set_option maxRecDepth 100000 in
set_option maxHeartbeats 4000000 in
theorem canTell_any (N : Int) (a : Option Addr) (n c : Nat) (xi xo xa xb : Int) (w : World) : Calls Try.prog 28 #[.agg #[.int .i64 N, .slice a n c], .agg #[.int .i64 xi, .int .i64 xo, .int .i64 xa, .int .i64 xb]] w fun e w' => e = .returned (.bool (telB N xo xa xb)) ∧ Below w.heap.size w w' := by
  have HVa : Hid (∀ u, InT w N a n c xi xo xa xb u → Calls Try.prog 53 #[.agg #[.int .i64 N, .slice a n c], .int .i64 xa] u fun e v => e = .returned (.bool (hvB N xa)) ∧ InT w N a n c xi xo xa xb v) := fun u hu => (hasV_any N xa a n c u).mono fun _ _ ⟨he, hb⟩ => ⟨he, hu.up hb⟩
  have HVb : Hid (∀ u, InT w N a n c xi xo xa xb u → Calls Try.prog 53 #[.agg #[.int .i64 N, .slice a n c], .int .i64 xb] u fun e v => e = .returned (.bool (hvB N xb)) ∧ InT w N a n c xi xo xa xb v) := fun u hu => (hasV_any N xb a n c u).mono fun _ _ ⟨he, hb⟩ => ⟨he, hu.up hb⟩
  have HSi : Hid (∀ u, InT w N a n c xi xo xa xb u → Calls Try.prog 54 #[.int .i64 xb] u fun e v => e = .returned (.bool (sdB xb)) ∧ InT w N a n c xi xo xa xb v) := fun u hu => (shId_any xb u).mono fun _ _ ⟨he, hb⟩ => ⟨he, by rw [hb]; exact hu⟩
  have S1 := InT.start w N a n c xi xo xa xb
  cases hp : hvB N xa with
  | false =>
    rw [hp] at HVa
    by_cases h1 : xo = 1
    · have e1 : (xo == 1) = true := by simpa using h1
      have HT : Hid (telB N xo xa xb = false) := by
        show _ = _
        unfold telB
        simp [hp, h1]
      clear hp h1
      go_enter Try.func28, Try.ntmps28
      go_wp2_with (go_at_call 53; refine (HVa.out _ S1).mono ?_; rintro e u2 ⟨rfl, S2⟩; refine Hid.out ?_)
      refine (show ∀ {p : Prop}, p → Hid p from fun h => h) ?_
      obtain ⟨k0, k1, k2, k3, k4, k5⟩ := S2.cells
      go_wp2
      go_ret
      exact ⟨by rw [HT.out]; rfl, S2.below⟩
    · have e1 : (xo == 1) = false := by simpa using h1
      by_cases h2 : xo = 2
      · have e2 : (xo == 2) = true := by simpa using h2
        have HT : Hid (telB N xo xa xb = false) := by
          show _ = _
          unfold telB
          simp [hp, h2]
        clear hp h2
        go_enter Try.func28, Try.ntmps28
        go_wp2_with (go_at_call 53; refine (HVa.out _ S1).mono ?_; rintro e u2 ⟨rfl, S2⟩; refine Hid.out ?_)
        refine (show ∀ {p : Prop}, p → Hid p from fun h => h) ?_
        obtain ⟨k0, k1, k2, k3, k4, k5⟩ := S2.cells
        go_wp2
        go_ret
        exact ⟨by rw [HT.out]; rfl, S2.below⟩
      · have e2 : (xo == 2) = false := by simpa using h2
        by_cases h3 : xo = 3
        · have e3 : (xo == 3) = true := by simpa using h3
          have HT : Hid (telB N xo xa xb = false) := by
            show _ = _
            unfold telB
            simp [hp, h3]
          clear hp h3
          go_enter Try.func28, Try.ntmps28
          go_wp2_with (go_at_call 53; refine (HVa.out _ S1).mono ?_; rintro e u2 ⟨rfl, S2⟩; refine Hid.out ?_)
          refine (show ∀ {p : Prop}, p → Hid p from fun h => h) ?_
          obtain ⟨k0, k1, k2, k3, k4, k5⟩ := S2.cells
          go_wp2
          go_ret
          exact ⟨by rw [HT.out]; rfl, S2.below⟩
        · have e3 : (xo == 3) = false := by simpa using h3
          by_cases h4 : xo = 4
          · have e4 : (xo == 4) = true := by simpa using h4
            have HT : Hid (telB N xo xa xb = false) := by
              show _ = _
              unfold telB
              simp [hp, h4]
            clear hp h4
            go_enter Try.func28, Try.ntmps28
            go_wp2_with (go_at_call 53; refine (HVa.out _ S1).mono ?_; rintro e u2 ⟨rfl, S2⟩; refine Hid.out ?_)
            refine (show ∀ {p : Prop}, p → Hid p from fun h => h) ?_
            obtain ⟨k0, k1, k2, k3, k4, k5⟩ := S2.cells
            go_wp2_with (go_at_call 53; refine (HVa.out _ S2).mono ?_; rintro e u3 ⟨rfl, S3⟩; refine Hid.out ?_)
            refine (show ∀ {p : Prop}, p → Hid p from fun h => h) ?_
            clear k0 k1 k2 k3 k4 k5
            obtain ⟨k0, k1, k2, k3, k4, k5⟩ := S3.cells
            go_wp2
            go_ret
            exact ⟨by rw [HT.out]; rfl, S3.below⟩
          · have e4 : (xo == 4) = false := by simpa using h4
            have HT : Hid (telB N xo xa xb = false) := by
              show _ = _
              unfold telB
              simp [h1, h2, h3, h4]
            clear hp h1 h2 h3 h4
            go_enter Try.func28, Try.ntmps28
            go_wp2_with (go_at_call 53; refine (HVa.out _ S1).mono ?_; rintro e u2 ⟨rfl, S2⟩; refine Hid.out ?_)
            refine (show ∀ {p : Prop}, p → Hid p from fun h => h) ?_
            obtain ⟨k0, k1, k2, k3, k4, k5⟩ := S2.cells
            go_wp2
            go_ret
            exact ⟨by rw [HT.out]; rfl, S2.below⟩
  | true =>
    rw [hp] at HVa
    cases hq : hvB N xb with
    | false =>
      rw [hq] at HVb
      by_cases h1 : xo = 1
      · have e1 : (xo == 1) = true := by simpa using h1
        have HT : Hid (telB N xo xa xb = false) := by
          show _ = _
          unfold telB
          simp [hp, hq, h1]
        clear hp hq h1
        go_enter Try.func28, Try.ntmps28
        go_wp2_with (go_at_call 53; refine (HVa.out _ S1).mono ?_; rintro e u2 ⟨rfl, S2⟩; refine Hid.out ?_)
        refine (show ∀ {p : Prop}, p → Hid p from fun h => h) ?_
        obtain ⟨k0, k1, k2, k3, k4, k5⟩ := S2.cells
        go_wp2_with (go_at_call 53; refine (HVb.out _ S2).mono ?_; rintro e u3 ⟨rfl, S3⟩; refine Hid.out ?_)
        refine (show ∀ {p : Prop}, p → Hid p from fun h => h) ?_
        clear k0 k1 k2 k3 k4 k5
        obtain ⟨k0, k1, k2, k3, k4, k5⟩ := S3.cells
        go_wp2
        go_ret
        exact ⟨by rw [HT.out]; rfl, S3.below⟩
      · have e1 : (xo == 1) = false := by simpa using h1
        by_cases h2 : xo = 2
        · have e2 : (xo == 2) = true := by simpa using h2
          have HT : Hid (telB N xo xa xb = false) := by
            show _ = _
            unfold telB
            simp [hp, hq, h2]
          clear hp hq h2
          go_enter Try.func28, Try.ntmps28
          go_wp2_with (go_at_call 53; refine (HVa.out _ S1).mono ?_; rintro e u2 ⟨rfl, S2⟩; refine Hid.out ?_)
          refine (show ∀ {p : Prop}, p → Hid p from fun h => h) ?_
          obtain ⟨k0, k1, k2, k3, k4, k5⟩ := S2.cells
          go_wp2_with (go_at_call 53; refine (HVb.out _ S2).mono ?_; rintro e u3 ⟨rfl, S3⟩; refine Hid.out ?_)
          refine (show ∀ {p : Prop}, p → Hid p from fun h => h) ?_
          clear k0 k1 k2 k3 k4 k5
          obtain ⟨k0, k1, k2, k3, k4, k5⟩ := S3.cells
          go_wp2
          go_ret
          exact ⟨by rw [HT.out]; rfl, S3.below⟩
        · have e2 : (xo == 2) = false := by simpa using h2
          by_cases h3 : xo = 3
          · have e3 : (xo == 3) = true := by simpa using h3
            have HT : Hid (telB N xo xa xb = false) := by
              show _ = _
              unfold telB
              simp [hp, hq, h3]
            clear hp hq h3
            go_enter Try.func28, Try.ntmps28
            go_wp2_with (go_at_call 53; refine (HVa.out _ S1).mono ?_; rintro e u2 ⟨rfl, S2⟩; refine Hid.out ?_)
            refine (show ∀ {p : Prop}, p → Hid p from fun h => h) ?_
            obtain ⟨k0, k1, k2, k3, k4, k5⟩ := S2.cells
            go_wp2_with (go_at_call 53; refine (HVb.out _ S2).mono ?_; rintro e u3 ⟨rfl, S3⟩; refine Hid.out ?_)
            refine (show ∀ {p : Prop}, p → Hid p from fun h => h) ?_
            clear k0 k1 k2 k3 k4 k5
            obtain ⟨k0, k1, k2, k3, k4, k5⟩ := S3.cells
            go_wp2
            go_ret
            exact ⟨by rw [HT.out]; rfl, S3.below⟩
          · have e3 : (xo == 3) = false := by simpa using h3
            by_cases h4 : xo = 4
            · have e4 : (xo == 4) = true := by simpa using h4
              cases hx : sdB xb with
              | false =>
                rw [hx] at HSi
                have HT : Hid (telB N xo xa xb = false) := by
                  show _ = _
                  unfold telB
                  simp [hp, hx, h4]
                clear hp hq hx h4
                go_enter Try.func28, Try.ntmps28
                go_wp2_with (go_at_call 53; refine (HVa.out _ S1).mono ?_; rintro e u2 ⟨rfl, S2⟩; refine Hid.out ?_)
                refine (show ∀ {p : Prop}, p → Hid p from fun h => h) ?_
                obtain ⟨k0, k1, k2, k3, k4, k5⟩ := S2.cells
                go_wp2_with (go_at_call 53; refine (HVb.out _ S2).mono ?_; rintro e u3 ⟨rfl, S3⟩; refine Hid.out ?_)
                refine (show ∀ {p : Prop}, p → Hid p from fun h => h) ?_
                clear k0 k1 k2 k3 k4 k5
                obtain ⟨k0, k1, k2, k3, k4, k5⟩ := S3.cells
                go_wp2_with (go_at_call 53; refine (HVa.out _ S3).mono ?_; rintro e u4 ⟨rfl, S4⟩; refine Hid.out ?_)
                refine (show ∀ {p : Prop}, p → Hid p from fun h => h) ?_
                clear k0 k1 k2 k3 k4 k5
                obtain ⟨k0, k1, k2, k3, k4, k5⟩ := S4.cells
                go_wp2_with (go_at_call 54; refine (HSi.out _ S4).mono ?_; rintro e u5 ⟨rfl, S5⟩; refine Hid.out ?_)
                refine (show ∀ {p : Prop}, p → Hid p from fun h => h) ?_
                clear k0 k1 k2 k3 k4 k5
                obtain ⟨k0, k1, k2, k3, k4, k5⟩ := S5.cells
                go_wp2
                go_ret
                exact ⟨by rw [HT.out]; rfl, S5.below⟩
              | true =>
                rw [hx] at HSi
                have HT : Hid (telB N xo xa xb = true) := by
                  show _ = _
                  unfold telB
                  simp [hp, hx, h4]
                clear hp hq hx h4
                go_enter Try.func28, Try.ntmps28
                go_wp2_with (go_at_call 53; refine (HVa.out _ S1).mono ?_; rintro e u2 ⟨rfl, S2⟩; refine Hid.out ?_)
                refine (show ∀ {p : Prop}, p → Hid p from fun h => h) ?_
                obtain ⟨k0, k1, k2, k3, k4, k5⟩ := S2.cells
                go_wp2_with (go_at_call 53; refine (HVb.out _ S2).mono ?_; rintro e u3 ⟨rfl, S3⟩; refine Hid.out ?_)
                refine (show ∀ {p : Prop}, p → Hid p from fun h => h) ?_
                clear k0 k1 k2 k3 k4 k5
                obtain ⟨k0, k1, k2, k3, k4, k5⟩ := S3.cells
                go_wp2_with (go_at_call 53; refine (HVa.out _ S3).mono ?_; rintro e u4 ⟨rfl, S4⟩; refine Hid.out ?_)
                refine (show ∀ {p : Prop}, p → Hid p from fun h => h) ?_
                clear k0 k1 k2 k3 k4 k5
                obtain ⟨k0, k1, k2, k3, k4, k5⟩ := S4.cells
                go_wp2_with (go_at_call 54; refine (HSi.out _ S4).mono ?_; rintro e u5 ⟨rfl, S5⟩; refine Hid.out ?_)
                refine (show ∀ {p : Prop}, p → Hid p from fun h => h) ?_
                clear k0 k1 k2 k3 k4 k5
                obtain ⟨k0, k1, k2, k3, k4, k5⟩ := S5.cells
                go_wp2
                go_ret
                exact ⟨by rw [HT.out]; rfl, S5.below⟩
            · have e4 : (xo == 4) = false := by simpa using h4
              have HT : Hid (telB N xo xa xb = false) := by
                show _ = _
                unfold telB
                simp [h1, h2, h3, h4]
              clear hp hq h1 h2 h3 h4
              go_enter Try.func28, Try.ntmps28
              go_wp2_with (go_at_call 53; refine (HVa.out _ S1).mono ?_; rintro e u2 ⟨rfl, S2⟩; refine Hid.out ?_)
              refine (show ∀ {p : Prop}, p → Hid p from fun h => h) ?_
              obtain ⟨k0, k1, k2, k3, k4, k5⟩ := S2.cells
              go_wp2_with (go_at_call 53; refine (HVb.out _ S2).mono ?_; rintro e u3 ⟨rfl, S3⟩; refine Hid.out ?_)
              refine (show ∀ {p : Prop}, p → Hid p from fun h => h) ?_
              clear k0 k1 k2 k3 k4 k5
              obtain ⟨k0, k1, k2, k3, k4, k5⟩ := S3.cells
              go_wp2
              go_ret
              exact ⟨by rw [HT.out]; rfl, S3.below⟩
    | true =>
      rw [hq] at HVb
      by_cases h1 : xo = 1
      · have e1 : (xo == 1) = true := by simpa using h1
        by_cases hx : xa = xb
        · have d1 : (xa != xb) = false := by simpa using hx
          have HT : Hid (telB N xo xa xb = false) := by
            show _ = _
            unfold telB
            simp [hq, hx, h1]
          clear hp hq hx h1
          go_enter Try.func28, Try.ntmps28
          go_wp2_with (go_at_call 53; refine (HVa.out _ S1).mono ?_; rintro e u2 ⟨rfl, S2⟩; refine Hid.out ?_)
          refine (show ∀ {p : Prop}, p → Hid p from fun h => h) ?_
          obtain ⟨k0, k1, k2, k3, k4, k5⟩ := S2.cells
          go_wp2_with (go_at_call 53; refine (HVb.out _ S2).mono ?_; rintro e u3 ⟨rfl, S3⟩; refine Hid.out ?_)
          refine (show ∀ {p : Prop}, p → Hid p from fun h => h) ?_
          clear k0 k1 k2 k3 k4 k5
          obtain ⟨k0, k1, k2, k3, k4, k5⟩ := S3.cells
          go_wp2
          go_ret
          exact ⟨by rw [HT.out]; rfl, S3.below⟩
        · have d1 : (xa != xb) = true := by simpa using hx
          have HT : Hid (telB N xo xa xb = true) := by
            show _ = _
            unfold telB
            simp [hp, hq, hx, h1]
          clear hp hq hx h1
          go_enter Try.func28, Try.ntmps28
          go_wp2_with (go_at_call 53; refine (HVa.out _ S1).mono ?_; rintro e u2 ⟨rfl, S2⟩; refine Hid.out ?_)
          refine (show ∀ {p : Prop}, p → Hid p from fun h => h) ?_
          obtain ⟨k0, k1, k2, k3, k4, k5⟩ := S2.cells
          go_wp2_with (go_at_call 53; refine (HVb.out _ S2).mono ?_; rintro e u3 ⟨rfl, S3⟩; refine Hid.out ?_)
          refine (show ∀ {p : Prop}, p → Hid p from fun h => h) ?_
          clear k0 k1 k2 k3 k4 k5
          obtain ⟨k0, k1, k2, k3, k4, k5⟩ := S3.cells
          go_wp2
          go_ret
          exact ⟨by rw [HT.out]; rfl, S3.below⟩
      · have e1 : (xo == 1) = false := by simpa using h1
        by_cases h2 : xo = 2
        · have e2 : (xo == 2) = true := by simpa using h2
          by_cases hx : xa = xb
          · have d1 : (xa != xb) = false := by simpa using hx
            have HT : Hid (telB N xo xa xb = false) := by
              show _ = _
              unfold telB
              simp [hq, hx, h2]
            clear hp hq hx h2
            go_enter Try.func28, Try.ntmps28
            go_wp2_with (go_at_call 53; refine (HVa.out _ S1).mono ?_; rintro e u2 ⟨rfl, S2⟩; refine Hid.out ?_)
            refine (show ∀ {p : Prop}, p → Hid p from fun h => h) ?_
            obtain ⟨k0, k1, k2, k3, k4, k5⟩ := S2.cells
            go_wp2_with (go_at_call 53; refine (HVb.out _ S2).mono ?_; rintro e u3 ⟨rfl, S3⟩; refine Hid.out ?_)
            refine (show ∀ {p : Prop}, p → Hid p from fun h => h) ?_
            clear k0 k1 k2 k3 k4 k5
            obtain ⟨k0, k1, k2, k3, k4, k5⟩ := S3.cells
            go_wp2
            go_ret
            exact ⟨by rw [HT.out]; rfl, S3.below⟩
          · have d1 : (xa != xb) = true := by simpa using hx
            have HT : Hid (telB N xo xa xb = true) := by
              show _ = _
              unfold telB
              simp [hp, hq, hx, h2]
            clear hp hq hx h2
            go_enter Try.func28, Try.ntmps28
            go_wp2_with (go_at_call 53; refine (HVa.out _ S1).mono ?_; rintro e u2 ⟨rfl, S2⟩; refine Hid.out ?_)
            refine (show ∀ {p : Prop}, p → Hid p from fun h => h) ?_
            obtain ⟨k0, k1, k2, k3, k4, k5⟩ := S2.cells
            go_wp2_with (go_at_call 53; refine (HVb.out _ S2).mono ?_; rintro e u3 ⟨rfl, S3⟩; refine Hid.out ?_)
            refine (show ∀ {p : Prop}, p → Hid p from fun h => h) ?_
            clear k0 k1 k2 k3 k4 k5
            obtain ⟨k0, k1, k2, k3, k4, k5⟩ := S3.cells
            go_wp2
            go_ret
            exact ⟨by rw [HT.out]; rfl, S3.below⟩
        · have e2 : (xo == 2) = false := by simpa using h2
          by_cases h3 : xo = 3
          · have e3 : (xo == 3) = true := by simpa using h3
            have HT : Hid (telB N xo xa xb = true) := by
              show _ = _
              unfold telB
              simp [hp, hq, h3]
            clear hp hq h3
            go_enter Try.func28, Try.ntmps28
            go_wp2_with (go_at_call 53; refine (HVa.out _ S1).mono ?_; rintro e u2 ⟨rfl, S2⟩; refine Hid.out ?_)
            refine (show ∀ {p : Prop}, p → Hid p from fun h => h) ?_
            obtain ⟨k0, k1, k2, k3, k4, k5⟩ := S2.cells
            go_wp2_with (go_at_call 53; refine (HVb.out _ S2).mono ?_; rintro e u3 ⟨rfl, S3⟩; refine Hid.out ?_)
            refine (show ∀ {p : Prop}, p → Hid p from fun h => h) ?_
            clear k0 k1 k2 k3 k4 k5
            obtain ⟨k0, k1, k2, k3, k4, k5⟩ := S3.cells
            go_wp2
            go_ret
            exact ⟨by rw [HT.out]; rfl, S3.below⟩
          · have e3 : (xo == 3) = false := by simpa using h3
            by_cases h4 : xo = 4
            · have e4 : (xo == 4) = true := by simpa using h4
              cases hx : sdB xb with
              | false =>
                rw [hx] at HSi
                have HT : Hid (telB N xo xa xb = false) := by
                  show _ = _
                  unfold telB
                  simp [hp, hx, h4]
                clear hp hq hx h4
                go_enter Try.func28, Try.ntmps28
                go_wp2_with (go_at_call 53; refine (HVa.out _ S1).mono ?_; rintro e u2 ⟨rfl, S2⟩; refine Hid.out ?_)
                refine (show ∀ {p : Prop}, p → Hid p from fun h => h) ?_
                obtain ⟨k0, k1, k2, k3, k4, k5⟩ := S2.cells
                go_wp2_with (go_at_call 53; refine (HVb.out _ S2).mono ?_; rintro e u3 ⟨rfl, S3⟩; refine Hid.out ?_)
                refine (show ∀ {p : Prop}, p → Hid p from fun h => h) ?_
                clear k0 k1 k2 k3 k4 k5
                obtain ⟨k0, k1, k2, k3, k4, k5⟩ := S3.cells
                go_wp2_with (go_at_call 53; refine (HVa.out _ S3).mono ?_; rintro e u4 ⟨rfl, S4⟩; refine Hid.out ?_)
                refine (show ∀ {p : Prop}, p → Hid p from fun h => h) ?_
                clear k0 k1 k2 k3 k4 k5
                obtain ⟨k0, k1, k2, k3, k4, k5⟩ := S4.cells
                go_wp2_with (go_at_call 54; refine (HSi.out _ S4).mono ?_; rintro e u5 ⟨rfl, S5⟩; refine Hid.out ?_)
                refine (show ∀ {p : Prop}, p → Hid p from fun h => h) ?_
                clear k0 k1 k2 k3 k4 k5
                obtain ⟨k0, k1, k2, k3, k4, k5⟩ := S5.cells
                go_wp2
                go_ret
                exact ⟨by rw [HT.out]; rfl, S5.below⟩
              | true =>
                rw [hx] at HSi
                have HT : Hid (telB N xo xa xb = true) := by
                  show _ = _
                  unfold telB
                  simp [hp, hx, h4]
                clear hp hq hx h4
                go_enter Try.func28, Try.ntmps28
                go_wp2_with (go_at_call 53; refine (HVa.out _ S1).mono ?_; rintro e u2 ⟨rfl, S2⟩; refine Hid.out ?_)
                refine (show ∀ {p : Prop}, p → Hid p from fun h => h) ?_
                obtain ⟨k0, k1, k2, k3, k4, k5⟩ := S2.cells
                go_wp2_with (go_at_call 53; refine (HVb.out _ S2).mono ?_; rintro e u3 ⟨rfl, S3⟩; refine Hid.out ?_)
                refine (show ∀ {p : Prop}, p → Hid p from fun h => h) ?_
                clear k0 k1 k2 k3 k4 k5
                obtain ⟨k0, k1, k2, k3, k4, k5⟩ := S3.cells
                go_wp2_with (go_at_call 53; refine (HVa.out _ S3).mono ?_; rintro e u4 ⟨rfl, S4⟩; refine Hid.out ?_)
                refine (show ∀ {p : Prop}, p → Hid p from fun h => h) ?_
                clear k0 k1 k2 k3 k4 k5
                obtain ⟨k0, k1, k2, k3, k4, k5⟩ := S4.cells
                go_wp2_with (go_at_call 54; refine (HSi.out _ S4).mono ?_; rintro e u5 ⟨rfl, S5⟩; refine Hid.out ?_)
                refine (show ∀ {p : Prop}, p → Hid p from fun h => h) ?_
                clear k0 k1 k2 k3 k4 k5
                obtain ⟨k0, k1, k2, k3, k4, k5⟩ := S5.cells
                go_wp2
                go_ret
                exact ⟨by rw [HT.out]; rfl, S5.below⟩
            · have e4 : (xo == 4) = false := by simpa using h4
              have HT : Hid (telB N xo xa xb = false) := by
                show _ = _
                unfold telB
                simp [h1, h2, h3, h4]
              clear hp hq h1 h2 h3 h4
              go_enter Try.func28, Try.ntmps28
              go_wp2_with (go_at_call 53; refine (HVa.out _ S1).mono ?_; rintro e u2 ⟨rfl, S2⟩; refine Hid.out ?_)
              refine (show ∀ {p : Prop}, p → Hid p from fun h => h) ?_
              obtain ⟨k0, k1, k2, k3, k4, k5⟩ := S2.cells
              go_wp2_with (go_at_call 53; refine (HVb.out _ S2).mono ?_; rintro e u3 ⟨rfl, S3⟩; refine Hid.out ?_)
              refine (show ∀ {p : Prop}, p → Hid p from fun h => h) ?_
              clear k0 k1 k2 k3 k4 k5
              obtain ⟨k0, k1, k2, k3, k4, k5⟩ := S3.cells
              go_wp2
              go_ret
              exact ⟨by rw [HT.out]; rfl, S3.below⟩
end Go.Proofs.Ytobcihdjennieaa
namespace Go.Proofs.Ytobcihdjennieaa
open Go.RowKit

theorem Sl.nil {a : Option Addr} {n c : Nat} (h : Sl a n c) : a = none → n = 0 ∧ c = 0 := fun e => by
  rcases h.2.2 with h | ⟨b, off, h⟩
  · exact h.2
  · rw [e] at h; simp at h
set_option maxRecDepth 100000 in
set_option maxHeartbeats 4000000 in
theorem gCopy_any (N : Int) (es : List EdgeV) (n : Nat) (a : Option Addr) (c : Nat) (hsl : Sl a n c) (hn : n ≤ 1048576) (w : World) (h : Es w w.heap.size a n es) :
    Calls Try.prog 29 #[.agg #[.int .i64 N, .slice a n c]] w fun e w' => ∃ a' m' c', e = .returned (.agg #[.int .i64 N, .slice a' m' c']) ∧ w'.ownsRow w.heap.size 59 2 (.slice a' m' c') m' (ecells es) ∧ Below w.heap.size w w' := by
  have S1 := InC.start w N a n c
  obtain ⟨w2, hw2⟩ : ∃ w2, w2 = c2 w N a n c := ⟨_, rfl⟩
  have z2 : w2.heap.size = w.heap.size + 2 := by rw [hw2, c2_size]
  rw [← hw2] at S1
  have HK : Hid (∀ u, InC w N a n c u → u.cell? ⟨w.heap.size, 0, none⟩ = some (.int .i64 N) ∧ u.cell? ⟨w.heap.size, 1, none⟩ = some (.slice a n c)) := fun u hu => hu.cells
  have S1d := S1.drew
  have T2b : Below w2.heap.size w2 (w2.alloc (.cells #[.slice a n c] 24)).drew := ((Below.refl _ _).alloc (Nat.le_refl _) _).drew
  have T2 := S1.up T2b
  have HCc : Hid (Calls Try.prog 55 #[.slice (some ⟨w2.heap.size, 0, none⟩) 1 1] (w2.alloc (.cells #[.slice a n c] 24)).drew fun e v => ∃ a' m' c', e = .returned (.slice a' m' c') ∧ Hid (v.ownsRow (w.heap.size + 2) 59 2 (.slice a' m' c') m' (ecells es)) ∧ InC w N a n c v) := by
    have hE2 := (h.up S1.below).up T2b
    refine (Concat_any [⟨a, n, c, es⟩] w2.heap.size 1 rfl (by omega) _ ⟨by simp, fun j q hq => ?_⟩ (by simp [pLen]; omega)).mono fun e v ⟨a', m', c', he, ho, hb⟩ => ⟨a', m', c', he, ?_, T2.up hb⟩
    · rcases j with _ | j
      · simp at hq; subst hq
        exact ⟨by simp [go_sem], hE2, hsl.nil⟩
      · simp at hq
    · have hp : pAll [⟨a, n, c, es⟩] = es := by simp [pAll]
      rw [hp] at ho
      exact own_mono ho (by simp; omega)
  clear h hsl
  go_enter Try.func29, Try.ntmps29
  go_upto_region 1 with fail
  rw [show (w.alloc (.cells #[.int .i64 N, .slice a n c] 26)).alloc (.cells #[.int .i64 0, .slice none 0 0] 26) = w2 from hw2.symm]
  clear hw2 z2
  go_region_held3 (fun u => u.cell? ⟨w.heap.size, 0, none⟩ = some (.int .i64 N) ∧ u.cell? ⟨w.heap.size, 1, none⟩ = some (.slice a n c))
    (first | exact S8.cellsSet _ _ | exact HK.out _ S8 | exact HK.out _ T2 | exact HK.out _ S1d)
    ((go_at_call 55; refine HCc.out.mono ?_; rintro e w8 ⟨a', m', c', rfl, hown8, S8⟩; obtain ⟨⟨r0, r1⟩, r2, r3⟩ := S8.out; have s8 := S8.size))
  all_goals
    go_wp2
    exact bodyPost_ret (v := .agg #[.int .i64 N, .slice a' m' c']) (by simp [results, Try.results29, go_sem, r0, r1]) rfl ⟨a', m', c', rfl, own_mono (own_setLow (own_setLow hown8.out _ 0 _ (by omega)) _ 1 _ (by omega)) (by omega), (S8.below.setCell (by show _ ≤ w.heap.size + 1; omega) _).setCell (by show _ ≤ w.heap.size + 1; omega) _⟩


set_option maxRecDepth 100000 in
set_option maxHeartbeats 4000000 in
theorem changed_add (N : Int) (es : List EdgeV) (f : EdgeV) (n : Nat) (a : Option Addr) (c : Nat) (hsl : Sl a n c) (hn : n ≤ 1048576) (w : World) (h : Es w w.heap.size a n es) :
    Calls Try.prog 30 #[.agg #[.int .i64 N, .slice a n c], .func (.func 31) #[] #[], .agg #[.int .i64 f.1, .int .i64 f.2]] w fun e w' => MAns w N (chR es (addE N es f)) e w' := by
  have HK : Hid (∀ u, In3 w N a n c f u → (u.cell? ⟨w.heap.size, 0, none⟩ = some (.int .i64 N) ∧ u.cell? ⟨w.heap.size, 1, none⟩ = some (.slice a n c)) ∧ (u.cell? ⟨w.heap.size + 1, 0, none⟩ = some (.int .i64 f.1) ∧ u.cell? ⟨w.heap.size + 1, 1, none⟩ = some (.int .i64 f.2))) := fun u hu => hu.cells
  have HA : Hid (∀ u, In3 w N a n c f u → Calls Try.prog 31 #[.agg #[.int .i64 N, .slice a n c], .agg #[.int .i64 f.1, .int .i64 f.2]] u fun e v => ∃ a' m' c', e = .returned (.tuple #[.agg #[.int .i64 (if (addE N es f).isSome then N else 0), .slice a' m' c'], .bool (addE N es f).isSome]) ∧ Hid (v.ownsRow (w.heap.size + 3) 59 2 (.slice a' m' c') m' (ecells ((addE N es f).getD []))) ∧ In3 w N a n c f v) := fun u hu =>
    (iAddEdge_any N es f n a c hsl hn u (h.up hu.below)).mono fun _ _ ⟨a', m', c', he, ho, hb⟩ => ⟨a', m', c', he, own_mono ho hu.size, hu.up hb⟩
  have HCp : Hid (∀ u, In3 w N a n c f u → Calls Try.prog 29 #[.agg #[.int .i64 N, .slice a n c]] u fun e v => ∃ a' m' c', e = .returned (.agg #[.int .i64 N, .slice a' m' c']) ∧ Hid (v.ownsRow (w.heap.size + 3) 59 2 (.slice a' m' c') m' (ecells es)) ∧ In3 w N a n c f v) := fun u hu =>
    (gCopy_any N es n a c hsl hn u (h.up hu.below)).mono fun _ _ ⟨a', m', c', he, ho, hb⟩ => ⟨a', m', c', he, own_mono ho hu.size, hu.up hb⟩
  have S1 := In3.start w N a n c f
  clear h hsl
  cases hp : addE N es f with
  | none =>
    simp only [hp, Option.isSome_none, Option.getD_none, Bool.false_eq_true, if_false] at HA
    clear hp
    go_enter Try.func30, Try.ntmps30
    go_wp2_with (go_at_call 31; refine (HA.out _ S1).mono ?_; rintro e w4 ⟨a1, m1, c1, rfl, _, S4⟩; refine Hid.out ?_)
    refine (show ∀ {p : Prop}, p → Hid p from fun h => h) ?_
    have S5 := S4.up ((Below.refl _ _).alloc (Nat.le_refl _) (.cells #[.int .i64 0, .slice a1 m1 c1] 26))
    obtain ⟨w5, hw5⟩ : ∃ w5, w5 = w4.alloc (.cells #[.int .i64 0, .slice a1 m1 c1] 26) := ⟨_, rfl⟩
    rw [← hw5] at S5
    go_upto_region 4 with fail
    rw [← hw5]
    clear hw5 S4
    obtain ⟨⟨k0, k1⟩, k2, k3⟩ := HK.out _ S5
    go_wp2_with (go_at_call 29; refine (HCp.out _ S5).mono ?_; rintro e w6 ⟨a', m', c', rfl, ho6, S6⟩; refine Hid.out ?_)
    refine (show ∀ {p : Prop}, p → Hid p from fun h => h) ?_
    obtain ⟨⟨r0, r1⟩, r2, r3⟩ := S6.out
    have s6 := S6.size
    clear k0 k1 k2 k3
    go_wp2
    exact bodyPost_ret (v := .tuple #[.agg #[.int .i64 N, .slice a' m' c'], .int .i64 2]) (by simp [results, Try.results30, go_sem, r0, r1]) rfl ⟨a', m', c', rfl, own_mono (own_setLow (own_setLow ho6.out _ 0 _ (by omega)) _ 1 _ (by omega)) (by omega), (S6.below.setCell (by show _ ≤ w.heap.size + 1 + 1; omega) _).setCell (by show _ ≤ w.heap.size + 1 + 1; omega) _⟩
  | some gs =>
    simp only [hp, Option.isSome_some, Option.getD_some, if_true] at HA
    clear hp HCp
    go_enter Try.func30, Try.ntmps30
    go_wp2_with (go_at_call 31; refine (HA.out _ S1).mono ?_; rintro e w4 ⟨a1, m1, c1, rfl, ho4, S4⟩; refine Hid.out ?_)
    refine (show ∀ {p : Prop}, p → Hid p from fun h => h) ?_
    have S5 := S4.up ((Below.refl _ _).alloc (Nat.le_refl _) (.cells #[.int .i64 N, .slice a1 m1 c1] 26))
    have ho5 := hideIt (World.ownsRow.alloc ho4.out (.cells #[.int .i64 N, .slice a1 m1 c1] 26))
    have x0 : (w4.alloc (.cells #[.int .i64 N, .slice a1 m1 c1] 26)).cell? ⟨w4.heap.size, 0, none⟩ = some (.int .i64 N) := by simp [go_sem]
    have x1 : (w4.alloc (.cells #[.int .i64 N, .slice a1 m1 c1] 26)).cell? ⟨w4.heap.size, 1, none⟩ = some (.slice a1 m1 c1) := by simp [go_sem]
    obtain ⟨w5, hw5⟩ : ∃ w5, w5 = w4.alloc (.cells #[.int .i64 N, .slice a1 m1 c1] 26) := ⟨_, rfl⟩
    rw [← hw5] at S5 ho5 x0 x1
    go_upto_region 3 with fail
    rw [← hw5]
    clear hw5 S4 ho4
    obtain ⟨⟨r0, r1⟩, r2, r3⟩ := S5.out
    have s5 := S5.size
    generalize w4.heap.size = B at *
    go_wp2
    exact bodyPost_ret (v := .tuple #[.agg #[.int .i64 N, .slice a1 m1 c1], .int .i64 1]) (by simp [results, Try.results30, go_sem, r0, r1]) rfl ⟨a1, m1, c1, rfl, own_mono (own_setLow (own_setLow ho5.out _ 0 _ (by omega)) _ 1 _ (by omega)) (by omega), (S5.below.setCell (by show _ ≤ w.heap.size + 1 + 1; omega) _).setCell (by show _ ≤ w.heap.size + 1 + 1; omega) _⟩


set_option maxRecDepth 100000 in
set_option maxHeartbeats 4000000 in
theorem changed_take (N : Int) (es : List EdgeV) (f : EdgeV) (n : Nat) (a : Option Addr) (c : Nat) (hsl : Sl a n c) (hn : n ≤ 1048576) (w : World) (h : Es w w.heap.size a n es) :
    Calls Try.prog 30 #[.agg #[.int .i64 N, .slice a n c], .func (.func 33) #[] #[], .agg #[.int .i64 f.1, .int .i64 f.2]] w fun e w' => MAns w N (chR es (takE N es f)) e w' := by
  have HK : Hid (∀ u, In3 w N a n c f u → (u.cell? ⟨w.heap.size, 0, none⟩ = some (.int .i64 N) ∧ u.cell? ⟨w.heap.size, 1, none⟩ = some (.slice a n c)) ∧ (u.cell? ⟨w.heap.size + 1, 0, none⟩ = some (.int .i64 f.1) ∧ u.cell? ⟨w.heap.size + 1, 1, none⟩ = some (.int .i64 f.2))) := fun u hu => hu.cells
  have HA : Hid (∀ u, In3 w N a n c f u → Calls Try.prog 33 #[.agg #[.int .i64 N, .slice a n c], .agg #[.int .i64 f.1, .int .i64 f.2]] u fun e v => ∃ a' m' c', e = .returned (.tuple #[.agg #[.int .i64 (if (takE N es f).isSome then N else 0), .slice a' m' c'], .bool (takE N es f).isSome]) ∧ Hid (v.ownsRow (w.heap.size + 3) 59 2 (.slice a' m' c') m' (ecells ((takE N es f).getD []))) ∧ In3 w N a n c f v) := fun u hu =>
    (iTakeEdge_any N es f n a c hsl hn u (h.up hu.below)).mono fun _ _ ⟨a', m', c', he, ho, hb⟩ => ⟨a', m', c', he, own_mono ho hu.size, hu.up hb⟩
  have HCp : Hid (∀ u, In3 w N a n c f u → Calls Try.prog 29 #[.agg #[.int .i64 N, .slice a n c]] u fun e v => ∃ a' m' c', e = .returned (.agg #[.int .i64 N, .slice a' m' c']) ∧ Hid (v.ownsRow (w.heap.size + 3) 59 2 (.slice a' m' c') m' (ecells es)) ∧ In3 w N a n c f v) := fun u hu =>
    (gCopy_any N es n a c hsl hn u (h.up hu.below)).mono fun _ _ ⟨a', m', c', he, ho, hb⟩ => ⟨a', m', c', he, own_mono ho hu.size, hu.up hb⟩
  have S1 := In3.start w N a n c f
  clear h hsl
  cases hp : takE N es f with
  | none =>
    simp only [hp, Option.isSome_none, Option.getD_none, Bool.false_eq_true, if_false] at HA
    clear hp
    go_enter Try.func30, Try.ntmps30
    go_wp2_with (go_at_call 33; refine (HA.out _ S1).mono ?_; rintro e w4 ⟨a1, m1, c1, rfl, _, S4⟩; refine Hid.out ?_)
    refine (show ∀ {p : Prop}, p → Hid p from fun h => h) ?_
    have S5 := S4.up ((Below.refl _ _).alloc (Nat.le_refl _) (.cells #[.int .i64 0, .slice a1 m1 c1] 26))
    obtain ⟨w5, hw5⟩ : ∃ w5, w5 = w4.alloc (.cells #[.int .i64 0, .slice a1 m1 c1] 26) := ⟨_, rfl⟩
    rw [← hw5] at S5
    go_upto_region 4 with fail
    rw [← hw5]
    clear hw5 S4
    obtain ⟨⟨k0, k1⟩, k2, k3⟩ := HK.out _ S5
    go_wp2_with (go_at_call 29; refine (HCp.out _ S5).mono ?_; rintro e w6 ⟨a', m', c', rfl, ho6, S6⟩; refine Hid.out ?_)
    refine (show ∀ {p : Prop}, p → Hid p from fun h => h) ?_
    obtain ⟨⟨r0, r1⟩, r2, r3⟩ := S6.out
    have s6 := S6.size
    clear k0 k1 k2 k3
    go_wp2
    exact bodyPost_ret (v := .tuple #[.agg #[.int .i64 N, .slice a' m' c'], .int .i64 2]) (by simp [results, Try.results30, go_sem, r0, r1]) rfl ⟨a', m', c', rfl, own_mono (own_setLow (own_setLow ho6.out _ 0 _ (by omega)) _ 1 _ (by omega)) (by omega), (S6.below.setCell (by show _ ≤ w.heap.size + 1 + 1; omega) _).setCell (by show _ ≤ w.heap.size + 1 + 1; omega) _⟩
  | some gs =>
    simp only [hp, Option.isSome_some, Option.getD_some, if_true] at HA
    clear hp HCp
    go_enter Try.func30, Try.ntmps30
    go_wp2_with (go_at_call 33; refine (HA.out _ S1).mono ?_; rintro e w4 ⟨a1, m1, c1, rfl, ho4, S4⟩; refine Hid.out ?_)
    refine (show ∀ {p : Prop}, p → Hid p from fun h => h) ?_
    have S5 := S4.up ((Below.refl _ _).alloc (Nat.le_refl _) (.cells #[.int .i64 N, .slice a1 m1 c1] 26))
    have ho5 := hideIt (World.ownsRow.alloc ho4.out (.cells #[.int .i64 N, .slice a1 m1 c1] 26))
    have x0 : (w4.alloc (.cells #[.int .i64 N, .slice a1 m1 c1] 26)).cell? ⟨w4.heap.size, 0, none⟩ = some (.int .i64 N) := by simp [go_sem]
    have x1 : (w4.alloc (.cells #[.int .i64 N, .slice a1 m1 c1] 26)).cell? ⟨w4.heap.size, 1, none⟩ = some (.slice a1 m1 c1) := by simp [go_sem]
    obtain ⟨w5, hw5⟩ : ∃ w5, w5 = w4.alloc (.cells #[.int .i64 N, .slice a1 m1 c1] 26) := ⟨_, rfl⟩
    rw [← hw5] at S5 ho5 x0 x1
    go_upto_region 3 with fail
    rw [← hw5]
    clear hw5 S4 ho4
    obtain ⟨⟨r0, r1⟩, r2, r3⟩ := S5.out
    have s5 := S5.size
    generalize w4.heap.size = B at *
    go_wp2
    exact bodyPost_ret (v := .tuple #[.agg #[.int .i64 N, .slice a1 m1 c1], .int .i64 1]) (by simp [results, Try.results30, go_sem, r0, r1]) rfl ⟨a1, m1, c1, rfl, own_mono (own_setLow (own_setLow ho5.out _ 0 _ (by omega)) _ 1 _ (by omega)) (by omega), (S5.below.setCell (by show _ ≤ w.heap.size + 1 + 1; omega) _).setCell (by show _ ≤ w.heap.size + 1 + 1; omega) _⟩


theorem mans_yes {w u : World} {N : Int} {a : Option Addr} {n c : Nat} {xi xo xa xb : Int} (h : InM w N a n c xi xo xa xb u) {r : List EdgeV × Int} {gs : List EdgeV} {s : Int} (ho : r = (gs, s)) {B : Nat} {a' : Option Addr} {m' c' : Nat}
    (hB : w.heap.size + 3 ≤ B) (hown : u.ownsRow B 59 2 (.slice a' m' c') m' (ecells gs)) :
    MAns w N r (.returned (.tuple #[.agg #[.int .i64 N, .slice a' m' c'], .int .i64 s])) ((u.setCell ⟨w.heap.size + 1 + 1, 0, none⟩ (.int .i64 N)).setCell ⟨w.heap.size + 1 + 1, 1, none⟩ (.slice a' m' c')) := by
  subst ho
  exact ⟨a', m', c', rfl, own_mono (own_setLow (own_setLow hown _ 0 _ (by omega)) _ 1 _ (by omega)) (by omega), (h.below.setCell (by show _ ≤ w.heap.size + 1 + 1; omega) _).setCell (by show _ ≤ w.heap.size + 1 + 1; omega) _⟩


set_option maxRecDepth 100000 in
set_option maxHeartbeats 4000000 in
theorem iModel_any (N : Int) (es : List EdgeV) (xi xo xa xb : Int) (n : Nat) (a : Option Addr) (c : Nat) (hsl : Sl a n c) (hn : n ≤ 1048576) (w : World) (h : Es w w.heap.size a n es) :
    Calls Try.prog 8 #[.agg #[.int .i64 N, .slice a n c], .agg #[.int .i64 xi, .int .i64 xo, .int .i64 xa, .int .i64 xb]] w fun e w' => MAns w N (mdR N es xo xa xb) e w' := by
  have HE : Hid (∀ u, InM w N a n c xi xo xa xb u → Es u u.heap.size a n es) := fun u hu => h.up hu.below
  have HK : Hid (∀ u, InM w N a n c xi xo xa xb u → _) := fun u (hu : InM w N a n c xi xo xa xb u) => hu.cells
  have HCT : Hid (∀ u, InM w N a n c xi xo xa xb u → Calls Try.prog 28 #[.agg #[.int .i64 N, .slice a n c], .agg #[.int .i64 xi, .int .i64 xo, .int .i64 xa, .int .i64 xb]] u fun e v => e = .returned (.bool (telB N xo xa xb)) ∧ InM w N a n c xi xo xa xb v) := fun u hu => (canTell_any N a n c xi xo xa xb u).mono fun _ _ ⟨he, hb⟩ => ⟨he, hu.up hb⟩
  have HCp : Hid (∀ u, InM w N a n c xi xo xa xb u → Calls Try.prog 29 #[.agg #[.int .i64 N, .slice a n c]] u fun e v => ∃ a' m' c', e = .returned (.agg #[.int .i64 N, .slice a' m' c']) ∧ Hid (v.ownsRow (w.heap.size + 3) 59 2 (.slice a' m' c') m' (ecells es)) ∧ InM w N a n c xi xo xa xb v) := fun u hu =>
    (gCopy_any N es n a c hsl hn u (HE.out u hu)).mono fun _ _ ⟨a', m', c', he, ho, hb⟩ => ⟨a', m', c', he, own_mono ho hu.size, hu.up hb⟩
  have HAE : Hid (∀ u, InM w N a n c xi xo xa xb u → Calls Try.prog 32 #[.agg #[.int .i64 xi, .int .i64 xo, .int .i64 xa, .int .i64 xb]] u fun e v => e = .returned (.agg #[.int .i64 (edA xa xb).1, .int .i64 (edA xa xb).2]) ∧ InM w N a n c xi xo xa xb v) := fun u hu => (askEdge_any xi xo xa xb u).mono fun _ _ ⟨he, hb⟩ => ⟨he, hu.up hb⟩
  have HTg : Hid (∀ u, InM w N a n c xi xo xa xb u → Calls Try.prog 34 #[.agg #[.int .i64 N, .slice a n c], .int .i64 xa, .int .i64 xb] u fun e v => e = .returned (.bool (togB (labE N es) xa xb)) ∧ InM w N a n c xi xo xa xb v) := fun u hu => (iTogether_any N es xa xb n a c hn u (HE.out u hu)).mono fun _ _ ⟨he, hb⟩ => ⟨he, hu.up hb⟩
  have S1 := InM.start w N a n c xi xo xa xb
  have HCadd : Hid (∀ u, InM w N a n c xi xo xa xb u → Calls Try.prog 30 #[.agg #[.int .i64 N, .slice a n c], .func (.func 31) #[] #[], .agg #[.int .i64 (edA xa xb).1, .int .i64 (edA xa xb).2]] u fun e v => ∃ a' m' c', e = .returned (.tuple #[.agg #[.int .i64 N, .slice a' m' c'], .int .i64 (chR es (addE N es (edA xa xb))).2]) ∧ Hid (v.ownsRow (w.heap.size + 3) 59 2 (.slice a' m' c') m' (ecells (chR es (addE N es (edA xa xb))).1)) ∧ InM w N a n c xi xo xa xb v) := fun u hu =>
    (changed_add N es (edA xa xb) n a c hsl hn u (HE.out u hu)).mono fun _ _ ⟨a', m', c', he, ho, hb⟩ => ⟨a', m', c', he, own_mono ho hu.size, hu.up hb⟩
  have HCtake : Hid (∀ u, InM w N a n c xi xo xa xb u → Calls Try.prog 30 #[.agg #[.int .i64 N, .slice a n c], .func (.func 33) #[] #[], .agg #[.int .i64 (edA xa xb).1, .int .i64 (edA xa xb).2]] u fun e v => ∃ a' m' c', e = .returned (.tuple #[.agg #[.int .i64 N, .slice a' m' c'], .int .i64 (chR es (takE N es (edA xa xb))).2]) ∧ Hid (v.ownsRow (w.heap.size + 3) 59 2 (.slice a' m' c') m' (ecells (chR es (takE N es (edA xa xb))).1)) ∧ InM w N a n c xi xo xa xb v) := fun u hu =>
    (changed_take N es (edA xa xb) n a c hsl hn u (HE.out u hu)).mono fun _ _ ⟨a', m', c', he, ho, hb⟩ => ⟨a', m', c', he, own_mono ho hu.size, hu.up hb⟩
  clear h hsl HE
  cases hT : telB N xo xa xb with
  | false =>
    rw [hT] at HCT
    have HO := hideIt (show mdR N es xo xa xb = (es, 3) by unfold mdR; simp [hT])
    clear hT HAE HTg HCadd HCtake
    go_enter Try.func8, Try.ntmps8
    go_wp2_with (go_at_call 28; refine (HCT.out _ S1).mono ?_; rintro e u2 ⟨rfl, S2⟩; refine Hid.out ?_)
    refine (show ∀ {p : Prop}, p → Hid p from fun h => h) ?_
    obtain ⟨k0, k1, k2, k3, k4, k5⟩ := HK.out _ S2
    go_wp2_with (go_at_call 29; refine (HCp.out _ S2).mono ?_; rintro e u9 ⟨a', m', c', rfl, ho9, S9⟩; refine Hid.out ?_)
    refine (show ∀ {p : Prop}, p → Hid p from fun h => h) ?_
    clear k0 k1 k2 k3 k4 k5
    obtain ⟨⟨r0, r1⟩, r2, r3⟩ := S9.out
    have sz := S9.size
    go_wp2
    exact bodyPost_ret (v := .tuple #[.agg #[.int .i64 N, .slice a' m' c'], .int .i64 3]) (by simp [results, Try.results8, go_sem, r0, r1]) rfl (mans_yes S9 HO.out (Nat.le_refl _) ho9.out)
  | true =>
    rw [hT] at HCT
    by_cases h1 : xo = 1
    · have e1 : (xo == 1) = true := by simpa using h1
      have HO := hideIt (show mdR N es xo xa xb = ((chR es (addE N es (edA xa xb))).1, (chR es (addE N es (edA xa xb))).2) by unfold mdR; rw [hT]; simp [h1])
      clear hT HTg HCp HCtake h1
      generalize chR es (addE N es (edA xa xb)) = r at *
      generalize edA xa xb = f at *
      go_enter Try.func8, Try.ntmps8
      go_wp2_with (go_at_call 28; refine (HCT.out _ S1).mono ?_; rintro e u2 ⟨rfl, S2⟩; refine Hid.out ?_)
      refine (show ∀ {p : Prop}, p → Hid p from fun h => h) ?_
      obtain ⟨k0, k1, k2, k3, k4, k5⟩ := HK.out _ S2
      have S2d := S2.drew
      clear k0 k1 k2 k3 k4 k5
      obtain ⟨k0, k1, k2, k3, k4, k5⟩ := HK.out _ S2
      go_upto_region 4 with fail
      go_region_held3 (fun u => u.cell? ⟨w.heap.size, 0, none⟩ = some (.int .i64 N) ∧ u.cell? ⟨w.heap.size, 1, none⟩ = some (.slice a n c) ∧ u.cell? ⟨w.heap.size + 1, 0, none⟩ = some (.int .i64 xi) ∧ u.cell? ⟨w.heap.size + 1, 1, none⟩ = some (.int .i64 xo) ∧ u.cell? ⟨w.heap.size + 1, 2, none⟩ = some (.int .i64 xa) ∧ u.cell? ⟨w.heap.size + 1, 3, none⟩ = some (.int .i64 xb))
        (first | exact S8.cellsSet _ _ | exact HK.out _ S8 | exact HK.out _ S7 | exact HK.out _ S2d)
        (first
          | (go_at_call 32; refine (HAE.out _ S2d).mono ?_; rintro e u7 ⟨rfl, S7⟩)
          | (go_at_call 30; refine (HCadd.out _ S7).mono ?_; rintro e u8 ⟨a', m', c', rfl, ho8, S8⟩; obtain ⟨⟨r0, r1⟩, r2, r3⟩ := S8.out; have s8 := S8.size))
      all_goals
        go_wp2
        exact bodyPost_ret (v := .tuple #[.agg #[.int .i64 N, .slice a' m' c'], .int .i64 r.2]) (by simp [results, Try.results8, go_sem, r0, r1]) rfl (mans_yes S8 HO.out (Nat.le_refl _) ho8.out)
    · have e1 : (xo == 1) = false := by simpa using h1
      by_cases h2 : xo = 2
      · have e2 : (xo == 2) = true := by simpa using h2
        have HO := hideIt (show mdR N es xo xa xb = ((chR es (takE N es (edA xa xb))).1, (chR es (takE N es (edA xa xb))).2) by unfold mdR; rw [hT]; simp [h2])
        clear hT HTg HCp HCadd h2 h1
        generalize chR es (takE N es (edA xa xb)) = r at *
        generalize edA xa xb = f at *
        go_enter Try.func8, Try.ntmps8
        go_wp2_with (go_at_call 28; refine (HCT.out _ S1).mono ?_; rintro e u2 ⟨rfl, S2⟩; refine Hid.out ?_)
        refine (show ∀ {p : Prop}, p → Hid p from fun h => h) ?_
        obtain ⟨k0, k1, k2, k3, k4, k5⟩ := HK.out _ S2
        have S2d := S2.drew
        clear k0 k1 k2 k3 k4 k5
        obtain ⟨k0, k1, k2, k3, k4, k5⟩ := HK.out _ S2
        go_upto_region 6 with fail
        go_region_held3 (fun u => u.cell? ⟨w.heap.size, 0, none⟩ = some (.int .i64 N) ∧ u.cell? ⟨w.heap.size, 1, none⟩ = some (.slice a n c) ∧ u.cell? ⟨w.heap.size + 1, 0, none⟩ = some (.int .i64 xi) ∧ u.cell? ⟨w.heap.size + 1, 1, none⟩ = some (.int .i64 xo) ∧ u.cell? ⟨w.heap.size + 1, 2, none⟩ = some (.int .i64 xa) ∧ u.cell? ⟨w.heap.size + 1, 3, none⟩ = some (.int .i64 xb))
          (first | exact S8.cellsSet _ _ | exact HK.out _ S8 | exact HK.out _ S7 | exact HK.out _ S2d)
          (first
            | (go_at_call 32; refine (HAE.out _ S2d).mono ?_; rintro e u7 ⟨rfl, S7⟩)
            | (go_at_call 30; refine (HCtake.out _ S7).mono ?_; rintro e u8 ⟨a', m', c', rfl, ho8, S8⟩; obtain ⟨⟨r0, r1⟩, r2, r3⟩ := S8.out; have s8 := S8.size))
        all_goals
          go_wp2
          exact bodyPost_ret (v := .tuple #[.agg #[.int .i64 N, .slice a' m' c'], .int .i64 r.2]) (by simp [results, Try.results8, go_sem, r0, r1]) rfl (mans_yes S8 HO.out (Nat.le_refl _) ho8.out)
      · have e2 : (xo == 2) = false := by simpa using h2
        clear HCadd HCtake HAE
        by_cases h3 : xo = 3
        · have e3 : (xo == 3) = true := by simpa using h3
          cases hg : togB (labE N es) xa xb with
          | false =>
            rw [hg] at HTg
            have HO := hideIt (show mdR N es xo xa xb = (es, 2) by unfold mdR; rw [hT]; simp [hg, h3])
            clear hT hg h1 h2 h3
            go_enter Try.func8, Try.ntmps8
            go_wp2_with (go_at_call 28; refine (HCT.out _ S1).mono ?_; rintro e u2 ⟨rfl, S2⟩; refine Hid.out ?_)
            refine (show ∀ {p : Prop}, p → Hid p from fun h => h) ?_
            obtain ⟨k0, k1, k2, k3, k4, k5⟩ := HK.out _ S2
            go_wp2_with (go_at_call 34; refine (HTg.out _ S2).mono ?_; rintro e u3 ⟨rfl, S3⟩; refine Hid.out ?_)
            refine (show ∀ {p : Prop}, p → Hid p from fun h => h) ?_
            clear k0 k1 k2 k3 k4 k5
            obtain ⟨k0, k1, k2, k3, k4, k5⟩ := HK.out _ S3
            go_wp2_with (go_at_call 29; refine (HCp.out _ S3).mono ?_; rintro e u9 ⟨a', m', c', rfl, ho9, S9⟩; refine Hid.out ?_)
            refine (show ∀ {p : Prop}, p → Hid p from fun h => h) ?_
            clear k0 k1 k2 k3 k4 k5
            obtain ⟨⟨r0, r1⟩, r2, r3⟩ := S9.out
            have sz := S9.size
            go_wp2
            exact bodyPost_ret (v := .tuple #[.agg #[.int .i64 N, .slice a' m' c'], .int .i64 2]) (by simp [results, Try.results8, go_sem, r0, r1]) rfl (mans_yes S9 HO.out (Nat.le_refl _) ho9.out)
          | true =>
            rw [hg] at HTg
            have HO := hideIt (show mdR N es xo xa xb = (es, 1) by unfold mdR; rw [hT]; simp [hg, h3])
            clear hT hg h1 h2 h3
            go_enter Try.func8, Try.ntmps8
            go_wp2_with (go_at_call 28; refine (HCT.out _ S1).mono ?_; rintro e u2 ⟨rfl, S2⟩; refine Hid.out ?_)
            refine (show ∀ {p : Prop}, p → Hid p from fun h => h) ?_
            obtain ⟨k0, k1, k2, k3, k4, k5⟩ := HK.out _ S2
            go_wp2_with (go_at_call 34; refine (HTg.out _ S2).mono ?_; rintro e u3 ⟨rfl, S3⟩; refine Hid.out ?_)
            refine (show ∀ {p : Prop}, p → Hid p from fun h => h) ?_
            clear k0 k1 k2 k3 k4 k5
            obtain ⟨k0, k1, k2, k3, k4, k5⟩ := HK.out _ S3
            go_wp2_with (go_at_call 29; refine (HCp.out _ S3).mono ?_; rintro e u9 ⟨a', m', c', rfl, ho9, S9⟩; refine Hid.out ?_)
            refine (show ∀ {p : Prop}, p → Hid p from fun h => h) ?_
            clear k0 k1 k2 k3 k4 k5
            obtain ⟨⟨r0, r1⟩, r2, r3⟩ := S9.out
            have sz := S9.size
            go_wp2
            exact bodyPost_ret (v := .tuple #[.agg #[.int .i64 N, .slice a' m' c'], .int .i64 1]) (by simp [results, Try.results8, go_sem, r0, r1]) rfl (mans_yes S9 HO.out (Nat.le_refl _) ho9.out)
        · have e3 : (xo == 3) = false := by simpa using h3
          have HO := hideIt (show mdR N es xo xa xb = (es, 1) by unfold mdR; rw [hT]; simp [h1, h2, h3])
          clear hT h1 h2 h3
          go_enter Try.func8, Try.ntmps8
          go_wp2_with (go_at_call 28; refine (HCT.out _ S1).mono ?_; rintro e u2 ⟨rfl, S2⟩; refine Hid.out ?_)
          refine (show ∀ {p : Prop}, p → Hid p from fun h => h) ?_
          obtain ⟨k0, k1, k2, k3, k4, k5⟩ := HK.out _ S2
          go_wp2_with (go_at_call 29; refine (HCp.out _ S2).mono ?_; rintro e u9 ⟨a', m', c', rfl, ho9, S9⟩; refine Hid.out ?_)
          refine (show ∀ {p : Prop}, p → Hid p from fun h => h) ?_
          clear k0 k1 k2 k3 k4 k5
          obtain ⟨⟨r0, r1⟩, r2, r3⟩ := S9.out
          have sz := S9.size
          go_wp2
          exact bodyPost_ret (v := .tuple #[.agg #[.int .i64 N, .slice a' m' c'], .int .i64 1]) (by simp [results, Try.results8, go_sem, r0, r1]) rfl (mans_yes S9 HO.out (Nat.le_refl _) ho9.out)
end Go.Proofs.Ytobcihdjennieaa
namespace Go.Proofs.Ytobcihdjennieaa
open Go.RowKit

/-- the world behind the edge's box -/
def wE (w : World) (e : EdgeV) : World := w.alloc (.cells #[.int .i64 e.1, .int .i64 e.2] 59)
theorem wE_size (w : World) (e : EdgeV) : (wE w e).heap.size = w.heap.size + 1 := by simp [wE]
/-- nothing of it has turned, and the row is ours -/
structure PutSt (w : World) (e : EdgeV) (a : Option Addr) (m c : Nat) (gs : List EdgeV) (u : World) : Prop where
  own : u.ownsRow (w.heap.size + 1) 59 2 (.slice a m c) m (ecells gs)
  bel : Below (w.heap.size + 1) (wE w e) u
theorem PutSt.size {w : World} {e : EdgeV} {a : Option Addr} {m c : Nat} {gs : List EdgeV} {u : World} (h : PutSt w e a m c gs u) : w.heap.size + 1 ≤ u.heap.size := by have := h.bel.size; rw [wE_size] at this; exact this
theorem PutSt.len {w : World} {e : EdgeV} {a : Option Addr} {m c : Nat} {gs : List EdgeV} {u : World} (h : PutSt w e a m c gs u) : gs.length = m := by have := h.own.1; rw [ecells_length] at this; omega
theorem PutSt.below {w : World} {e : EdgeV} {a : Option Addr} {m c : Nat} {gs : List EdgeV} {u : World} (h : PutSt w e a m c gs u) : Below w.heap.size w u :=
  ((Below.refl w.heap.size w).alloc (Nat.le_refl _) _).trans (h.bel.mono (by omega))
theorem PutSt.up {w : World} {e : EdgeV} {a : Option Addr} {m c : Nat} {gs : List EdgeV} {u v : World} (h : PutSt w e a m c gs u) (hb : Below u.heap.size u v) : PutSt w e a m c gs v :=
  ⟨World.ownsRow.kept h.own (show u.grownBy v none from ⟨hb.os, hb.tape, hb.output, hb.size, fun k hk _ => hb.block k hk⟩) (by cases hv : (Value.slice a m c).ownBlock <;> simp), h.bel.trans (hb.mono h.size)⟩
theorem PutSt.box {w : World} {e : EdgeV} {a : Option Addr} {m c : Nat} {gs : List EdgeV} {u : World} (h : PutSt w e a m c gs u) : u.cell? ⟨w.heap.size, 0, none⟩ = some (.int .i64 e.1) ∧ u.cell? ⟨w.heap.size, 1, none⟩ = some (.int .i64 e.2) := by
  refine ⟨?_, ?_⟩
  · rw [h.bel.cell (by show w.heap.size < _; omega)]; simp [wE]
  · rw [h.bel.cell (by show w.heap.size < _; omega)]; simp [wE]
/-- behind an append of one edge -/
theorem PutSt.app {w : World} {e : EdgeV} {a : Option Addr} {m c : Nat} {gs : List EdgeV} {u : World} (h : PutSt w e a m c gs u) {g : EdgeV} {o : Obj} {v : Value} {u' : World}
    (ho : u'.ownsRow (w.heap.size + 1) 59 2 v (m + 1) (ecells gs ++ [.int .i64 g.1, .int .i64 g.2])) (hg : (u.alloc o).grownBy u' (Value.slice a m c).ownBlock) :
    ∃ a' c', v = .slice a' (m + 1) c' ∧ PutSt w e a' (m + 1) c' (gs ++ [g]) u' := by
  obtain ⟨a', c', rfl⟩ := own_form ho
  rw [← ecells_snoc] at ho
  refine ⟨a', c', rfl, ho, ?_⟩
  exact (h.bel.alloc h.size _).grown hg (by have := h.size; simp; omega) (fun j hj => (h.own.lt j hj).1)
theorem news1 (w : World) (g : EdgeV) : ∀ j u, ([Value.int .i64 g.1, Value.int .i64 g.2] : List Value)[j]? = some u → (w.alloc (.cells #[.int .i64 g.1, .int .i64 g.2] 59)).cell? ((⟨w.heap.size, 0, none⟩ : Addr).add j) = some u := by
  intro j u hj
  rcases j with _ | _ | j
  · simp at hj; subst hj; simp [Addr.add]
  · simp at hj; subst hj; simp [Addr.add]
  · simp at hj

set_option maxRecDepth 100000 in
set_option maxHeartbeats 4000000 in
theorem l05Put_any (es : List EdgeV) (e : EdgeV) (n : Nat) (a : Option Addr) (c : Nat) (hn : n ≤ 1048576) (w : World) (h : Es w w.heap.size a n es) :
    Calls Try.prog 66 #[.slice a n c, .agg #[.int .i64 e.1, .int .i64 e.2]] w fun x w' => ∃ a' m' c', x = .returned (.slice a' m' c') ∧ w'.ownsRow w.heap.size 59 2 (.slice a' m' c') m' (ecells (putE es e)) ∧ Below w.heap.size w w' := by
  obtain ⟨i0, hi, hz0, hz1, hz2⟩ := info_parts infoIE
  obtain ⟨hlen, hrow⟩ := h
  have HR := hideIt hrow
  clear hrow
  have HLs : Hid (∀ (a' : Option Addr) (m' c' : Nat) (gs : List EdgeV) (d f : EdgeV) (W : World), PutSt w e a' m' c' gs W → Calls Try.prog 68 #[.agg #[.int .i64 d.1, .int .i64 d.2], .agg #[.int .i64 f.1, .int .i64 f.2]] W fun x w' => x = .returned (.bool (lt d f)) ∧ PutSt w e a' m' c' gs w') := fun _ _ _ _ d f W hW =>
    (l05Less_any d f W).mono fun _ _ ⟨he, hb⟩ => ⟨he, hW.up hb⟩
  go_enter Try.func66, Try.ntmps66
  go_wp2
  go_loopw [5, 6] (fun v i wr => ∃ (k m' : Nat) (a' : Option Addr) (c' : Nat) (gs : List EdgeV), k ≤ n ∧ i = .int .i64 (k : Int) ∧ v = .slice a' m' c' ∧ m' ≤ k ∧ Hid (gs = (es.take k).filter (fun d => lt d e)) ∧ PutSt w e a' m' c' gs wr) (fun _ i _ => n - (intOf i).toNat)
  case atStart =>
    refine ⟨0, 0, _, _, [], by omega, rfl, rfl, by omega, by show _ = _; simp, ?_, ?_⟩
    · have h0 := World.ownsRow_lit (base := w.heap.size + 1) (e := 59) (size := 2) (wE w e) #[] 0 (by rw [wE_size]; omega) (by unfold maxLen; omega) (by simp)
      rw [wE_size] at h0
      simpa [ecells, wE] using h0
    · have h1 := (Below.refl (w.heap.size + 1) (wE w e)).alloc (by rw [wE_size]; omega) (.cells #[] 59)
      simpa [wE] using h1
  case round =>
    obtain ⟨k, m', a', c', gs, hk, rfl, rfl, hm, hgs, hst⟩ := hrel
    by_cases hlt : k < n
    · rcases HR.out with hz | ⟨b, off, rfl, hbl, hc⟩
      · omega
      · obtain ⟨f, hf⟩ : ∃ f, es[k]? = some f := ⟨es[k]'(by omega), List.getElem?_eq_getElem (by omega)⟩
        obtain ⟨c0, c1⟩ := hc k f hf
        have b1 : (0 : Int) ≤ (k : Int) := by omega
        have b2 : (k : Int) < (n : Int) := by omega
        have HK : Hid (∀ W : World, PutSt w e a' m' c' gs W → (W.cell? ⟨b, off + k * 2, none⟩ = some (.int .i64 f.1) ∧ W.cell? ⟨b, off + k * 2 + 1, none⟩ = some (.int .i64 f.2)) ∧ W.cell? ⟨w.heap.size, 0, none⟩ = some (.int .i64 e.1) ∧ W.cell? ⟨w.heap.size, 1, none⟩ = some (.int .i64 e.2)) := fun W hW =>
          ⟨⟨by rw [hW.below.cell hbl]; exact c0, by rw [hW.below.cell hbl]; exact c1⟩, hW.box⟩
        have S0 := hst.up (Below.refl _ _).drew
        have HLc := hideIt (HLs.out a' m' c' gs f e _ S0)
        have e0 := (HK.out _ hst).1.1
        have e1 := (HK.out _ hst).1.2
        cases hL : lt f e with
        | true =>
          rw [hL] at HLc
          have HG : Hid (gs ++ [f] = (es.take (k + 1)).filter (fun d => lt d e)) := by
            show _ = _
            rw [take_snocF es k f hf, List.filter_append, hgs.out]
            simp [hL]
          clear hc hf c0 c1 hL
          go_wp2
          go_region_held3 (fun u => PutSt w e a' m' c' gs u ∧ (u.cell? ⟨b, off + k * 2, none⟩ = some (.int .i64 f.1) ∧ u.cell? ⟨b, off + k * 2 + 1, none⟩ = some (.int .i64 f.2)) ∧ u.cell? ⟨w.heap.size, 0, none⟩ = some (.int .i64 e.1) ∧ u.cell? ⟨w.heap.size, 1, none⟩ = some (.int .i64 e.2))
            (first | exact ⟨S1, HK.out _ S1⟩ | exact ⟨S0, HK.out _ S0⟩)
            ((go_at_call 68; refine HLc.out.mono ?_; rintro x w1 ⟨rfl, S1⟩))
          obtain ⟨⟨y0, y1⟩, _, _⟩ := HK.out _ S1
          have z1 := S1.size
          clear HLc S0
          go_wp2_with (at_builtin; refine wpList_append_own _ rfl _ _ 24 rfl (w.heap.size + 1) 59 i0 _ 2 16 Try.underlying24 hi hz0 hz1 hz2 rfl (by decide) _ _ _ rfl (S1.own.alloc _) ⟨w1.heap.size, 0, none⟩ 1 1 [.int .i64 f.1, .int .i64 f.2] rfl rfl (news1 _ _) (by intro u hu; simp at hu; rcases hu with rfl | rfl <;> rfl) (by unfold maxLen; omega) (by omega) (by simp; omega) ?_)
          intro v2 w2 hown2 hg2 hn2
          obtain ⟨a2, c2, rfl, hst2⟩ := S1.app hown2 hg2
          clear hown2 hg2 hn2 S1 y0 y1 e0 e1 hst
          go_wp2
          exact ⟨⟨k + 1, m' + 1, a2, c2, gs ++ [f], by omega, by go_num, rfl, by omega, HG, hst2⟩, by simp [intOf]; omega⟩
        | false =>
          rw [hL] at HLc
          have HG : Hid (gs = (es.take (k + 1)).filter (fun d => lt d e)) := by
            show _ = _
            rw [take_snocF es k f hf, List.filter_append, hgs.out]
            simp [hL]
          clear hc hf c0 c1 hL
          go_wp2
          go_region_held3 (fun u => PutSt w e a' m' c' gs u ∧ (u.cell? ⟨b, off + k * 2, none⟩ = some (.int .i64 f.1) ∧ u.cell? ⟨b, off + k * 2 + 1, none⟩ = some (.int .i64 f.2)) ∧ u.cell? ⟨w.heap.size, 0, none⟩ = some (.int .i64 e.1) ∧ u.cell? ⟨w.heap.size, 1, none⟩ = some (.int .i64 e.2))
            (first | exact ⟨S1, HK.out _ S1⟩ | exact ⟨S0, HK.out _ S0⟩)
            ((go_at_call 68; refine HLc.out.mono ?_; rintro x w1 ⟨rfl, S1⟩))
          go_wp2
          exact ⟨⟨k + 1, m', a', c', gs, by omega, by go_num, rfl, by omega, HG, S1⟩, by simp [intOf]; omega⟩
    · obtain rfl : k = n := by omega
      have HG : Hid (gs ++ [e] = es.filter (fun d => lt d e) ++ [e]) := by show _ = _; rw [hgs.out, List.take_of_length_le (by omega)]
      obtain ⟨x0, x1⟩ := hst.box
      have z1 := hst.size
      clear hgs
      go_wp2_with (at_builtin; refine wpList_append_own _ rfl _ _ 24 rfl (w.heap.size + 1) 59 i0 _ 2 16 Try.underlying24 hi hz0 hz1 hz2 rfl (by decide) _ _ _ rfl (hst.own.alloc _) ⟨wr.heap.size, 0, none⟩ 1 1 [.int .i64 e.1, .int .i64 e.2] rfl rfl (news1 _ _) (by intro u hu; simp at hu; rcases hu with rfl | rfl <;> rfl) (by unfold maxLen; omega) (by omega) (by simp; omega) ?_)
      intro v2 w2 hown2 hg2 hn2
      obtain ⟨a2, c2, rfl, hst2⟩ := hst.app hown2 hg2
      have hmk : m' + 1 ≤ k + 1 := by omega
      generalize m' + 1 = m3 at hst2 hmk
      generalize gs ++ [e] = g0 at HG hst2
      clear hown2 hg2 hn2 x0 x1 hst
      go_wp2
      go_loopw [5, 7] (fun v i wr => ∃ (q m' : Nat) (a' : Option Addr) (c' : Nat) (gs : List EdgeV), q ≤ k ∧ i = .int .i64 (q : Int) ∧ v = .slice a' m' c' ∧ m' ≤ k + 1 + q ∧ Hid (gs = g0 ++ (es.take q).filter (fun d => lt e d)) ∧ PutSt w e a' m' c' gs wr) (fun _ i _ => k - (intOf i).toNat)
      case atStart => exact ⟨0, m3, a2, c2, g0, by omega, rfl, rfl, by omega, by show _ = _; simp, hst2⟩
      case round =>
        obtain ⟨q, m', a', c', gs, hq, rfl, rfl, hm, hgs, hst⟩ := hrel
        by_cases hlt : q < k
        · rcases HR.out with hz | ⟨b, off, rfl, hbl, hc⟩
          · omega
          · obtain ⟨f, hf⟩ : ∃ f, es[q]? = some f := ⟨es[q]'(by omega), List.getElem?_eq_getElem (by omega)⟩
            obtain ⟨c0, c1⟩ := hc q f hf
            have b1 : (0 : Int) ≤ (q : Int) := by omega
            have b2 : (q : Int) < (k : Int) := by omega
            have HK : Hid (∀ W : World, PutSt w e a' m' c' gs W → (W.cell? ⟨b, off + q * 2, none⟩ = some (.int .i64 f.1) ∧ W.cell? ⟨b, off + q * 2 + 1, none⟩ = some (.int .i64 f.2)) ∧ W.cell? ⟨w.heap.size, 0, none⟩ = some (.int .i64 e.1) ∧ W.cell? ⟨w.heap.size, 1, none⟩ = some (.int .i64 e.2)) := fun W hW =>
              ⟨⟨by rw [hW.below.cell hbl]; exact c0, by rw [hW.below.cell hbl]; exact c1⟩, hW.box⟩
            have S0 := hst.up (Below.refl _ _).drew
            have HLc := hideIt (HLs.out a' m' c' gs e f _ S0)
            have e0 := (HK.out _ hst).1.1
            have e1 := (HK.out _ hst).1.2
            cases hL : lt e f with
            | true =>
              rw [hL] at HLc
              have HG : Hid (gs ++ [f] = g0 ++ (es.take (q + 1)).filter (fun d => lt e d)) := by
                show _ = _
                rw [take_snocF es q f hf, List.filter_append, hgs.out]
                simp [hL]
              clear hc hf c0 c1 hL
              go_wp2
              go_region_held3 (fun u => PutSt w e a' m' c' gs u ∧ (u.cell? ⟨b, off + q * 2, none⟩ = some (.int .i64 f.1) ∧ u.cell? ⟨b, off + q * 2 + 1, none⟩ = some (.int .i64 f.2)) ∧ u.cell? ⟨w.heap.size, 0, none⟩ = some (.int .i64 e.1) ∧ u.cell? ⟨w.heap.size, 1, none⟩ = some (.int .i64 e.2))
                (first | exact ⟨S1, HK.out _ S1⟩ | exact ⟨S0, HK.out _ S0⟩)
                ((go_at_call 68; refine HLc.out.mono ?_; rintro x w1 ⟨rfl, S1⟩))
              obtain ⟨⟨y0, y1⟩, _, _⟩ := HK.out _ S1
              have z1 := S1.size
              clear HLc S0
              go_wp2_with (at_builtin; refine wpList_append_own _ rfl _ _ 24 rfl (w.heap.size + 1) 59 i0 _ 2 16 Try.underlying24 hi hz0 hz1 hz2 rfl (by decide) _ _ _ rfl (S1.own.alloc _) ⟨w1.heap.size, 0, none⟩ 1 1 [.int .i64 f.1, .int .i64 f.2] rfl rfl (news1 _ _) (by intro u hu; simp at hu; rcases hu with rfl | rfl <;> rfl) (by unfold maxLen; omega) (by omega) (by simp; omega) ?_)
              intro v2 w2 hown2 hg2 hn2
              obtain ⟨a2, c2, rfl, hst2⟩ := S1.app hown2 hg2
              clear hown2 hg2 hn2 S1 y0 y1 e0 e1 hst
              go_wp2
              exact ⟨⟨q + 1, m' + 1, a2, c2, gs ++ [f], by omega, by go_num, rfl, by omega, HG, hst2⟩, by simp [intOf]; omega⟩
            | false =>
              rw [hL] at HLc
              have HG : Hid (gs = g0 ++ (es.take (q + 1)).filter (fun d => lt e d)) := by
                show _ = _
                rw [take_snocF es q f hf, List.filter_append, hgs.out]
                simp [hL]
              clear hc hf c0 c1 hL
              go_wp2
              go_region_held3 (fun u => PutSt w e a' m' c' gs u ∧ (u.cell? ⟨b, off + q * 2, none⟩ = some (.int .i64 f.1) ∧ u.cell? ⟨b, off + q * 2 + 1, none⟩ = some (.int .i64 f.2)) ∧ u.cell? ⟨w.heap.size, 0, none⟩ = some (.int .i64 e.1) ∧ u.cell? ⟨w.heap.size, 1, none⟩ = some (.int .i64 e.2))
                (first | exact ⟨S1, HK.out _ S1⟩ | exact ⟨S0, HK.out _ S0⟩)
                ((go_at_call 68; refine HLc.out.mono ?_; rintro x w1 ⟨rfl, S1⟩))
              go_wp2
              exact ⟨⟨q + 1, m', a', c', gs, by omega, by go_num, rfl, by omega, HG, S1⟩, by simp [intOf]; omega⟩
        · obtain rfl : q = k := by omega
          have HF : Hid (gs = putE es e) := by show _ = _; rw [hgs.out, HG.out, List.take_of_length_le (by omega)]; unfold putE; rfl
          have HO := hideIt (own_mono hst.own (show w.heap.size ≤ w.heap.size + 1 by omega))
          have hb := hst.below
          clear hgs hst
          go_wp2
          go_ret
          exact ⟨a', m', c', rfl, by rw [← HF.out]; exact HO.out, hb⟩
end Go.Proofs.Ytobcihdjennieaa
namespace Go.Proofs.Ytobcihdjennieaa
open Go.RowKit

set_option maxRecDepth 100000 in
set_option maxHeartbeats 4000000 in
theorem sAddEdge_any (N : Int) (es : List EdgeV) (f : EdgeV) (n : Nat) (a : Option Addr) (c : Nat) (hn : n ≤ 1048576) (w : World) (h : Es w w.heap.size a n es) :
    Calls Try.prog 36 #[.agg #[.int .i64 N, .slice a n c], .agg #[.int .i64 f.1, .int .i64 f.2]] w fun e w' => GAns w N (addE N es f) e w' := by
  have hA : Hid (∀ u, In3 w N a n c f u → Es u u.heap.size a n es) := fun u hu => h.up hu.below
  have HGO : Hid (∀ u, In3 w N a n c f u → Calls Try.prog 11 #[.agg #[.int .i64 N, .slice a n c]] u fun e v => e = .returned (.bool (gB N es)) ∧ In3 w N a n c f v) := fun u hu =>
    (sGraphOk_any N es n a c hn u (hA.out u hu)).mono fun _ _ ⟨he, hb⟩ => ⟨he, hu.up hb⟩
  have HEO : Hid (∀ u, In3 w N a n c f u → Calls Try.prog 64 #[.int .i64 N, .agg #[.int .i64 f.1, .int .i64 f.2]] u fun e v => e = .returned (.bool (eB N f)) ∧ In3 w N a n c f v) := fun u hu =>
    (sEdgeOk_any N f u).mono fun _ _ ⟨he, hb⟩ => ⟨he, hu.up hb⟩
  have HHE : Hid (∀ u, In3 w N a n c f u → Calls Try.prog 65 #[.agg #[.int .i64 N, .slice a n c], .agg #[.int .i64 f.1, .int .i64 f.2]] u fun e v => e = .returned (.bool (hasB es f)) ∧ In3 w N a n c f v) := fun u hu =>
    (sHasEdge_any N es f n a c hn u (hA.out u hu)).mono fun _ _ ⟨he, hb⟩ => ⟨he, hu.up hb⟩
  have S1 := In3.start w N a n c f
  have HK : Hid (∀ u, In3 w N a n c f u → (u.cell? ⟨w.heap.size, 0, none⟩ = some (.int .i64 N) ∧ u.cell? ⟨w.heap.size, 1, none⟩ = some (.slice a n c)) ∧ (u.cell? ⟨w.heap.size + 1, 0, none⟩ = some (.int .i64 f.1) ∧ u.cell? ⟨w.heap.size + 1, 1, none⟩ = some (.int .i64 f.2))) := fun u hu => hu.cells
  cases hG : gB N es with
  | false =>
    rw [hG] at HGO
    have HO := hideIt (show addE N es f = none by unfold addE; rw [hG, if_neg (by simp)])
    clear hG HEO HHE h hA
    go_enter Try.func36, Try.ntmps36
    go_wp2_with (go_at_call 11; refine (HGO.out _ S1).mono ?_; rintro e w4 ⟨rfl, S4⟩; refine Hid.out ?_)
    refine (show ∀ {p : Prop}, p → Hid p from fun h => h) ?_
    obtain ⟨⟨r0, r1⟩, r2, r3⟩ := S4.out
    have s4 := S4.size
    go_wp2
    exact bodyPost_ret (v := .tuple #[.agg #[.int .i64 0, .slice none 0 0], .bool false]) (by simp [results, Try.results36, go_sem, r0, r1]) rfl (gans_no S4 HO.out)
  | true =>
    rw [hG] at HGO
    cases hE : eB N f with
    | false =>
      rw [hE] at HEO
      have HO := hideIt (show addE N es f = none by unfold addE; rw [hE, if_neg (by simp)])
      clear hG hE HHE h hA
      go_enter Try.func36, Try.ntmps36
      go_wp2_with (go_at_call 11; refine (HGO.out _ S1).mono ?_; rintro e w4 ⟨rfl, S4⟩; refine Hid.out ?_)
      refine (show ∀ {p : Prop}, p → Hid p from fun h => h) ?_
      obtain ⟨⟨k0, k1⟩, k2, k3⟩ := HK.out _ S4
      go_wp2_with (go_at_call 64; refine (HEO.out _ S4).mono ?_; rintro e w5 ⟨rfl, S5⟩; refine Hid.out ?_)
      refine (show ∀ {p : Prop}, p → Hid p from fun h => h) ?_
      obtain ⟨⟨r0, r1⟩, r2, r3⟩ := S5.out
      have s5 := S5.size
      clear k0 k1 k2 k3
      go_wp2
      exact bodyPost_ret (v := .tuple #[.agg #[.int .i64 0, .slice none 0 0], .bool false]) (by simp [results, Try.results36, go_sem, r0, r1]) rfl (gans_no S5 HO.out)
    | true =>
      rw [hE] at HEO
      cases hH : hasB es f with
      | true =>
        rw [hH] at HHE
        have HO := hideIt (show addE N es f = none by unfold addE; rw [hH, if_neg (by simp)])
        clear hG hE hH h hA
        go_enter Try.func36, Try.ntmps36
        go_wp2_with (go_at_call 11; refine (HGO.out _ S1).mono ?_; rintro e w4 ⟨rfl, S4⟩; refine Hid.out ?_)
        refine (show ∀ {p : Prop}, p → Hid p from fun h => h) ?_
        obtain ⟨⟨k0, k1⟩, k2, k3⟩ := HK.out _ S4
        go_wp2_with (go_at_call 64; refine (HEO.out _ S4).mono ?_; rintro e w5 ⟨rfl, S5⟩; refine Hid.out ?_)
        refine (show ∀ {p : Prop}, p → Hid p from fun h => h) ?_
        clear k0 k1 k2 k3
        obtain ⟨⟨k0, k1⟩, k2, k3⟩ := HK.out _ S5
        go_wp2_with (go_at_call 65; refine (HHE.out _ S5).mono ?_; rintro e w6 ⟨rfl, S6⟩; refine Hid.out ?_)
        refine (show ∀ {p : Prop}, p → Hid p from fun h => h) ?_
        obtain ⟨⟨r0, r1⟩, r2, r3⟩ := S6.out
        have s6 := S6.size
        clear k0 k1 k2 k3
        go_wp2
        exact bodyPost_ret (v := .tuple #[.agg #[.int .i64 0, .slice none 0 0], .bool false]) (by simp [results, Try.results36, go_sem, r0, r1]) rfl (gans_no S6 HO.out)
      | false =>
        rw [hH] at HHE
        have HO := hideIt (show addE N es f = some (putE es f) by unfold addE; rw [hG, hE, hH, if_pos (by simp)])
        have HPt : Hid (∀ u, In3 w N a n c f u → Calls Try.prog 66 #[.slice a n c, .agg #[.int .i64 f.1, .int .i64 f.2]] u fun x v => ∃ a' m' c', x = .returned (.slice a' m' c') ∧ Hid (v.ownsRow u.heap.size 59 2 (.slice a' m' c') m' (ecells (putE es f))) ∧ In3 w N a n c f v) := fun u hu =>
          (l05Put_any es f n a c hn u (hA.out u hu)).mono fun _ _ ⟨a', m', c', he, ho, hb⟩ => ⟨a', m', c', he, ho, hu.up hb⟩
        clear hG hE hH h
        go_enter Try.func36, Try.ntmps36
        go_wp2_with (go_at_call 11; refine (HGO.out _ S1).mono ?_; rintro e w4 ⟨rfl, S4⟩; refine Hid.out ?_)
        refine (show ∀ {p : Prop}, p → Hid p from fun h => h) ?_
        obtain ⟨⟨k0, k1⟩, k2, k3⟩ := HK.out _ S4
        go_wp2_with (go_at_call 64; refine (HEO.out _ S4).mono ?_; rintro e w5 ⟨rfl, S5⟩; refine Hid.out ?_)
        refine (show ∀ {p : Prop}, p → Hid p from fun h => h) ?_
        clear k0 k1 k2 k3
        obtain ⟨⟨k0, k1⟩, k2, k3⟩ := HK.out _ S5
        go_wp2_with (go_at_call 65; refine (HHE.out _ S5).mono ?_; rintro e w7 ⟨rfl, S7⟩; refine Hid.out ?_)
        refine (show ∀ {p : Prop}, p → Hid p from fun h => h) ?_
        clear k0 k1 k2 k3 S4 S5 S1 HGO HEO HHE
        have S7d := S7.drew
        have z7 := S7.size
        have HPc := hideIt (HPt.out _ S7d)
        clear HPt hA
        go_wp2
        go_region_held3 (fun u => (u.cell? ⟨w.heap.size, 0, none⟩ = some (.int .i64 N) ∧ u.cell? ⟨w.heap.size, 1, none⟩ = some (.slice a n c)) ∧ (u.cell? ⟨w.heap.size + 1, 0, none⟩ = some (.int .i64 f.1) ∧ u.cell? ⟨w.heap.size + 1, 1, none⟩ = some (.int .i64 f.2)))
          (first | exact S8.cellsSet _ _ | exact HK.out _ S8 | exact HK.out _ S7d)
          ((go_at_call 66; refine HPc.out.mono ?_; rintro e w8 ⟨a', m', c', rfl, hown8, S8⟩; obtain ⟨⟨r0, r1⟩, r2, r3⟩ := S8.out))
        all_goals
          go_wp2
          exact bodyPost_ret (v := .tuple #[.agg #[.int .i64 N, .slice a' m' c'], .bool true]) (by simp [results, Try.results36, go_sem, r0, r1]) rfl (gans_yes S8 HO.out (by show _ ≤ w7.heap.size; omega) hown8.out)
end Go.Proofs.Ytobcihdjennieaa
namespace Go.Proofs.Ytobcihdjennieaa
open Go.RowKit

theorem PutSt.drewN {w : World} {e : EdgeV} {a : Option Addr} {m c : Nat} {gs : List EdgeV} {u : World} (h : PutSt w e a m c gs u) (k : Nat) : PutSt w e a m c gs (u.drewN k) := h.up (below_drewN (Below.refl _ _) k)

set_option maxRecDepth 100000 in
set_option maxHeartbeats 4000000 in
theorem l05Without_any (es : List EdgeV) (e : EdgeV) (n : Nat) (a : Option Addr) (c : Nat) (hn : n ≤ 1048576) (w : World) (h : Es w w.heap.size a n es) :
    Calls Try.prog 67 #[.slice a n c, .agg #[.int .i64 e.1, .int .i64 e.2]] w fun x w' => ∃ a' m' c', x = .returned (.slice a' m' c') ∧ w'.ownsRow w.heap.size 59 2 (.slice a' m' c') m' (ecells (outE es e)) ∧ Below w.heap.size w w' := by
  obtain ⟨i0, hi, hz0, hz1, hz2⟩ := info_parts infoIE
  obtain ⟨hlen, hrow⟩ := h
  have HR := hideIt hrow
  clear hrow
  go_enter Try.func67, Try.ntmps67
  go_wp2
  go_loopw [5, 6] (fun v i wr => ∃ (k m' : Nat) (a' : Option Addr) (c' : Nat) (gs : List EdgeV), k ≤ n ∧ i = .int .i64 (k : Int) ∧ v = .slice a' m' c' ∧ m' ≤ k ∧ Hid (gs = outE (es.take k) e) ∧ PutSt w e a' m' c' gs wr) (fun _ i _ => n - (intOf i).toNat)
  case atStart =>
    refine ⟨0, 0, _, _, [], by omega, rfl, rfl, by omega, by show _ = _; simp [outE], ?_, ?_⟩
    · have h0 := World.ownsRow_lit (base := w.heap.size + 1) (e := 59) (size := 2) (wE w e) #[] 0 (by rw [wE_size]; omega) (by unfold maxLen; omega) (by simp)
      rw [wE_size] at h0
      simpa [ecells, wE] using h0
    · have h1 := (Below.refl (w.heap.size + 1) (wE w e)).alloc (by rw [wE_size]; omega) (.cells #[] 59)
      simpa [wE] using h1
  case round =>
    obtain ⟨k, m', a', c', gs, hk, rfl, rfl, hm, hgs, hst⟩ := hrel
    by_cases hlt : k < n
    · rcases HR.out with hz | ⟨b, off, rfl, hbl, hc⟩
      · omega
      · obtain ⟨f, hf⟩ : ∃ f, es[k]? = some f := ⟨es[k]'(by omega), List.getElem?_eq_getElem (by omega)⟩
        obtain ⟨c0, c1⟩ := hc k f hf
        have b1 : (0 : Int) ≤ (k : Int) := by omega
        have b2 : (k : Int) < (n : Int) := by omega
        have e0 : wr.cell? ⟨b, off + k * 2, none⟩ = some (.int .i64 f.1) := by rw [hst.below.cell hbl]; exact c0
        have e1 : wr.cell? ⟨b, off + k * 2 + 1, none⟩ = some (.int .i64 f.2) := by rw [hst.below.cell hbl]; exact c1
        obtain ⟨x0, x1⟩ := hst.box
        by_cases hfe : f = e
        · subst hfe
          have HG : Hid (gs = outE (es.take (k + 1)) f) := by
            show _ = _
            rw [take_snocF es k f hf, hgs.out]
            simp [outE]
          clear hc hf c0 c1 hgs
          go_wp2
          go_quiet (fail)
          go_wp2
          exact ⟨⟨k + 1, m', a', c', gs, by omega, by go_num, rfl, by omega, HG, hst.drewN _⟩, by simp [intOf]; omega⟩
        · have HG : Hid (gs ++ [f] = outE (es.take (k + 1)) e) := by
            show _ = _
            rw [take_snocF es k f hf, hgs.out]
            simp [outE, hfe]
          have z1 := hst.size
          clear hc hf c0 c1 hgs
          have hk4 : (wr.drew.cell? ⟨b, off + k * 2, none⟩ = some (.int .i64 f.1) ∧ wr.drew.cell? ⟨b, off + k * 2 + 1, none⟩ = some (.int .i64 f.2)) ∧ wr.drew.cell? ⟨w.heap.size, 0, none⟩ = some (.int .i64 e.1) ∧ wr.drew.cell? ⟨w.heap.size, 1, none⟩ = some (.int .i64 e.2) := ⟨⟨e0, e1⟩, x0, x1⟩
          by_cases h1 : f.1 = e.1
          · obtain ⟨fa, fb⟩ := f
            dsimp only at *
            subst h1
            have h2 : ¬ fb = e.2 := fun h2 => hfe (Prod.ext rfl h2)
            have d2 : (fb == e.2) = false := by simpa using h2
            clear hfe
            go_wp2
            go_region_held3 (fun u => (u.cell? ⟨b, off + k * 2, none⟩ = some (.int .i64 e.1) ∧ u.cell? ⟨b, off + k * 2 + 1, none⟩ = some (.int .i64 fb)) ∧ u.cell? ⟨w.heap.size, 0, none⟩ = some (.int .i64 e.1) ∧ u.cell? ⟨w.heap.size, 1, none⟩ = some (.int .i64 e.2)) (exact hk4) (fail)
            go_wp2_with (at_builtin; refine wpList_append_own _ rfl _ _ 24 rfl (w.heap.size + 1) 59 i0 _ 2 16 Try.underlying24 hi hz0 hz1 hz2 rfl (by decide) _ _ _ rfl ((hst.own.alloc _).drew) ⟨wr.heap.size, 0, none⟩ 1 1 [.int .i64 e.1, .int .i64 fb] rfl rfl (news1 _ (e.1, fb)) (by intro u hu; simp at hu; rcases hu with rfl | rfl <;> rfl) (by unfold maxLen; omega) (by omega) (by simp; omega) ?_)
            intro v2 w2 hown2 hg2 hn2
            obtain ⟨a2, c2, rfl, hst2⟩ := (hst.up (Below.refl _ _).drew).app (g := (e.1, fb)) (o := .cells #[.int .i64 e.1, .int .i64 fb] 59) hown2 hg2
            clear hown2 hg2 hn2 e0 e1 x0 x1 hst hk4
            go_wp2
            exact ⟨⟨k + 1, m' + 1, a2, c2, gs ++ [(e.1, fb)], by omega, by go_num, rfl, by omega, HG, hst2⟩, by simp [intOf]; omega⟩
          · have d1 : (f.1 == e.1) = false := by simpa using h1
            clear hfe
            go_wp2
            go_region_held3 (fun u => (u.cell? ⟨b, off + k * 2, none⟩ = some (.int .i64 f.1) ∧ u.cell? ⟨b, off + k * 2 + 1, none⟩ = some (.int .i64 f.2)) ∧ u.cell? ⟨w.heap.size, 0, none⟩ = some (.int .i64 e.1) ∧ u.cell? ⟨w.heap.size, 1, none⟩ = some (.int .i64 e.2)) (exact hk4) (fail)
            go_wp2_with (at_builtin; refine wpList_append_own _ rfl _ _ 24 rfl (w.heap.size + 1) 59 i0 _ 2 16 Try.underlying24 hi hz0 hz1 hz2 rfl (by decide) _ _ _ rfl ((hst.own.alloc _).drew) ⟨wr.heap.size, 0, none⟩ 1 1 [.int .i64 f.1, .int .i64 f.2] rfl rfl (news1 _ f) (by intro u hu; simp at hu; rcases hu with rfl | rfl <;> rfl) (by unfold maxLen; omega) (by omega) (by simp; omega) ?_)
            intro v2 w2 hown2 hg2 hn2
            obtain ⟨a2, c2, rfl, hst2⟩ := (hst.up (Below.refl _ _).drew).app (o := .cells #[.int .i64 f.1, .int .i64 f.2] 59) hown2 hg2
            clear hown2 hg2 hn2 e0 e1 x0 x1 hst hk4
            go_wp2
            exact ⟨⟨k + 1, m' + 1, a2, c2, gs ++ [f], by omega, by go_num, rfl, by omega, HG, hst2⟩, by simp [intOf]; omega⟩
    · obtain rfl : k = n := by omega
      have HF : Hid (gs = outE es e) := by show _ = _; rw [hgs.out, List.take_of_length_le (by omega)]
      have HO := hideIt (own_mono hst.own (show w.heap.size ≤ w.heap.size + 1 by omega))
      have hb := hst.below
      clear hgs hst
      go_wp2
      go_ret
      exact ⟨a', m', c', rfl, by rw [← HF.out]; exact HO.out, hb⟩

set_option maxRecDepth 100000 in
set_option maxHeartbeats 4000000 in
theorem sTakeEdge_any (N : Int) (es : List EdgeV) (f : EdgeV) (n : Nat) (a : Option Addr) (c : Nat) (hn : n ≤ 1048576) (w : World) (h : Es w w.heap.size a n es) :
    Calls Try.prog 38 #[.agg #[.int .i64 N, .slice a n c], .agg #[.int .i64 f.1, .int .i64 f.2]] w fun e w' => GAns w N (takE N es f) e w' := by
  have hA : Hid (∀ u, In3 w N a n c f u → Es u u.heap.size a n es) := fun u hu => h.up hu.below
  have HGO : Hid (∀ u, In3 w N a n c f u → Calls Try.prog 11 #[.agg #[.int .i64 N, .slice a n c]] u fun e v => e = .returned (.bool (gB N es)) ∧ In3 w N a n c f v) := fun u hu =>
    (sGraphOk_any N es n a c hn u (hA.out u hu)).mono fun _ _ ⟨he, hb⟩ => ⟨he, hu.up hb⟩
  have HHE : Hid (∀ u, In3 w N a n c f u → Calls Try.prog 65 #[.agg #[.int .i64 N, .slice a n c], .agg #[.int .i64 f.1, .int .i64 f.2]] u fun e v => e = .returned (.bool (hasB es f)) ∧ In3 w N a n c f v) := fun u hu =>
    (sHasEdge_any N es f n a c hn u (hA.out u hu)).mono fun _ _ ⟨he, hb⟩ => ⟨he, hu.up hb⟩
  have S1 := In3.start w N a n c f
  have HK : Hid (∀ u, In3 w N a n c f u → (u.cell? ⟨w.heap.size, 0, none⟩ = some (.int .i64 N) ∧ u.cell? ⟨w.heap.size, 1, none⟩ = some (.slice a n c)) ∧ (u.cell? ⟨w.heap.size + 1, 0, none⟩ = some (.int .i64 f.1) ∧ u.cell? ⟨w.heap.size + 1, 1, none⟩ = some (.int .i64 f.2))) := fun u hu => hu.cells
  cases hG : gB N es with
  | false =>
    rw [hG] at HGO
    have HO := hideIt (show takE N es f = none by unfold takE; rw [hG, if_neg (by simp)])
    clear hG HHE h hA
    go_enter Try.func38, Try.ntmps38
    go_wp2_with (go_at_call 11; refine (HGO.out _ S1).mono ?_; rintro e w4 ⟨rfl, S4⟩; refine Hid.out ?_)
    refine (show ∀ {p : Prop}, p → Hid p from fun h => h) ?_
    obtain ⟨⟨r0, r1⟩, r2, r3⟩ := S4.out
    have s4 := S4.size
    go_wp2
    exact bodyPost_ret (v := .tuple #[.agg #[.int .i64 0, .slice none 0 0], .bool false]) (by simp [results, Try.results38, go_sem, r0, r1]) rfl (gans_no S4 HO.out)
  | true =>
    rw [hG] at HGO
    cases hH : hasB es f with
    | false =>
      rw [hH] at HHE
      have HO := hideIt (show takE N es f = none by unfold takE; rw [hH, if_neg (by simp)])
      clear hG hH h hA
      go_enter Try.func38, Try.ntmps38
      go_wp2_with (go_at_call 11; refine (HGO.out _ S1).mono ?_; rintro e w4 ⟨rfl, S4⟩; refine Hid.out ?_)
      refine (show ∀ {p : Prop}, p → Hid p from fun h => h) ?_
      obtain ⟨⟨k0, k1⟩, k2, k3⟩ := HK.out _ S4
      go_wp2_with (go_at_call 65; refine (HHE.out _ S4).mono ?_; rintro e w6 ⟨rfl, S6⟩; refine Hid.out ?_)
      refine (show ∀ {p : Prop}, p → Hid p from fun h => h) ?_
      obtain ⟨⟨r0, r1⟩, r2, r3⟩ := S6.out
      have s6 := S6.size
      clear k0 k1 k2 k3
      go_wp2
      exact bodyPost_ret (v := .tuple #[.agg #[.int .i64 0, .slice none 0 0], .bool false]) (by simp [results, Try.results38, go_sem, r0, r1]) rfl (gans_no S6 HO.out)
    | true =>
      rw [hH] at HHE
      have HO := hideIt (show takE N es f = some (outE es f) by unfold takE; rw [hG, hH, if_pos (by simp)])
      have HPt : Hid (∀ u, In3 w N a n c f u → Calls Try.prog 67 #[.slice a n c, .agg #[.int .i64 f.1, .int .i64 f.2]] u fun x v => ∃ a' m' c', x = .returned (.slice a' m' c') ∧ Hid (v.ownsRow u.heap.size 59 2 (.slice a' m' c') m' (ecells (outE es f))) ∧ In3 w N a n c f v) := fun u hu =>
        (l05Without_any es f n a c hn u (hA.out u hu)).mono fun _ _ ⟨a', m', c', he, ho, hb⟩ => ⟨a', m', c', he, ho, hu.up hb⟩
      clear hG hH h
      go_enter Try.func38, Try.ntmps38
      go_wp2_with (go_at_call 11; refine (HGO.out _ S1).mono ?_; rintro e w4 ⟨rfl, S4⟩; refine Hid.out ?_)
      refine (show ∀ {p : Prop}, p → Hid p from fun h => h) ?_
      obtain ⟨⟨k0, k1⟩, k2, k3⟩ := HK.out _ S4
      go_wp2_with (go_at_call 65; refine (HHE.out _ S4).mono ?_; rintro e w7 ⟨rfl, S7⟩; refine Hid.out ?_)
      refine (show ∀ {p : Prop}, p → Hid p from fun h => h) ?_
      clear k0 k1 k2 k3 S4 S1 HGO HHE
      have S7d := S7.drew
      have z7 := S7.size
      have HPc := hideIt (HPt.out _ S7d)
      clear HPt hA
      go_wp2
      go_region_held3 (fun u => (u.cell? ⟨w.heap.size, 0, none⟩ = some (.int .i64 N) ∧ u.cell? ⟨w.heap.size, 1, none⟩ = some (.slice a n c)) ∧ (u.cell? ⟨w.heap.size + 1, 0, none⟩ = some (.int .i64 f.1) ∧ u.cell? ⟨w.heap.size + 1, 1, none⟩ = some (.int .i64 f.2)))
        (first | exact S8.cellsSet _ _ | exact HK.out _ S8 | exact HK.out _ S7d)
        ((go_at_call 67; refine HPc.out.mono ?_; rintro e w8 ⟨a', m', c', rfl, hown8, S8⟩; obtain ⟨⟨r0, r1⟩, r2, r3⟩ := S8.out))
      all_goals
        go_wp2
        exact bodyPost_ret (v := .tuple #[.agg #[.int .i64 N, .slice a' m' c'], .bool true]) (by simp [results, Try.results38, go_sem, r0, r1]) rfl (gans_yes S8 HO.out (by show _ ≤ w7.heap.size; omega) hown8.out)
end Go.Proofs.Ytobcihdjennieaa
namespace Go.Proofs.Ytobcihdjennieaa
open Go.RowKit

theorem step_append_copy {P : Program} {w : World} {ops : Array Oper} {o : Oper} {a : Go.Act} {K : Go.Act → World → Prop} {Q : Exit → Go.Act → World → Prop} {E : Prop} (hgd : o.guard = none) (s x : Operand) (t : TypeId)
    (ho : o.op = .call { callee := .builtin .append, args := #[s, x], argTypes := #[t, t] })
    (base : Nat) (e : TypeId) (i : TypeInfo) (z : Value) (size bytes : Nat) (ht : P.underlying t = some (.slice e)) (hi : P.info? e = some i) (hz : i.zero = some z)
    (hsize : i.size = size) (hby : i.bytes = bytes) (hzs : z.cells.size = size) (hsz : 0 < size)
    (v : Value) (hs : a.eval s = v) (hown : w.ownsRow base e size v 0 [])
    (ad : Option Addr) (m c : Nat) (news : List Value) (hx : a.eval x = .slice ad m c) (hl : news.length = m * size) (hnil : ad = none → m = 0 ∧ c = 0) (hnews : ∀ ad', ad = some ad' → ∀ j u, news[j]? = some u → w.cell? (ad'.add j) = some u) (h1 : ∀ u ∈ news, u.oneCell' = true)
    (h63 : m ≤ maxLen) (hbytes : m * bytes ≤ 140737488355328) (hbase : base ≤ w.heap.size)
    (h : ∀ a' cap w', w'.ownsRow base e size (.slice a' m cap) m news → w.grownBy w' v.ownBlock → K (a.put o.dst (.slice a' m cap)) w') :
    if Region.wanted o (yielded ops a.tmps) = true then Oper.wp P o a w K Q else E := by
  have hw : Region.wanted o (yielded ops a.tmps) = true := by simp [Region.wanted, hgd]
  rw [if_pos hw]
  cases ad with
  | none =>
    obtain ⟨rfl, rfl⟩ := hnil rfl
    have e0 : news = [] := List.length_eq_zero_iff.1 (by omega)
    subst e0
    have hrun := run_append_owned_none (P := P) (w := w) base t o.type e i size ht hi v 0 [] hown
    unfold Oper.wp
    simp [execOp, ho, resolve, invoke, builtin, hs, hx, hrun, Result.andThen]
    obtain ⟨a2, c2, rfl⟩ := own_form hown
    exact h a2 c2 w hown ⟨rfl, rfl, rfl, Nat.le_refl _, fun _ _ _ => rfl⟩
  | some ad =>
    refine wp_append_own w s x t ho base e i z size bytes ht hi hz hsize hby hzs hsz v 0 [] hs hown ad m c news hx hl (hnews ad rfl) h1 (by omega) (by simpa using hbytes) hbase fun v' w' h2 h3 _ => ?_
    rw [Nat.zero_add, List.nil_append] at h2
    obtain ⟨a2, c2, rfl⟩ := own_form h2
    exact h a2 c2 w' h2 h3
theorem Es.newsO {w : World} {B n : Nat} {a : Option Addr} {es : List EdgeV} (h : Es w B a n es) : ∀ ad, a = some ad → ∀ j u, (ecells es)[j]? = some u → w.cell? (ad.add j) = some u := by
  intro ad e
  rcases h.2 with h0 | ⟨b, off, hb, _⟩
  · have e0 : es = [] := List.length_eq_zero_iff.1 (by have := h.1; omega)
    intro j u hu
    rw [e0] at hu
    simp [ecells] at hu
  · rw [e] at hb
    simp at hb
    subst hb
    subst e
    exact h.news
theorem gr_bel {y z : World} {B g : Nat} (h : y.grownBy z (some g)) (h1 : B ≤ g) (h2 : B ≤ y.heap.size) : Below B y z := (Rng.of_grown (hi := g + 1) h h1 (Nat.lt_succ_self _)).below (Nat.le_refl _) h2
section
variable {w u v : World} {N : Int} {a : Option Addr} {n c : Nat} {xi xo xa xb : Int}
theorem InM.set (h : InM w N a n c xi xo xa xb u) (b j : Nat) (x : Value) (hb : w.heap.size + 3 ≤ b) : InM w N a n c xi xo xa xb (u.setCell ⟨b, j, none⟩ x) := ⟨Good.set h.good b j x (by rw [m3_size]; exact hb)⟩
theorem InM.gr (h : InM w N a n c xi xo xa xb u) {g : Nat} (hg : u.grownBy v (some g)) (hb : w.heap.size + 3 ≤ g) : InM w N a n c xi xo xa xb v :=
  ⟨Below.trans h.good (gr_bel hg (by rw [m3_size]; exact hb) (by rw [m3_size]; exact h.size))⟩
theorem InM.alloc (h : InM w N a n c xi xo xa xb u) (o : Obj) : InM w N a n c xi xo xa xb (u.alloc o) := h.up ((Below.refl _ _).alloc (Nat.le_refl _) o)
end
theorem l12Edge_any (xi xo xa xb : Int) (w : World) : Calls Try.prog 37 #[.agg #[.int .i64 xi, .int .i64 xo, .int .i64 xa, .int .i64 xb]] w fun e w' => e = .returned (.agg #[.int .i64 (edA xa xb).1, .int .i64 (edA xa xb).2]) ∧ Below w.heap.size w w' := by
  by_cases h : xa < xb
  · have d1 : decide (xa < xb) = true := decide_eq_true h
    have e1 : edA xa xb = (xa, xb) := by unfold edA; rw [Int.min_eq_left (by omega), Int.max_eq_right (by omega)]
    rw [e1]
    clear h e1
    go_enter Try.func37, Try.ntmps37
    go_wp2
    exact bodyPost_ret (v := .agg #[.int .i64 xa, .int .i64 xb]) (by simp [results, Try.results37, go_sem]) rfl ⟨rfl, ((Below.refl _ _).alloc (Nat.le_refl _) _).alloc (by simp) _⟩
  · have d1 : decide (xa < xb) = false := decide_eq_false h
    have e1 : edA xa xb = (xb, xa) := by unfold edA; rw [Int.min_eq_right (by omega), Int.max_eq_left (by omega)]
    rw [e1]
    clear h e1
    go_enter Try.func37, Try.ntmps37
    go_wp2
    exact bodyPost_ret (v := .agg #[.int .i64 xb, .int .i64 xa]) (by simp [results, Try.results37, go_sem]) rfl ⟨rfl, ((Below.refl _ _).alloc (Nat.le_refl _) _).alloc (by simp) _⟩


/-- the boxes, and the copy that was laid first -/
structure SM (w : World) (N : Int) (a : Option Addr) (n c : Nat) (xi xo xa xb : Int) (es : List EdgeV) (hi b : Nat) (a' : Option Addr) (c' : Nat) (u : World) : Prop where
  i : InM w N a n c xi xo xa xb u
  g : GBox u (w.heap.size + 3) hi b N a' n c' es
theorem SM.up {w u v : World} {N : Int} {a : Option Addr} {n c : Nat} {xi xo xa xb : Int} {es : List EdgeV} {hi b : Nat} {a' : Option Addr} {c' : Nat} (h : SM w N a n c xi xo xa xb es hi b a' c' u) (hb : Below u.heap.size u v) : SM w N a n c xi xo xa xb es hi b a' c' v := ⟨h.i.up hb, h.g.up hb⟩
theorem SM.set {w u : World} {N : Int} {a : Option Addr} {n c : Nat} {xi xo xa xb : Int} {es : List EdgeV} {hi b : Nat} {a' : Option Addr} {c' : Nat} (h : SM w N a n c xi xo xa xb es hi b a' c' u) (q j : Nat) (x : Value) (hq : hi ≤ q) (hq3 : w.heap.size + 3 ≤ q) : SM w N a n c xi xo xa xb es hi b a' c' (u.setCell ⟨q, j, none⟩ x) :=
  ⟨h.i.set q j x hq3, h.g.rng (Rng.of_grown (lo := q) (hi := q + 1) (grownSet u q j x) (Nat.le_refl _) (Nat.lt_succ_self _)) (.inl hq)⟩
theorem keepBox {u : World} {lo hi b : Nat} {M : Int} {a : Option Addr} {m c : Nat} {gs : List EdgeV} (h : GBox u lo hi b M a m c gs) : ∀ v, Keep u v → Box2 v b 26 (.int .i64 M) (.slice a m c) := fun _ hu => hu _ _ _ _ h.box
/-- the copy is what is answered -/
theorem SM.ans {w u : World} {N : Int} {a : Option Addr} {n c : Nat} {xi xo xa xb : Int} {es : List EdgeV} {hi b : Nat} {a' : Option Addr} {c' : Nat} (h : SM w N a n c xi xo xa xb es hi b a' c' u) {r : List EdgeV × Int} {s : Int} (ho : r = (es, s)) :
    MAns w N r (.returned (.tuple #[.agg #[.int .i64 N, .slice a' n c'], .int .i64 s])) ((u.setCell ⟨w.heap.size + 1 + 1, 0, none⟩ (.int .i64 N)).setCell ⟨w.heap.size + 1 + 1, 1, none⟩ (.slice a' n c')) := mans_yes h.i ho (Nat.le_refl _) h.g.own
set_option maxRecDepth 100000 in
set_option maxHeartbeats 4000000 in
theorem sModel_any (N : Int) (es : List EdgeV) (xi xo xa xb : Int) (n : Nat) (a : Option Addr) (c : Nat) (hsl : Sl a n c) (hn : n ≤ 1048576) (w : World) (h : Es w w.heap.size a n es) :
    Calls Try.prog 9 #[.agg #[.int .i64 N, .slice a n c], .agg #[.int .i64 xi, .int .i64 xo, .int .i64 xa, .int .i64 xb]] w fun e w' => MAns w N (mdR N es xo xa xb) e w' := by
  obtain ⟨i0, hi, hz0, hz1, hz2⟩ := info_parts infoIE
  have HE : Hid (∀ u, InM w N a n c xi xo xa xb u → Es u u.heap.size a n es) := fun u hu => h.up hu.below
  have HK : Hid (∀ u, InM w N a n c xi xo xa xb u → _) := fun u (hu : InM w N a n c xi xo xa xb u) => hu.cells
  have HI := hideIt l01In_any
  have S1 := InM.start w N a n c xi xo xa xb
  obtain ⟨W, hW⟩ : ∃ W, W = m3 w N a n c xi xo xa xb := ⟨_, rfl⟩
  have zW : W.heap.size = w.heap.size + 3 := by rw [hW, m3_size]
  rw [← hW] at S1
  have hnl := hsl.nil
  have hln : (ecells es).length = n * 2 := by rw [ecells_length, h.1]
  have T0 := S1.drew
  have T1 : InM w N a n c xi xo xa xb (W.alloc (.cells #[] 59)).drew := (S1.alloc _).drew
  have T2 : InM w N a n c xi xo xa xb ((W.alloc (.cells #[] 59)).alloc (.cells #[.int .i64 0, .slice none 0 0] 26)).drew := ((S1.alloc _).alloc _).drew
  have T3 : InM w N a n c xi xo xa xb ((W.alloc (.cells #[.int .i64 0, .slice none 0 0] 26)).alloc (.cells #[] 59)).drew := ((S1.alloc _).alloc _).drew
  have T4 : InM w N a n c xi xo xa xb (W.alloc (.cells #[.int .i64 0, .slice none 0 0] 26)).drew := (S1.alloc _).drew
  have O1 : (W.alloc (.cells #[] 59)).drew.ownsRow (w.heap.size + 3) 59 2 (.slice (some ⟨W.heap.size, 0, none⟩) 0 0) 0 [] := (World.ownsRow_lit W #[] 0 (by omega) (by unfold maxLen; omega) (by simp)).drew
  have O2 : ((W.alloc (.cells #[] 59)).alloc (.cells #[.int .i64 0, .slice none 0 0] 26)).drew.ownsRow (w.heap.size + 3) 59 2 (.slice (some ⟨W.heap.size, 0, none⟩) 0 0) 0 [] := ((World.ownsRow_lit W #[] 0 (by omega) (by unfold maxLen; omega) (by simp)).alloc _).drew
  have O3 : ((W.alloc (.cells #[.int .i64 0, .slice none 0 0] 26)).alloc (.cells #[] 59)).drew.ownsRow (w.heap.size + 3) 59 2 (.slice (some ⟨W.heap.size + 1, 0, none⟩) 0 0) 0 [] := by
    have h := (World.ownsRow_lit (W.alloc (.cells #[.int .i64 0, .slice none 0 0] 26)) #[] 0 (base := w.heap.size + 3) (e := 59) (size := 2) (by simp; omega) (by unfold maxLen; omega) (by simp)).drew
    simpa using h
  have B2 : Box2 ((W.alloc (.cells #[] 59)).alloc (.cells #[.int .i64 0, .slice none 0 0] 26)).drew (W.heap.size + 1) 26 (.int .i64 0) (.slice none 0 0) := by
    have h := Box2.new (W.alloc (.cells #[] 59)) 26 (.int .i64 0) (.slice none 0 0) _ rfl
    rw [show (W.alloc (.cells #[] 59)).heap.size = W.heap.size + 1 by simp] at h
    exact h
  have B3 : Box2 ((W.alloc (.cells #[.int .i64 0, .slice none 0 0] 26)).alloc (.cells #[] 59)).drew W.heap.size 26 (.int .i64 0) (.slice none 0 0) := by
    exact (Box2.new W 26 (.int .i64 0) (.slice none 0 0) _ rfl).alloc _
  have hne1 : some (W.heap.size + 1) ≠ some W.heap.size := by simp
  have hne2 : some W.heap.size ≠ some (W.heap.size + 1) := by simp
  have HLo : Hid (w.heap.size + 3 ≤ W.heap.size) := by show _ ≤ _; omega
  have hsz : w.heap.size + 3 ≤ W.heap.size := by omega
  have HSl := hideIt hsl
  clear h zW hsl
  go_enter Try.func9, Try.ntmps9
  go_upto_region 1 with fail
  rw [show ((w.alloc (.cells #[.int .i64 N, .slice a n c] 26)).alloc (.cells #[.int .i64 xi, .int .i64 xo, .int .i64 xa, .int .i64 xb] 28)).alloc (.cells #[.int .i64 0, .slice none 0 0] 26) = W from hW.symm]
  clear hW
  go_cut [6] (fun q wx => ∃ b a' c', q = .pointer (some ⟨b, 0, none⟩) ∧ SM w N a n c xi xo xa xb es wx.heap.size b a' c' wx)
  case first =>
    go_region_held3 (fun u => u.cell? ⟨w.heap.size, 0, none⟩ = some (.int .i64 N) ∧ u.cell? ⟨w.heap.size, 1, none⟩ = some (.slice a n c))
      (first
        | exact ⟨(HK.out _ T0).1, (HK.out _ T0).2.1⟩ | exact ⟨(HK.out _ T1).1, (HK.out _ T1).2.1⟩ | exact ⟨(HK.out _ T2).1, (HK.out _ T2).2.1⟩ | exact ⟨(HK.out _ T3).1, (HK.out _ T3).2.1⟩ | exact ⟨(HK.out _ T4).1, (HK.out _ T4).2.1⟩
        | exact ⟨(HK.out _ S5).1, (HK.out _ S5).2.1⟩ | exact ⟨(HK.out _ (S5.alloc _)).1, (HK.out _ (S5.alloc _)).2.1⟩
        | exact ⟨(HK.out _ ((S5.set _ 0 _ (by omega)).set _ 1 _ (by omega))).1, (HK.out _ ((S5.set _ 0 _ (by omega)).set _ 1 _ (by omega))).2.1⟩)
      (first
        | (refine step_append_copy (by rfl) _ _ _ (by rfl) (w.heap.size + 3) 59 i0 _ 2 16 Try.underlying24 hi hz0 hz1 hz2 rfl (by omega) _ (by rfl) O1 a n c (ecells es) (by rfl) hln hnl ((HE.out _ T1).newsO) ecells_one (by unfold maxLen; omega) (by omega) T1.size ?_; intro a' c' w5 ho5 hg5; have S5 := T1.gr hg5 (by first | omega | (show w.heap.size + 3 ≤ W.heap.size + 1; omega)); have s5 := S5.size)
        | (refine step_append_copy (by rfl) _ _ _ (by rfl) (w.heap.size + 3) 59 i0 _ 2 16 Try.underlying24 hi hz0 hz1 hz2 rfl (by omega) _ (by rfl) O2 a n c (ecells es) (by rfl) hln hnl ((HE.out _ T2).newsO) ecells_one (by unfold maxLen; omega) (by omega) T2.size ?_; intro a' c' w5 ho5 hg5; have S5 := T2.gr hg5 (by first | omega | (show w.heap.size + 3 ≤ W.heap.size + 1; omega)); have bx := B2.grown hg5 hne1; have bc0 := bx.cell0; have bc1 := bx.cell1; have bz0 := bx.frozen 0; have bz1 := bx.frozen 1)
        | (refine step_append_copy (by rfl) _ _ _ (by rfl) (w.heap.size + 3) 59 i0 _ 2 16 Try.underlying24 hi hz0 hz1 hz2 rfl (by omega) _ (by rfl) O3 a n c (ecells es) (by rfl) hln hnl ((HE.out _ T3).newsO) ecells_one (by unfold maxLen; omega) (by omega) T3.size ?_; intro a' c' w5 ho5 hg5; have S5 := T3.gr hg5 (by first | omega | (show w.heap.size + 3 ≤ W.heap.size + 1; omega)); have bx := B3.grown hg5 hne2; have bc0 := bx.cell0; have bc1 := bx.cell1; have bz0 := bx.frozen 0; have bz1 := bx.frozen 1))
    all_goals
      go_wp2_with fail
      go_meet
      first
        | exact ⟨_, a', c', rfl, (S5.set _ 0 _ (by omega)).set _ 1 _ (by omega), GBox.stored bx (by omega) ho5⟩
        | exact ⟨_, a', c', rfl, S5.alloc _, GBox.laid (by omega) ho5⟩
  case rest =>
    obtain ⟨b, a', c', rfl, SW⟩ := hcut
    clear T0 T1 T2 T3 T4 O1 O2 O3 B2 B3 hne1 hne2 HLo hsz S1 hln hnl hi hz0 hz1 hz2
    have HCW : Hid (w.heap.size + 3 ≤ wc.heap.size) := SW.i.size
    generalize hhi : wc.heap.size = hi' at SW HCW
    clear hhi
    obtain ⟨k0, k1, k2, k3, k4, k5⟩ := HK.out _ SW.i
    have q0 := SW.g.cells.1
    have q1 := SW.g.cells.2
    obtain ⟨⟨r0, r1⟩, r2, r3⟩ := SW.i.out
    have sz := SW.i.size
    have hbl := SW.g.least
    by_cases ho : 1 ≤ xo ∧ xo ≤ 4
    · have e0 : decide (1 ≤ xo ∧ xo ≤ 4) = true := decide_eq_true ho
      by_cases hA : 0 ≤ xa
      · have a0 : decide (0 ≤ xa) = true := decide_eq_true hA
        by_cases hB : xa < N
        · have a1 : decide (xa < N) = true := decide_eq_true hB
          have hv : hvB N xa = true := by simp [hvB, hA, hB]
          by_cases h4 : xo = 4
          · have e4 : (xo == 4) = true := by simpa using h4
            by_cases hs : 1 ≤ xb ∧ xb ≤ 3
            · have e5 : decide (1 ≤ xb ∧ xb ≤ 3) = true := decide_eq_true hs
              have HO := hideIt (show mdR N es xo xa xb = (es, 1) by unfold mdR; rw [show telB N xo xa xb = true by unfold telB; simp [h4, hv, sdB, hs]]; simp [h4])
              clear ho hA hB h4 hs hv
              go_wp2_with (go_at_call 25; refine (HI.out _ _ _ _).mono ?_; rintro e w1 ⟨rfl, rfl⟩)
              exact bodyPost_ret (v := .tuple #[.agg #[.int .i64 N, .slice a' n c'], .int .i64 1]) (by simp [results, Try.results9, go_sem, r0, r1]) rfl (SW.ans HO.out)
            · have e5 : decide (1 ≤ xb ∧ xb ≤ 3) = false := decide_eq_false hs
              have HO := hideIt (show mdR N es xo xa xb = (es, 3) by unfold mdR; rw [show telB N xo xa xb = false by unfold telB; simp [h4, hv, sdB]; omega]; simp)
              clear ho hA hB h4 hs hv
              go_wp2_with (go_at_call 25; refine (HI.out _ _ _ _).mono ?_; rintro e w1 ⟨rfl, rfl⟩)
              exact bodyPost_ret (v := .tuple #[.agg #[.int .i64 N, .slice a' n c'], .int .i64 3]) (by simp [results, Try.results9, go_sem, r0, r1]) rfl (SW.ans HO.out)
          · have e4 : (xo == 4) = false := by simpa using h4
            by_cases hC : 0 ≤ xb
            · have b0 : decide (0 ≤ xb) = true := decide_eq_true hC
              by_cases hD : xb < N
              · have b1 : decide (xb < N) = true := decide_eq_true hD
                have hu : hvB N xb = true := by simp [hvB, hC, hD]
                by_cases h3 : xo = 3
                · have e3 : (xo == 3) = true := by simpa using h3
                  have e3n : (xo != 3) = false := by simpa using h3
                  have HTg := hideIt (sTogether_any N es xa xb n a c hn wc (HE.out _ SW.i))
                  cases hg : togB (labE N es) xa xb with
                  | false =>
                    rw [hg] at HTg
                    have HO := hideIt (show mdR N es xo xa xb = (es, 2) by unfold mdR; rw [show telB N xo xa xb = true by unfold telB; simp [h3, hv, hu]]; simp [hg, h3])
                    clear ho hA hB hC hD h3 h4 hv hu hg
                    cases hab : (xa == xb) with
                    | false =>
                      go_wp2_with (first | (go_at_call 25; refine (HI.out _ _ _ _).mono ?_; rintro e w1 ⟨rfl, rfl⟩) | (go_at_call 35; refine HTg.out.mono ?_; rintro e w2 ⟨rfl, hb2⟩; refine Hid.out ?_))
                      refine (show ∀ {p : Prop}, p → Hid p from fun h => h) ?_
                      have SX := SW.up hb2
                      clear q0 q1 r0 r1 r2 r3 k0 k1 k2 k3 k4 k5 sz hbl
                      obtain ⟨k0, k1, k2, k3, k4, k5⟩ := HK.out _ SX.i
                      have q0 := SX.g.cells.1
                      have q1 := SX.g.cells.2
                      obtain ⟨⟨r0, r1⟩, r2, r3⟩ := SX.i.out
                      have sz := SX.i.size
                      have hbl := SX.g.least
                      go_wp2
                      exact bodyPost_ret (v := .tuple #[.agg #[.int .i64 N, .slice a' n c'], .int .i64 2]) (by simp [results, Try.results9, go_sem, r0, r1]) rfl (SX.ans HO.out)
                    | true =>
                      go_wp2_with (first | (go_at_call 25; refine (HI.out _ _ _ _).mono ?_; rintro e w1 ⟨rfl, rfl⟩) | (go_at_call 35; refine HTg.out.mono ?_; rintro e w2 ⟨rfl, hb2⟩; refine Hid.out ?_))
                      refine (show ∀ {p : Prop}, p → Hid p from fun h => h) ?_
                      have SX := SW.up hb2
                      clear q0 q1 r0 r1 r2 r3 k0 k1 k2 k3 k4 k5 sz hbl
                      obtain ⟨k0, k1, k2, k3, k4, k5⟩ := HK.out _ SX.i
                      have q0 := SX.g.cells.1
                      have q1 := SX.g.cells.2
                      obtain ⟨⟨r0, r1⟩, r2, r3⟩ := SX.i.out
                      have sz := SX.i.size
                      have hbl := SX.g.least
                      go_wp2
                      exact bodyPost_ret (v := .tuple #[.agg #[.int .i64 N, .slice a' n c'], .int .i64 2]) (by simp [results, Try.results9, go_sem, r0, r1]) rfl (SX.ans HO.out)
                  | true =>
                    rw [hg] at HTg
                    have HO := hideIt (show mdR N es xo xa xb = (es, 1) by unfold mdR; rw [show telB N xo xa xb = true by unfold telB; simp [h3, hv, hu]]; simp [hg, h3])
                    clear ho hA hB hC hD h3 h4 hv hu hg
                    cases hab : (xa == xb) with
                    | false =>
                      go_wp2_with (first | (go_at_call 25; refine (HI.out _ _ _ _).mono ?_; rintro e w1 ⟨rfl, rfl⟩) | (go_at_call 35; refine HTg.out.mono ?_; rintro e w2 ⟨rfl, hb2⟩; refine Hid.out ?_))
                      refine (show ∀ {p : Prop}, p → Hid p from fun h => h) ?_
                      have SX := SW.up hb2
                      clear q0 q1 r0 r1 r2 r3 k0 k1 k2 k3 k4 k5 sz hbl
                      obtain ⟨k0, k1, k2, k3, k4, k5⟩ := HK.out _ SX.i
                      have q0 := SX.g.cells.1
                      have q1 := SX.g.cells.2
                      obtain ⟨⟨r0, r1⟩, r2, r3⟩ := SX.i.out
                      have sz := SX.i.size
                      have hbl := SX.g.least
                      go_wp2
                      exact bodyPost_ret (v := .tuple #[.agg #[.int .i64 N, .slice a' n c'], .int .i64 1]) (by simp [results, Try.results9, go_sem, r0, r1]) rfl (SX.ans HO.out)
                    | true =>
                      go_wp2_with (first | (go_at_call 25; refine (HI.out _ _ _ _).mono ?_; rintro e w1 ⟨rfl, rfl⟩) | (go_at_call 35; refine HTg.out.mono ?_; rintro e w2 ⟨rfl, hb2⟩; refine Hid.out ?_))
                      refine (show ∀ {p : Prop}, p → Hid p from fun h => h) ?_
                      have SX := SW.up hb2
                      clear q0 q1 r0 r1 r2 r3 k0 k1 k2 k3 k4 k5 sz hbl
                      obtain ⟨k0, k1, k2, k3, k4, k5⟩ := HK.out _ SX.i
                      have q0 := SX.g.cells.1
                      have q1 := SX.g.cells.2
                      obtain ⟨⟨r0, r1⟩, r2, r3⟩ := SX.i.out
                      have sz := SX.i.size
                      have hbl := SX.g.least
                      go_wp2
                      exact bodyPost_ret (v := .tuple #[.agg #[.int .i64 N, .slice a' n c'], .int .i64 1]) (by simp [results, Try.results9, go_sem, r0, r1]) rfl (SX.ans HO.out)
                · have e3 : (xo == 3) = false := by simpa using h3
                  have e3n : (xo != 3) = true := by simpa using h3
                  have h12 : xo = 1 ∨ xo = 2 := by omega
                  by_cases hab : xa = xb
                  · have d5 : (xa == xb) = true := by simpa using hab
                    have HO := hideIt (show mdR N es xo xa xb = (es, 3) by unfold mdR; rw [show telB N xo xa xb = false by unfold telB; rw [if_pos h12]; simp [hab]]; simp)
                    clear ho hA hB hC hD h3 h4 hv hu hab h12
                    go_wp2_with (go_at_call 25; refine (HI.out _ _ _ _).mono ?_; rintro e w1 ⟨rfl, rfl⟩)
                    exact bodyPost_ret (v := .tuple #[.agg #[.int .i64 N, .slice a' n c'], .int .i64 3]) (by simp [results, Try.results9, go_sem, r0, r1]) rfl (SW.ans HO.out)
                  · have d5 : (xa == xb) = false := by simpa using hab
                    have hT : telB N xo xa xb = true := by unfold telB; rw [if_pos h12]; simp [hv, hu, hab]
                    clear hA hB hC hD hv hu hab h3 h4 ho
                    have HSE : Hid (∀ u, SM w N a n c xi xo xa xb es hi' b a' c' u → Calls Try.prog 37 #[.agg #[.int .i64 xi, .int .i64 xo, .int .i64 xa, .int .i64 xb]] u fun e v => e = .returned (.agg #[.int .i64 (edA xa xb).1, .int .i64 (edA xa xb).2]) ∧ SM w N a n c xi xo xa xb es hi' b a' c' v ∧ Keep u v) := fun u hu => (l12Edge_any xi xo xa xb u).mono fun _ _ ⟨he, hb⟩ => ⟨he, hu.up hb, Keep.of hb⟩
                    have HOa : Hid (xo = 1 → mdR N es xo xa xb = chR es (addE N es (edA xa xb))) := fun h1 => by unfold mdR; rw [hT]; simp [h1]
                    have HOt : Hid (xo = 2 → mdR N es xo xa xb = chR es (takE N es (edA xa xb))) := fun h1 => by unfold mdR; rw [hT]; simp [h1]
                    have HSa : Hid (∀ u, SM w N a n c xi xo xa xb es hi' b a' c' u → Calls Try.prog 36 #[.agg #[.int .i64 N, .slice a n c], .agg #[.int .i64 (edA xa xb).1, .int .i64 (edA xa xb).2]] u fun e v => ∃ ag mg cg, e = .returned (.tuple #[.agg #[.int .i64 (if (addE N es (edA xa xb)).isSome then N else 0), .slice ag mg cg], .bool (addE N es (edA xa xb)).isSome]) ∧ Hid (v.ownsRow hi' 59 2 (.slice ag mg cg) mg (ecells ((addE N es (edA xa xb)).getD []))) ∧ SM w N a n c xi xo xa xb es hi' b a' c' v ∧ Keep u v) := fun u hu =>
                      (sAddEdge_any N es (edA xa xb) n a c hn u (HE.out u hu.i)).mono fun _ _ ⟨ag, mg, cg, he, ho, hb⟩ => ⟨ag, mg, cg, he, own_mono ho hu.g.there, hu.up hb, Keep.of hb⟩
                    have HSt : Hid (∀ u, SM w N a n c xi xo xa xb es hi' b a' c' u → Calls Try.prog 38 #[.agg #[.int .i64 N, .slice a n c], .agg #[.int .i64 (edA xa xb).1, .int .i64 (edA xa xb).2]] u fun e v => ∃ ag mg cg, e = .returned (.tuple #[.agg #[.int .i64 (if (takE N es (edA xa xb)).isSome then N else 0), .slice ag mg cg], .bool (takE N es (edA xa xb)).isSome]) ∧ Hid (v.ownsRow hi' 59 2 (.slice ag mg cg) mg (ecells ((takE N es (edA xa xb)).getD []))) ∧ SM w N a n c xi xo xa xb es hi' b a' c' v ∧ Keep u v) := fun u hu =>
                      (sTakeEdge_any N es (edA xa xb) n a c hn u (HE.out u hu.i)).mono fun _ _ ⟨ag, mg, cg, he, ho, hb⟩ => ⟨ag, mg, cg, he, own_mono ho hu.g.there, hu.up hb, Keep.of hb⟩
                    generalize addE N es (edA xa xb) = oA at *
                    generalize takE N es (edA xa xb) = oT at *
                    generalize edA xa xb = f at *
                    clear hT
                    go_upto_region 14 with (go_at_call 25; refine (HI.out _ _ _ _).mono ?_; rintro e w1 ⟨rfl, rfl⟩)
                    clear k0 k1 k2 k3 k4 k5 q0 q1 r0 r1 r2 r3
                    have HC := hideIt (fun u (hu : SM w N a n c xi xo xa xb es hi' b a' c' u) => And.intro hu.i.cells hu)
                    have SWd := SW.up (Below.refl _ _).drew
                    have hS2 := HC.out _ SWd
                    have hth := SW.g.there
                    have hcw := HCW.out
                    generalize hMA : (if oA.isSome then N else 0) = MA at *
                    generalize hfl : oA.isSome = fl at *
                    generalize hgs : oA.getD [] = gs at *
                    have HMA := hideIt (And.intro hMA (And.intro hfl hgs))
                    clear hMA hfl hgs
                    go_cut [7, 8] (fun q ok wx => ∃ b2 ag mg cg, q = .pointer (some ⟨b2, 0, none⟩) ∧ ok = .bool fl ∧ SM w N a n c xi xo xa xb es hi' b a' c' wx ∧ GBox wx hi' wx.heap.size b2 MA ag mg cg gs)
                    case first =>
                      go_region_held3 (fun u => (u.cell? ⟨w.heap.size, 0, none⟩ = some (.int .i64 N) ∧ u.cell? ⟨w.heap.size, 1, none⟩ = some (.slice a n c) ∧ u.cell? ⟨w.heap.size + 1, 0, none⟩ = some (.int .i64 xi) ∧ u.cell? ⟨w.heap.size + 1, 1, none⟩ = some (.int .i64 xo) ∧ u.cell? ⟨w.heap.size + 1, 2, none⟩ = some (.int .i64 xa) ∧ u.cell? ⟨w.heap.size + 1, 3, none⟩ = some (.int .i64 xb)) ∧ SM w N a n c xi xo xa xb es hi' b a' c' u)
                        (first | assumption | exact HC.out _ (SM.up (And.right (by assumption)) ((Below.refl _ _).alloc (Nat.le_refl _) _)) | exact HC.out _ (SM.set (SM.set (And.right (by assumption)) _ _ _ (by omega) (by omega)) _ _ _ (by omega) (by omega)))
                        (first
                          | (go_at_call 37; refine (HSE.out _ (And.right (by assumption))).mono ?_; rintro e u7 ⟨rfl, S7, hk7⟩; have hS7 := HC.out _ S7; have z7 := S7.g.there; (first | have bx := hk7.nil (Box2.new _ _ _ _ _ rfl) | skip))
                          | (go_at_call 36; refine (HSa.out _ (And.right (by assumption))).mono ?_; rintro e u8 ⟨ag, mg, cg, rfl, ho8, S8, hk8⟩; have hS8 := HC.out _ S8; have z8 := S8.g.there; (first | have bx := hk8.nil bx | have bx := hk8.nil (Box2.new _ _ _ _ _ rfl) | skip); try (have bc0 := bx.cell0; have bc1 := bx.cell1; have bz0 := bx.frozen 0; have bz1 := bx.frozen 1)))
                      all_goals
                        go_wp2_with fail
                        go_meet
                        first
                          | exact ⟨_, ag, mg, cg, rfl, rfl, SM.set (SM.set S8 _ _ _ (by omega) (by omega)) _ _ _ (by omega) (by omega), GBox.stored bx (by omega) ho8.out⟩
                          | exact ⟨_, ag, mg, cg, rfl, rfl, S8.up ((Below.refl _ _).alloc (Nat.le_refl _) _), GBox.laid (by omega) ho8.out⟩
                    case rest =>
                      obtain ⟨b2, ag, mg, cg, rfl, rfl, S3, DG⟩ := hcut
                      clear HC SWd hS2 SW
                      have hb2 := DG.least
                      obtain ⟨k0, k1, k2, k3, k4, k5⟩ := HK.out _ S3.i
                      by_cases h2 : xo = 2
                      · have e2 : (xo == 2) = true := by simpa using h2
                        clear HSa HMA HOa
                        have HO := hideIt (HOt.out h2)
                        clear h2 h12 HOt
                        generalize hMT : (if oT.isSome then N else 0) = MT at *
                        generalize hft : oT.isSome = ft at *
                        generalize hgt : oT.getD [] = gt at *
                        have HMT := hideIt (And.intro hMT (And.intro hft hgt))
                        clear hMT hft hgt
                        go_upto_region 16 with fail
                        clear k0 k1 k2 k3 k4 k5
                        have HC := hideIt (fun u (hu : SM w N a n c xi xo xa xb es hi' b a' c' u) => And.intro hu.i.cells hu)
                        have S3d := S3.up (Below.refl _ _).drew
                        have hS2 := HC.out _ S3d
                        have hth := S3.g.there
                        have HDk := hideIt (keepBox DG)
                        have hb2w := DG.most
                        clear DG
                        go_cut [7, 8] (fun q ok wx => ∃ ah mh ch, q = .pointer (some ⟨b2, 0, none⟩) ∧ ok = .bool ft ∧ SM w N a n c xi xo xa xb es hi' b a' c' wx ∧ GBox wx hi' wx.heap.size b2 MT ah mh ch gt)
                        case first =>
                          go_region_held3 (fun u => (u.cell? ⟨w.heap.size, 0, none⟩ = some (.int .i64 N) ∧ u.cell? ⟨w.heap.size, 1, none⟩ = some (.slice a n c) ∧ u.cell? ⟨w.heap.size + 1, 0, none⟩ = some (.int .i64 xi) ∧ u.cell? ⟨w.heap.size + 1, 1, none⟩ = some (.int .i64 xo) ∧ u.cell? ⟨w.heap.size + 1, 2, none⟩ = some (.int .i64 xa) ∧ u.cell? ⟨w.heap.size + 1, 3, none⟩ = some (.int .i64 xb)) ∧ SM w N a n c xi xo xa xb es hi' b a' c' u)
                            (first | assumption | exact HC.out _ (SM.set (SM.set (And.right (by assumption)) _ _ _ (by omega) (by omega)) _ _ _ (by omega) (by omega)))
                            (first
                              | (go_at_call 37; refine (HSE.out _ S3d).mono ?_; rintro e u7 ⟨rfl, S7, hk7⟩; have hS7 := HC.out _ S7; have bx7 := hk7 _ _ _ _ (HDk.out _ (fun _ _ _ _ h => h)))
                              | (go_at_call 38; refine (HSt.out _ S7).mono ?_; rintro e u8 ⟨ah, mh, ch, rfl, ho8, S8, hk8⟩; have hS8 := HC.out _ S8; have bx := hk8 _ _ _ _ bx7; have bc0 := bx.cell0; have bc1 := bx.cell1; have bz0 := bx.frozen 0; have bz1 := bx.frozen 1))
                          all_goals
                            go_wp2_with fail
                            go_meet
                            exact ⟨ah, mh, ch, rfl, rfl, SM.set (SM.set S8 _ _ _ (by omega) (by omega)) _ _ _ (by omega) (by omega), GBox.stored bx (by omega) ho8.out⟩
                        case rest =>
                          obtain ⟨ah, mh, ch, rfl, rfl, S4, DH⟩ := hcut
                          obtain ⟨j1, j2, j3⟩ := HMT.out
                          clear hS2 S3d HC HDk S3 HMT
                          have q0 := S4.g.cells.1
                          have q1 := S4.g.cells.2
                          have p0 := DH.cells.1
                          have p1 := DH.cells.2
                          obtain ⟨⟨r0, r1⟩, r2, r3⟩ := S4.i.out
                          have sz := S4.i.size
                          have hbl := S4.g.least
                          cases oT with
                          | none =>
                            simp only [Option.isSome_none] at j2
                            subst j2
                            have HO2 := hideIt (show mdR N es xo xa xb = (es, 2) by rw [HO.out]; rfl)
                            clear HO j1 j3
                            go_wp2
                            exact bodyPost_ret (v := .tuple #[.agg #[.int .i64 N, .slice a' n c'], .int .i64 2]) (by simp [results, Try.results9, go_sem, r0, r1]) rfl (S4.ans HO2.out)
                          | some z =>
                            simp only [Option.isSome_some] at j2
                            subst j2
                            simp only [if_true] at j1
                            subst j1
                            simp only [Option.getD_some] at j3
                            subst j3
                            have HO2 := hideIt (show mdR N es xo xa xb = (z, 1) by rw [HO.out]; rfl)
                            clear HO
                            have hDo := hideIt DH.own
                            have hlo := hideIt (show w.heap.size + 3 ≤ hi' from HCW.out)
                            go_wp2
                            exact bodyPost_ret (v := .tuple #[.agg #[.int .i64 N, .slice ah mh ch], .int .i64 1]) (by simp [results, Try.results9, go_sem, r0, r1]) rfl (mans_yes S4.i HO2.out hlo.out hDo.out)
                      · have e2 : (xo == 2) = false := by simpa using h2
                        have HO := hideIt (HOa.out (by omega))
                        clear HSt HOt HOa h2 h12 HSE
                        obtain ⟨j1, j2, j3⟩ := HMA.out
                        clear HMA
                        have q0 := S3.g.cells.1
                        have q1 := S3.g.cells.2
                        have p0 := DG.cells.1
                        have p1 := DG.cells.2
                        obtain ⟨⟨r0, r1⟩, r2, r3⟩ := S3.i.out
                        have sz := S3.i.size
                        have hbl := S3.g.least
                        cases oA with
                        | none =>
                          simp only [Option.isSome_none] at j2
                          subst j2
                          have HO2 := hideIt (show mdR N es xo xa xb = (es, 2) by rw [HO.out]; rfl)
                          clear HO j1 j3
                          go_wp2
                          exact bodyPost_ret (v := .tuple #[.agg #[.int .i64 N, .slice a' n c'], .int .i64 2]) (by simp [results, Try.results9, go_sem, r0, r1]) rfl (S3.ans HO2.out)
                        | some z =>
                          simp only [Option.isSome_some] at j2
                          subst j2
                          simp only [if_true] at j1
                          subst j1
                          simp only [Option.getD_some] at j3
                          subst j3
                          have HO2 := hideIt (show mdR N es xo xa xb = (z, 1) by rw [HO.out]; rfl)
                          clear HO
                          have hDo := hideIt DG.own
                          have hlo := hideIt (show w.heap.size + 3 ≤ hi' from HCW.out)
                          go_wp2
                          exact bodyPost_ret (v := .tuple #[.agg #[.int .i64 N, .slice ag mg cg], .int .i64 1]) (by simp [results, Try.results9, go_sem, r0, r1]) rfl (mans_yes S3.i HO2.out hlo.out hDo.out)
              · have b1 : decide (xb < N) = false := decide_eq_false hD
                have hu : hvB N xb = false := by simp [hvB]; omega
                have HO := hideIt (show mdR N es xo xa xb = (es, 3) by unfold mdR; rw [show telB N xo xa xb = false by unfold telB; simp [hu, h4]]; simp)
                clear ho hA hB hC hD h4 hv hu
                go_wp2_with (go_at_call 25; refine (HI.out _ _ _ _).mono ?_; rintro e w1 ⟨rfl, rfl⟩)
                exact bodyPost_ret (v := .tuple #[.agg #[.int .i64 N, .slice a' n c'], .int .i64 3]) (by simp [results, Try.results9, go_sem, r0, r1]) rfl (SW.ans HO.out)
            · have b0 : decide (0 ≤ xb) = false := decide_eq_false hC
              have hu : hvB N xb = false := by simp [hvB]; omega
              have HO := hideIt (show mdR N es xo xa xb = (es, 3) by unfold mdR; rw [show telB N xo xa xb = false by unfold telB; simp [hu, h4]]; simp)
              clear ho hA hB hC h4 hv hu
              go_wp2_with (go_at_call 25; refine (HI.out _ _ _ _).mono ?_; rintro e w1 ⟨rfl, rfl⟩)
              exact bodyPost_ret (v := .tuple #[.agg #[.int .i64 N, .slice a' n c'], .int .i64 3]) (by simp [results, Try.results9, go_sem, r0, r1]) rfl (SW.ans HO.out)
        · have a1 : decide (xa < N) = false := decide_eq_false hB
          have hv : hvB N xa = false := by simp [hvB]; omega
          have HO := hideIt (show mdR N es xo xa xb = (es, 3) by unfold mdR; rw [show telB N xo xa xb = false by unfold telB; simp [hv]]; simp)
          clear ho hA hB hv
          go_wp2_with (go_at_call 25; refine (HI.out _ _ _ _).mono ?_; rintro e w1 ⟨rfl, rfl⟩)
          exact bodyPost_ret (v := .tuple #[.agg #[.int .i64 N, .slice a' n c'], .int .i64 3]) (by simp [results, Try.results9, go_sem, r0, r1]) rfl (SW.ans HO.out)
      · have a0 : decide (0 ≤ xa) = false := decide_eq_false hA
        have hv : hvB N xa = false := by simp [hvB]; omega
        have HO := hideIt (show mdR N es xo xa xb = (es, 3) by unfold mdR; rw [show telB N xo xa xb = false by unfold telB; simp [hv]]; simp)
        clear ho hA hv
        go_wp2_with (go_at_call 25; refine (HI.out _ _ _ _).mono ?_; rintro e w1 ⟨rfl, rfl⟩)
        exact bodyPost_ret (v := .tuple #[.agg #[.int .i64 N, .slice a' n c'], .int .i64 3]) (by simp [results, Try.results9, go_sem, r0, r1]) rfl (SW.ans HO.out)
    · have e0 : decide (1 ≤ xo ∧ xo ≤ 4) = false := decide_eq_false ho
      have HO := hideIt (show mdR N es xo xa xb = (es, 3) by unfold mdR; rw [show telB N xo xa xb = false by unfold telB; rw [if_neg (by omega), if_neg (by omega), if_neg (by omega)]]; simp)
      clear ho
      go_wp2_with (go_at_call 25; refine (HI.out _ _ _ _).mono ?_; rintro e w1 ⟨rfl, rfl⟩)
      exact bodyPost_ret (v := .tuple #[.agg #[.int .i64 N, .slice a' n c'], .int .i64 3]) (by simp [results, Try.results9, go_sem, r0, r1]) rfl (SW.ans HO.out)
end Go.Proofs.Ytobcihdjennieaa
