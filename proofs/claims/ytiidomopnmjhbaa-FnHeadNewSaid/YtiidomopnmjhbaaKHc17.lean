/- The program's copy of a new head. -/
import Derived.Test.YtiidomopnmjhbaaKHcA17
namespace Go.Proofs.Ytiidomopnmjhbaa
open Go.RowKit

theorem is_nil {w : World} {n : Nat} {a : Option Addr} {ls : List Int} (h : Is w w.heap.size a n ls) (hn : 1 ≤ n) (c : Nat) : a = none → n = 0 ∧ c = 0 := by
  intro ha
  rcases h.2 with h0 | ⟨b, off, hb, _⟩
  · omega
  · rw [ha] at hb; cases hb
theorem made_row (u : World) (B n : Nat) (hB : B ≤ u.heap.size) (hn : n ≤ 1000) : (u.alloc (.cells (madeCells #[.slice none 0 0] n) 26)).ownsRow B 26 1 (.slice (some ⟨u.heap.size, 0, none⟩) n n) n (List.replicate n (.slice none 0 0)) := by
  have hl := made1 (.slice none 0 0) n
  have hs : (madeCells #[Value.slice none 0 0] n).size = n := by rw [← Array.length_toList, hl, List.length_replicate]
  refine ⟨by simp, .inr ⟨u.heap.size, n, _, rfl, hB, heap_alloc_new u _, Nat.le_refl _, by unfold maxLen; omega, by rw [hs]; omega, ?_⟩⟩
  rw [hl, Nat.mul_one, List.take_of_length_le (by simp)]
/-- where the copying of labels stands -/
structure HcS (w : World) (nn sh : Nat) (aO : Option Addr) (cO : Nat) (aL : Option Addr) (cL : Nat) (aN : Option Addr) (p1 : Option Addr) (m1 c1 : Nat) (p3 : Option Addr) (m3 c3 : Nat) (g : Nat) (u : World) : Prop where
  c : BxA u (w.heap.size + 1 + 1) 37 #[.int .i64 (nn : Int), .slice p1 m1 c1, .slice none 0 0, .slice (some ⟨g, 0, none⟩) sh sh, .slice p3 m3 c3, .int .i64 0, .int .i64 0, .int .i64 0, .int .i64 0, .int .i64 0, .int .i64 0, .int .i64 0, .slice none 0 0, .int .i64 0, .slice none 0 0]
  d : BxA u w.heap.size 37 #[.int .i64 (nn : Int), .slice aO nn cO, .slice none 0 0, .slice aL sh cL, .slice aN sh sh, .int .i64 0, .int .i64 0, .int .i64 0, .int .i64 0, .int .i64 0, .int .i64 0, .int .i64 0, .slice none 0 0, .int .i64 0, .slice none 0 0]
  e : BxA u (w.heap.size + 1) 37 (hnC 0 none 0 0 none 0 0 none 0)
  f : Below w.heap.size w u
  r : ∃ xs, u.ownsRow (w.heap.size + 3) 26 1 (.slice (some ⟨g, 0, none⟩) sh sh) sh xs
theorem set_otherB {y : World} {b b' i j : Nat} {v : Value} (hne : b ≠ b') : (y.setCell ⟨b', j, none⟩ v).cell? ⟨b, i, none⟩ = y.cell? ⟨b, i, none⟩ := World.cell?_of_block (w := y) (Below.heap_setCell _ _ _ _ (by show b ≠ b'; exact hne))
set_option maxRecDepth 100000 in
set_option maxHeartbeats 16000000 in
theorem headCopy_new (nn sh : Nat) (aO : Option Addr) (cO : Nat) (aL : Option Addr) (cL : Nat) (aN : Option Addr) (w : World) (h : NwH w nn sh aO aL aN) :
    Calls Try.prog 26 #[.agg (hnC (nn : Int) aO nn cO aL sh cL aN sh)] w fun e w' => ∃ (p1 : Option Addr) (m1 c1 : Nat) (p2 : Option Addr) (m2 c2 : Nat) (p3 : Option Addr) (m3 c3 : Nat), e = .returned (.agg (hkC (nn : Int) (.slice p1 m1 c1) (.slice p2 m2 c2) (.slice p3 m3 c3) (.slice none 0 0))) ∧ Below w.heap.size w w' := by
  obtain ⟨w2, hw2⟩ : ∃ w2, w2 = ((w.alloc (.cells #[.int .i64 (nn : Int), .slice aO nn cO, .slice none 0 0, .slice aL sh cL, .slice aN sh sh, .int .i64 0, .int .i64 0, .int .i64 0, .int .i64 0, .int .i64 0, .int .i64 0, .int .i64 0, .slice none 0 0, .int .i64 0, .slice none 0 0] 37)).alloc (.cells #[.int .i64 0, .slice none 0 0, .slice none 0 0, .slice none 0 0, .slice none 0 0, .int .i64 0, .int .i64 0, .int .i64 0, .int .i64 0, .int .i64 0, .int .i64 0, .int .i64 0, .slice none 0 0, .int .i64 0, .slice none 0 0] 37)).alloc (.cells #[.int .i64 (nn : Int), .slice aO nn cO, .slice none 0 0, .slice aL sh cL, .slice aN sh sh, .int .i64 0, .int .i64 0, .int .i64 0, .int .i64 0, .int .i64 0, .int .i64 0, .int .i64 0, .slice none 0 0, .int .i64 0, .slice none 0 0] 37) := ⟨_, rfl⟩
  have HG2 : Hid (Below w.heap.size w w2) := by show Below _ _ _; rw [hw2]; exact (((Below.refl _ _).alloc (Nat.le_refl _) _).alloc (by simp) _).alloc (by simp; omega) _
  have B0 : BxA w2 w.heap.size 37 #[.int .i64 (nn : Int), .slice aO nn cO, .slice none 0 0, .slice aL sh cL, .slice aN sh sh, .int .i64 0, .int .i64 0, .int .i64 0, .int .i64 0, .int .i64 0, .int .i64 0, .int .i64 0, .slice none 0 0, .int .i64 0, .slice none 0 0] := by rw [hw2]; exact ((BxA.new w _ _).up (belA _ _)).up (belA _ _)
  have B1 : BxA w2 (w.heap.size + 1) 37 #[.int .i64 0, .slice none 0 0, .slice none 0 0, .slice none 0 0, .slice none 0 0, .int .i64 0, .int .i64 0, .int .i64 0, .int .i64 0, .int .i64 0, .int .i64 0, .int .i64 0, .slice none 0 0, .int .i64 0, .slice none 0 0] := by
    have h := (BxA.new (w.alloc (.cells #[.int .i64 (nn : Int), .slice aO nn cO, .slice none 0 0, .slice aL sh cL, .slice aN sh sh, .int .i64 0, .int .i64 0, .int .i64 0, .int .i64 0, .int .i64 0, .int .i64 0, .int .i64 0, .slice none 0 0, .int .i64 0, .slice none 0 0] 37)) 37 #[.int .i64 0, .slice none 0 0, .slice none 0 0, .slice none 0 0, .slice none 0 0, .int .i64 0, .int .i64 0, .int .i64 0, .int .i64 0, .int .i64 0, .int .i64 0, .int .i64 0, .slice none 0 0, .int .i64 0, .slice none 0 0]).up (belA _ (.cells #[.int .i64 (nn : Int), .slice aO nn cO, .slice none 0 0, .slice aL sh cL, .slice aN sh sh, .int .i64 0, .int .i64 0, .int .i64 0, .int .i64 0, .int .i64 0, .int .i64 0, .int .i64 0, .slice none 0 0, .int .i64 0, .slice none 0 0] 37))
    rw [show (w.alloc (.cells #[.int .i64 (nn : Int), .slice aO nn cO, .slice none 0 0, .slice aL sh cL, .slice aN sh sh, .int .i64 0, .int .i64 0, .int .i64 0, .int .i64 0, .int .i64 0, .int .i64 0, .int .i64 0, .slice none 0 0, .int .i64 0, .slice none 0 0] 37)).heap.size = w.heap.size + 1 by simp] at h
    rw [hw2]; exact h
  have B2 : BxA w2 (w.heap.size + 1 + 1) 37 #[.int .i64 (nn : Int), .slice aO nn cO, .slice none 0 0, .slice aL sh cL, .slice aN sh sh, .int .i64 0, .int .i64 0, .int .i64 0, .int .i64 0, .int .i64 0, .int .i64 0, .int .i64 0, .slice none 0 0, .int .i64 0, .slice none 0 0] := by
    have h := BxA.new ((w.alloc (.cells #[.int .i64 (nn : Int), .slice aO nn cO, .slice none 0 0, .slice aL sh cL, .slice aN sh sh, .int .i64 0, .int .i64 0, .int .i64 0, .int .i64 0, .int .i64 0, .int .i64 0, .int .i64 0, .slice none 0 0, .int .i64 0, .slice none 0 0] 37)).alloc (.cells #[.int .i64 0, .slice none 0 0, .slice none 0 0, .slice none 0 0, .slice none 0 0, .int .i64 0, .int .i64 0, .int .i64 0, .int .i64 0, .int .i64 0, .int .i64 0, .int .i64 0, .slice none 0 0, .int .i64 0, .slice none 0 0] 37)) 37 #[.int .i64 (nn : Int), .slice aO nn cO, .slice none 0 0, .slice aL sh cL, .slice aN sh sh, .int .i64 0, .int .i64 0, .int .i64 0, .int .i64 0, .int .i64 0, .int .i64 0, .int .i64 0, .slice none 0 0, .int .i64 0, .slice none 0 0]
    rw [show ((w.alloc (.cells #[.int .i64 (nn : Int), .slice aO nn cO, .slice none 0 0, .slice aL sh cL, .slice aN sh sh, .int .i64 0, .int .i64 0, .int .i64 0, .int .i64 0, .int .i64 0, .int .i64 0, .int .i64 0, .slice none 0 0, .int .i64 0, .slice none 0 0] 37)).alloc (.cells #[.int .i64 0, .slice none 0 0, .slice none 0 0, .slice none 0 0, .slice none 0 0, .int .i64 0, .int .i64 0, .int .i64 0, .int .i64 0, .int .i64 0, .int .i64 0, .int .i64 0, .slice none 0 0, .int .i64 0, .slice none 0 0] 37)).heap.size = w.heap.size + 1 + 1 by simp] at h
    rw [hw2]; exact h
  have HLt : Hid (w.heap.size + 1 + 1 < w2.heap.size) := B2.lt
  have BR0 : Hid (∀ u, Good w2 u → BxA u w.heap.size 37 #[.int .i64 (nn : Int), .slice aO nn cO, .slice none 0 0, .slice aL sh cL, .slice aN sh sh, .int .i64 0, .int .i64 0, .int .i64 0, .int .i64 0, .int .i64 0, .int .i64 0, .int .i64 0, .slice none 0 0, .int .i64 0, .slice none 0 0]) := fun u hu => B0.up hu
  have BR1 : Hid (∀ u, Good w2 u → BxA u (w.heap.size + 1) 37 (hnC 0 none 0 0 none 0 0 none 0)) := fun u hu => B1.up hu
  have BR2 : Hid (∀ u, Good w2 u → BxA u (w.heap.size + 1 + 1) 37 #[.int .i64 (nn : Int), .slice aO nn cO, .slice none 0 0, .slice aL sh cL, .slice aN sh sh, .int .i64 0, .int .i64 0, .int .i64 0, .int .i64 0, .int .i64 0, .int .i64 0, .int .i64 0, .slice none 0 0, .int .i64 0, .slice none 0 0]) := fun u hu => B2.up hu
  have HC : Hid (∀ u, Good w2 u → u.cell? ⟨w.heap.size, 1, none⟩ = some (.slice aO nn cO) ∧ u.cell? ⟨w.heap.size, 2, none⟩ = some (.slice none 0 0) ∧ u.cell? ⟨w.heap.size, 4, none⟩ = some (.slice aN sh sh) ∧ u.cell? ⟨w.heap.size, 14, none⟩ = some (.slice none 0 0)) := fun u hu => ⟨(B0.up hu).cell 1 rfl, (B0.up hu).cell 2 rfl, (B0.up hu).cell 4 rfl, (B0.up hu).cell 14 rfl⟩
  have HSt : Hid (∀ (y : World) (j : Nat) (v : Value), (y.cell? ⟨w.heap.size, 1, none⟩ = some (.slice aO nn cO) ∧ y.cell? ⟨w.heap.size, 2, none⟩ = some (.slice none 0 0) ∧ y.cell? ⟨w.heap.size, 4, none⟩ = some (.slice aN sh sh) ∧ y.cell? ⟨w.heap.size, 14, none⟩ = some (.slice none 0 0)) → (fun u => u.cell? ⟨w.heap.size, 1, none⟩ = some (.slice aO nn cO) ∧ u.cell? ⟨w.heap.size, 2, none⟩ = some (.slice none 0 0) ∧ u.cell? ⟨w.heap.size, 4, none⟩ = some (.slice aN sh sh) ∧ u.cell? ⟨w.heap.size, 14, none⟩ = some (.slice none 0 0)) (y.setCell ⟨w.heap.size + 1 + 1, j, none⟩ v)) := fun y j v hy => by
    have hne : w.heap.size ≠ w.heap.size + 1 + 1 := by omega
    dsimp only
    rw [set_otherB hne, set_otherB hne, set_otherB hne, set_otherB hne]
    exact hy
  have hS2 := HC.out _ (Good.refl w2).drew
  have H2 := h.up HG2.out
  have HCo : Hid (∀ (u : World) (b : Nat), Good w2 u → (u.cell? ⟨b, 0, none⟩ = some (.slice aO nn cO) ∧ b < u.heap.size) → Calls Try.prog 64 #[.slice (some ⟨b, 0, none⟩) 1 1] u fun e v => ∃ a m c, e = .returned (.slice a m c) ∧ Below u.heap.size u v) := fun u b hu hc =>
    con1I _ aO nn cO (by have := h.h2; omega) (is_nil h.o h.h1 cO) b u (H2.up hu).o hc
  have HCn : Hid (∀ (u : World) (b : Nat), Good w2 u → (u.cell? ⟨b, 0, none⟩ = some (.slice aN sh sh) ∧ b < u.heap.size) → Calls Try.prog 64 #[.slice (some ⟨b, 0, none⟩) 1 1] u fun e v => ∃ a m c, e = .returned (.slice a m c) ∧ Below u.heap.size u v) := fun u b hu hc =>
    con1I _ aN sh sh (by have := h.h4; omega) (is_nil h.n h.h3 sh) b u (H2.up hu).n hc
  have HCe : Hid (∀ (u : World) (b : Nat), Good w2 u → (u.cell? ⟨b, 0, none⟩ = some (.slice none 0 0) ∧ b < u.heap.size) → Calls Try.prog 65 #[.slice (some ⟨b, 0, none⟩) 1 1] u fun e v => e = .returned (.slice none 0 0) ∧ Below u.heap.size u v) := fun u b _ hc =>
    (conE_nil b u hc.1).mono fun e v h2 => ⟨h2.1, by rw [h2.2]; exact Below.refl _ _⟩
  have HCs : Hid (∀ (u : World) (b : Nat), Good w2 u → (u.cell? ⟨b, 0, none⟩ = some (.slice none 0 0) ∧ b < u.heap.size) → Calls Try.prog 66 #[.slice (some ⟨b, 0, none⟩) 1 1] u fun e v => e = .returned (.slice none 0 0) ∧ Below u.heap.size u v) := fun u b _ hc =>
    (conS_nil b u hc.1).mono fun e v h2 => ⟨h2.1, by rw [h2.2]; exact Below.refl _ _⟩
  have HNw := hideIt h
  have hsh : sh ≤ 3 := h.h4
  obtain ⟨i1, hi', hy0, hy1, hy2⟩ := info_parts infoIT
  have hmk : ∀ u : World, (Instr.makeSlice 28 (.int .i64 (sh : Int)) (.int .i64 (sh : Int))).run Try.prog u =
      .ok (.slice (some ⟨u.heap.size, 0, none⟩) sh sh) (u.alloc (.cells (madeCells #[.slice none 0 0] sh) 26)) := fun u => by
    have h := run_make (P := Try.prog) u 28 26 i1 _ Try.underlying28 hi' hy0 .i64 .i64 (sh : Int) (sh : Int) (by omega) (by omega) (by rw [hy2]; omega) (by omega)
    rw [Int.toNat_natCast] at h
    simpa [hy1, Value.cells] using h
  have b0 := B0.cell 0 rfl
  clear h H2 B0 B1 B2 b0
  go_enter Try.func26, Try.ntmps26
  go_upto_region 2 with fail
  rw [← hw2]
  clear hw2
  (
   apply viaT
   intro t2_3_6_7_10_11_14_15_16_
   apply viaT
   intro t2_3_6_7_10_11_14_16_
   apply viaT
   intro t2_3_6_7_10_11_14_15_
   apply viaT
   intro t2_3_6_7_10_11_16_
   apply viaT
   intro t2_3_6_7_10_14_16_
   apply viaT
   intro t2_3_6_7_10_11_14_
   apply viaT
   intro t2_3_6_7_10_16_
   apply viaT
   intro t2_3_6_7_14_16_
   apply viaT
   intro t2_3_6_10_14_16_
   apply viaT
   intro t2_3_6_7_10_11_
   apply viaT
   intro t2_3_6_7_10_14_
   apply viaT
   intro t2_3_6_7_16_
   apply viaT
   intro t2_3_6_10_16_
   apply viaT
   intro t2_3_6_14_16_
   apply viaT
   intro t2_3_10_14_16_
   apply viaT
   intro t2_3_6_7_10_
   apply viaT
   intro t2_3_6_7_14_
   apply viaT
   intro t2_3_6_10_14_
   apply viaT
   intro t2_3_6_16_
   apply viaT
   intro t2_3_10_16_
   apply viaT
   intro t2_3_14_16_
   apply viaT
   intro t2_3_6_7_
   apply viaT
   intro t2_3_6_10_
   apply viaT
   intro t2_3_6_14_
   apply viaT
   intro t2_3_10_14_
   apply viaT
   intro t2_6_10_14_
   apply viaT
   intro t2_3_16_
   apply viaT
   intro t2_3_6_
   apply viaT
   intro t2_3_10_
   apply viaT
   intro t2_3_14_
   apply viaT
   intro t2_6_10_
   apply viaT
   intro t2_6_14_
   apply viaT
   intro t2_10_14_
   apply viaT
   intro t6_10_14_
   apply viaT
   intro t2_3_
   apply viaT
   intro t2_6_
   apply viaT
   intro t2_10_
   apply viaT
   intro t2_14_
   apply viaT
   intro t6_10_
   apply viaT
   intro t6_14_
   apply viaT
   intro t10_14_
   apply viaT
   intro t2_
   apply viaT
   intro t6_
   apply viaT
   intro t10_
   apply viaT
   intro t14_
   focus (
   refine wp_region_held_drew (S := (fun u => u.cell? ⟨w.heap.size, 1, none⟩ = some (.slice aO nn cO) ∧ u.cell? ⟨w.heap.size, 2, none⟩ = some (.slice none 0 0) ∧ u.cell? ⟨w.heap.size, 4, none⟩ = some (.slice aN sh sh) ∧ u.cell? ⟨w.heap.size, 14, none⟩ = some (.slice none 0 0))) (by kernel_rfl) hS2 (fun hHeld => ?_)
   refine wpAnyH_take (i := 0) (v := ?_) rfl (by kernel_rfl) (by kernel_rfl) (by kernel_rfl) (fun _ _ _ h => h) (Or.inl ⟨by rfl, ?_⟩) (by assumption) ?_
   rotate_left
   · intro w hSw; (try dsimp only at hSw); go_simp; try with_reducible rfl
   try simp only [Act.put, List.getElem_toArray, List.getElem_cons_zero, List.setIfInBounds_toArray, List.set_cons_zero, List.set_cons_succ]
   refine wpAnyH_take (i := 1) (v := ?_) rfl (by kernel_rfl) (by kernel_rfl) (by kernel_rfl) (fun _ _ _ h => h) (Or.inl ⟨by rfl, ?_⟩) (by assumption) ?_
   rotate_left
   · intro w hSw; (try dsimp only at hSw); go_simp; try with_reducible rfl
   try simp only [Act.put, List.getElem_toArray, List.getElem_cons_succ, List.getElem_cons_zero, List.setIfInBounds_toArray, List.set_cons_zero, List.set_cons_succ]
   refine wpAnyH_take (i := 4) (v := ?_) rfl (by kernel_rfl) (by kernel_rfl) (by kernel_rfl) (fun _ _ _ h => h) (Or.inl ⟨by rfl, ?_⟩) (by assumption) ?_
   rotate_left
   · intro w hSw; (try dsimp only at hSw); go_simp; try with_reducible rfl
   try simp only [Act.put, List.getElem_toArray, List.getElem_cons_succ, List.getElem_cons_zero, List.setIfInBounds_toArray, List.set_cons_zero, List.set_cons_succ]
   refine wpAnyH_take (i := 5) (v := ?_) rfl (by kernel_rfl) (by kernel_rfl) (by kernel_rfl) (fun _ _ _ h => h) (Or.inl ⟨by rfl, ?_⟩) (by assumption) ?_
   rotate_left
   · intro w hSw; (try dsimp only at hSw); go_simp; try with_reducible rfl
   try simp only [Act.put, List.getElem_toArray, List.getElem_cons_succ, List.getElem_cons_zero, List.setIfInBounds_toArray, List.set_cons_zero, List.set_cons_succ]
   refine wpAnyH_take (i := 8) (v := ?_) rfl (by kernel_rfl) (by kernel_rfl) (by kernel_rfl) (fun _ _ _ h => h) (Or.inl ⟨by rfl, ?_⟩) (by assumption) ?_
   rotate_left
   · intro w hSw; (try dsimp only at hSw); go_simp; try with_reducible rfl
   try simp only [Act.put, List.getElem_toArray, List.getElem_cons_succ, List.getElem_cons_zero, List.setIfInBounds_toArray, List.set_cons_zero, List.set_cons_succ]
   refine wpAnyH_take (i := 9) (v := ?_) rfl (by kernel_rfl) (by kernel_rfl) (by kernel_rfl) (fun _ _ _ h => h) (Or.inl ⟨by rfl, ?_⟩) (by assumption) ?_
   rotate_left
   · intro w hSw; (try dsimp only at hSw); go_simp; try with_reducible rfl
   try simp only [Act.put, List.getElem_toArray, List.getElem_cons_succ, List.getElem_cons_zero, List.setIfInBounds_toArray, List.set_cons_zero, List.set_cons_succ]
   refine wpAnyH_take (i := 12) (v := ?_) rfl (by kernel_rfl) (by kernel_rfl) (by kernel_rfl) (fun _ _ _ h => h) (Or.inl ⟨by rfl, ?_⟩) (by assumption) ?_
   rotate_left
   · intro w hSw; (try dsimp only at hSw); go_simp; try with_reducible rfl
   try simp only [Act.put, List.getElem_toArray, List.getElem_cons_succ, List.getElem_cons_zero, List.setIfInBounds_toArray, List.set_cons_zero, List.set_cons_succ]
   refine wpAnyH_take (i := 13) (v := ?_) rfl (by kernel_rfl) (by kernel_rfl) (by kernel_rfl) (fun _ _ _ h => h) (Or.inl ⟨by rfl, ?_⟩) (by assumption) ?_
   rotate_left
   · intro w hSw; (try dsimp only at hSw); go_simp; try with_reducible rfl
   try simp only [Act.put, List.getElem_toArray, List.getElem_cons_succ, List.getElem_cons_zero, List.setIfInBounds_toArray, List.set_cons_zero, List.set_cons_succ]
   obtain ⟨y, hy⟩ : ∃ y, y = w2.drew := ⟨_, rfl⟩
   have GU : Good w2 y := by rw [hy]; exact (Good.refl _).drew
   rw [← hy]
   clear hy hHeld
   refine wpAnyH_ready (rs := [2, 6, 10, 14]) (by kernel_rfl) (by simp) ?_
   refine AllReadyH.cons rfl (fun K hK => ?_) (AllReadyH.cons rfl (fun K hK => ?_) (AllReadyH.cons rfl (fun K hK => ?_) (AllReadyH.cons rfl (fun K hK => ?_) AllReadyH.nil)))
   focus (
   go_simp
   refine hK.out _ _ (HC.out _ (GU.alloc _)) (fun hHeld => ?_)
   clear hK K
   try simp only [Act.put, List.getElem_toArray, List.getElem_cons_succ, List.getElem_cons_zero, List.setIfInBounds_toArray, List.set_cons_zero, List.set_cons_succ]
   obtain ⟨z, hz⟩ : ∃ z, z = y.alloc (.cells #[.slice aO nn cO] 26) := ⟨_, rfl⟩
   have gg : Below y.heap.size y z := by rw [hz]; exact (Below.refl _ _).alloc (Nat.le_refl _) _
   have P1 : z.cell? ⟨y.heap.size, 0, none⟩ = some (.slice aO nn cO) ∧ y.heap.size < z.heap.size := by rw [hz]; simp [go_sem]
   replace GU := Good.up GU gg
   rw [← hz]
   clear hz gg hHeld
   generalize y.heap.size = bA at *
   refine lstH (l' := #[true, true, true, false, true, true, false, false, true, true, false, false, true, true, false, false, false, false, false, false, false, false, false, false]) (by kernel_rfl) ?_
   have F := And.intro GU P1
   clear GU P1
   revert F
   revert bA
   revert z
   exact t2_.out
   )
   focus (
   go_simp
   refine hK.out _ _ (HC.out _ (GU.alloc _)) (fun hHeld => ?_)
   clear hK K
   try simp only [Act.put, List.getElem_toArray, List.getElem_cons_succ, List.getElem_cons_zero, List.setIfInBounds_toArray, List.set_cons_zero, List.set_cons_succ]
   obtain ⟨z, hz⟩ : ∃ z, z = y.alloc (.cells #[.slice none 0 0] 27) := ⟨_, rfl⟩
   have gg : Below y.heap.size y z := by rw [hz]; exact (Below.refl _ _).alloc (Nat.le_refl _) _
   have P2 : z.cell? ⟨y.heap.size, 0, none⟩ = some (.slice none 0 0) ∧ y.heap.size < z.heap.size := by rw [hz]; simp [go_sem]
   replace GU := Good.up GU gg
   rw [← hz]
   clear hz gg hHeld
   generalize y.heap.size = bB at *
   refine lstH (l' := #[true, true, false, false, true, true, true, false, true, true, false, false, true, true, false, false, false, false, false, false, false, false, false, false]) (by kernel_rfl) ?_
   have F := And.intro GU P2
   clear GU P2
   revert F
   revert bB
   revert z
   exact t6_.out
   )
   focus (
   go_simp
   refine hK.out _ _ (HC.out _ (GU.alloc _)) (fun hHeld => ?_)
   clear hK K
   try simp only [Act.put, List.getElem_toArray, List.getElem_cons_succ, List.getElem_cons_zero, List.setIfInBounds_toArray, List.set_cons_zero, List.set_cons_succ]
   obtain ⟨z, hz⟩ : ∃ z, z = y.alloc (.cells #[.slice aN sh sh] 26) := ⟨_, rfl⟩
   have gg : Below y.heap.size y z := by rw [hz]; exact (Below.refl _ _).alloc (Nat.le_refl _) _
   have P3 : z.cell? ⟨y.heap.size, 0, none⟩ = some (.slice aN sh sh) ∧ y.heap.size < z.heap.size := by rw [hz]; simp [go_sem]
   replace GU := Good.up GU gg
   rw [← hz]
   clear hz gg hHeld
   generalize y.heap.size = bC at *
   refine lstH (l' := #[true, true, false, false, true, true, false, false, true, true, true, false, true, true, false, false, false, false, false, false, false, false, false, false]) (by kernel_rfl) ?_
   have F := And.intro GU P3
   clear GU P3
   revert F
   revert bC
   revert z
   exact t10_.out
   )
   focus (
   go_simp
   refine hK.out _ _ (HC.out _ (GU.alloc _)) (fun hHeld => ?_)
   clear hK K
   try simp only [Act.put, List.getElem_toArray, List.getElem_cons_succ, List.getElem_cons_zero, List.setIfInBounds_toArray, List.set_cons_zero, List.set_cons_succ]
   obtain ⟨z, hz⟩ : ∃ z, z = y.alloc (.cells #[.slice none 0 0] 35) := ⟨_, rfl⟩
   have gg : Below y.heap.size y z := by rw [hz]; exact (Below.refl _ _).alloc (Nat.le_refl _) _
   have P4 : z.cell? ⟨y.heap.size, 0, none⟩ = some (.slice none 0 0) ∧ y.heap.size < z.heap.size := by rw [hz]; simp [go_sem]
   replace GU := Good.up GU gg
   rw [← hz]
   clear hz gg hHeld
   generalize y.heap.size = bD at *
   refine lstH (l' := #[true, true, false, false, true, true, false, false, true, true, false, false, true, true, true, false, false, false, false, false, false, false, false, false]) (by kernel_rfl) ?_
   have F := And.intro GU P4
   clear GU P4
   revert F
   revert bD
   revert z
   exact t14_.out
   )
   )
   focus (
   intro y bD F
   obtain ⟨GU, P4⟩ := F
   have hHeld := HC.out _ GU
   clear hHeld
   refine wpAnyH_ready (rs := [2, 6, 10]) (by kernel_rfl) (by simp) ?_
   refine AllReadyH.cons rfl (fun K hK => ?_) (AllReadyH.cons rfl (fun K hK => ?_) (AllReadyH.cons rfl (fun K hK => ?_) AllReadyH.nil))
   focus (
   go_simp
   refine hK.out _ _ (HC.out _ (GU.alloc _)) (fun hHeld => ?_)
   clear hK K
   try simp only [List.setIfInBounds_toArray, List.set_cons_zero, List.set_cons_succ]
   obtain ⟨z, hz⟩ : ∃ z, z = y.alloc (.cells #[.slice aO nn cO] 26) := ⟨_, rfl⟩
   have gg : Below y.heap.size y z := by rw [hz]; exact (Below.refl _ _).alloc (Nat.le_refl _) _
   have P1 : z.cell? ⟨y.heap.size, 0, none⟩ = some (.slice aO nn cO) ∧ y.heap.size < z.heap.size := by rw [hz]; simp [go_sem]
   replace GU := Good.up GU gg
   replace P4 := keepQ P4 gg
   rw [← hz]
   clear hz gg hHeld
   generalize y.heap.size = bA at *
   refine lstH (l' := #[true, true, true, false, true, true, false, false, true, true, false, false, true, true, true, false, false, false, false, false, false, false, false, false]) (by kernel_rfl) ?_
   have F := And.intro GU (And.intro P1 P4)
   clear GU P1 P4
   revert F
   revert bD
   revert bA
   revert z
   exact t2_14_.out
   )
   focus (
   go_simp
   refine hK.out _ _ (HC.out _ (GU.alloc _)) (fun hHeld => ?_)
   clear hK K
   try simp only [List.setIfInBounds_toArray, List.set_cons_zero, List.set_cons_succ]
   obtain ⟨z, hz⟩ : ∃ z, z = y.alloc (.cells #[.slice none 0 0] 27) := ⟨_, rfl⟩
   have gg : Below y.heap.size y z := by rw [hz]; exact (Below.refl _ _).alloc (Nat.le_refl _) _
   have P2 : z.cell? ⟨y.heap.size, 0, none⟩ = some (.slice none 0 0) ∧ y.heap.size < z.heap.size := by rw [hz]; simp [go_sem]
   replace GU := Good.up GU gg
   replace P4 := keepQ P4 gg
   rw [← hz]
   clear hz gg hHeld
   generalize y.heap.size = bB at *
   refine lstH (l' := #[true, true, false, false, true, true, true, false, true, true, false, false, true, true, true, false, false, false, false, false, false, false, false, false]) (by kernel_rfl) ?_
   have F := And.intro GU (And.intro P2 P4)
   clear GU P2 P4
   revert F
   revert bD
   revert bB
   revert z
   exact t6_14_.out
   )
   focus (
   go_simp
   refine hK.out _ _ (HC.out _ (GU.alloc _)) (fun hHeld => ?_)
   clear hK K
   try simp only [List.setIfInBounds_toArray, List.set_cons_zero, List.set_cons_succ]
   obtain ⟨z, hz⟩ : ∃ z, z = y.alloc (.cells #[.slice aN sh sh] 26) := ⟨_, rfl⟩
   have gg : Below y.heap.size y z := by rw [hz]; exact (Below.refl _ _).alloc (Nat.le_refl _) _
   have P3 : z.cell? ⟨y.heap.size, 0, none⟩ = some (.slice aN sh sh) ∧ y.heap.size < z.heap.size := by rw [hz]; simp [go_sem]
   replace GU := Good.up GU gg
   replace P4 := keepQ P4 gg
   rw [← hz]
   clear hz gg hHeld
   generalize y.heap.size = bC at *
   refine lstH (l' := #[true, true, false, false, true, true, false, false, true, true, true, false, true, true, true, false, false, false, false, false, false, false, false, false]) (by kernel_rfl) ?_
   have F := And.intro GU (And.intro P3 P4)
   clear GU P3 P4
   revert F
   revert bD
   revert bC
   revert z
   exact t10_14_.out
   )
   )
   focus (
   intro y bC F
   obtain ⟨GU, P3⟩ := F
   have hHeld := HC.out _ GU
   clear hHeld
   refine wpAnyH_ready (rs := [2, 6, 14]) (by kernel_rfl) (by simp) ?_
   refine AllReadyH.cons rfl (fun K hK => ?_) (AllReadyH.cons rfl (fun K hK => ?_) (AllReadyH.cons rfl (fun K hK => ?_) AllReadyH.nil))
   focus (
   go_simp
   refine hK.out _ _ (HC.out _ (GU.alloc _)) (fun hHeld => ?_)
   clear hK K
   try simp only [List.setIfInBounds_toArray, List.set_cons_zero, List.set_cons_succ]
   obtain ⟨z, hz⟩ : ∃ z, z = y.alloc (.cells #[.slice aO nn cO] 26) := ⟨_, rfl⟩
   have gg : Below y.heap.size y z := by rw [hz]; exact (Below.refl _ _).alloc (Nat.le_refl _) _
   have P1 : z.cell? ⟨y.heap.size, 0, none⟩ = some (.slice aO nn cO) ∧ y.heap.size < z.heap.size := by rw [hz]; simp [go_sem]
   replace GU := Good.up GU gg
   replace P3 := keepQ P3 gg
   rw [← hz]
   clear hz gg hHeld
   generalize y.heap.size = bA at *
   refine lstH (l' := #[true, true, true, false, true, true, false, false, true, true, true, false, true, true, false, false, false, false, false, false, false, false, false, false]) (by kernel_rfl) ?_
   have F := And.intro GU (And.intro P1 P3)
   clear GU P1 P3
   revert F
   revert bC
   revert bA
   revert z
   exact t2_10_.out
   )
   focus (
   go_simp
   refine hK.out _ _ (HC.out _ (GU.alloc _)) (fun hHeld => ?_)
   clear hK K
   try simp only [List.setIfInBounds_toArray, List.set_cons_zero, List.set_cons_succ]
   obtain ⟨z, hz⟩ : ∃ z, z = y.alloc (.cells #[.slice none 0 0] 27) := ⟨_, rfl⟩
   have gg : Below y.heap.size y z := by rw [hz]; exact (Below.refl _ _).alloc (Nat.le_refl _) _
   have P2 : z.cell? ⟨y.heap.size, 0, none⟩ = some (.slice none 0 0) ∧ y.heap.size < z.heap.size := by rw [hz]; simp [go_sem]
   replace GU := Good.up GU gg
   replace P3 := keepQ P3 gg
   rw [← hz]
   clear hz gg hHeld
   generalize y.heap.size = bB at *
   refine lstH (l' := #[true, true, false, false, true, true, true, false, true, true, true, false, true, true, false, false, false, false, false, false, false, false, false, false]) (by kernel_rfl) ?_
   have F := And.intro GU (And.intro P2 P3)
   clear GU P2 P3
   revert F
   revert bC
   revert bB
   revert z
   exact t6_10_.out
   )
   focus (
   go_simp
   refine hK.out _ _ (HC.out _ (GU.alloc _)) (fun hHeld => ?_)
   clear hK K
   try simp only [List.setIfInBounds_toArray, List.set_cons_zero, List.set_cons_succ]
   obtain ⟨z, hz⟩ : ∃ z, z = y.alloc (.cells #[.slice none 0 0] 35) := ⟨_, rfl⟩
   have gg : Below y.heap.size y z := by rw [hz]; exact (Below.refl _ _).alloc (Nat.le_refl _) _
   have P4 : z.cell? ⟨y.heap.size, 0, none⟩ = some (.slice none 0 0) ∧ y.heap.size < z.heap.size := by rw [hz]; simp [go_sem]
   replace GU := Good.up GU gg
   replace P3 := keepQ P3 gg
   rw [← hz]
   clear hz gg hHeld
   generalize y.heap.size = bD at *
   refine lstH (l' := #[true, true, false, false, true, true, false, false, true, true, true, false, true, true, true, false, false, false, false, false, false, false, false, false]) (by kernel_rfl) ?_
   have F := And.intro GU (And.intro P3 P4)
   clear GU P3 P4
   revert F
   revert bD
   revert bC
   revert z
   exact t10_14_.out
   )
   )
   focus (
   intro y bB F
   obtain ⟨GU, P2⟩ := F
   have hHeld := HC.out _ GU
   clear hHeld
   refine wpAnyH_ready (rs := [2, 10, 14]) (by kernel_rfl) (by simp) ?_
   refine AllReadyH.cons rfl (fun K hK => ?_) (AllReadyH.cons rfl (fun K hK => ?_) (AllReadyH.cons rfl (fun K hK => ?_) AllReadyH.nil))
   focus (
   go_simp
   refine hK.out _ _ (HC.out _ (GU.alloc _)) (fun hHeld => ?_)
   clear hK K
   try simp only [List.setIfInBounds_toArray, List.set_cons_zero, List.set_cons_succ]
   obtain ⟨z, hz⟩ : ∃ z, z = y.alloc (.cells #[.slice aO nn cO] 26) := ⟨_, rfl⟩
   have gg : Below y.heap.size y z := by rw [hz]; exact (Below.refl _ _).alloc (Nat.le_refl _) _
   have P1 : z.cell? ⟨y.heap.size, 0, none⟩ = some (.slice aO nn cO) ∧ y.heap.size < z.heap.size := by rw [hz]; simp [go_sem]
   replace GU := Good.up GU gg
   replace P2 := keepQ P2 gg
   rw [← hz]
   clear hz gg hHeld
   generalize y.heap.size = bA at *
   refine lstH (l' := #[true, true, true, false, true, true, true, false, true, true, false, false, true, true, false, false, false, false, false, false, false, false, false, false]) (by kernel_rfl) ?_
   have F := And.intro GU (And.intro P1 P2)
   clear GU P1 P2
   revert F
   revert bB
   revert bA
   revert z
   exact t2_6_.out
   )
   focus (
   go_simp
   refine hK.out _ _ (HC.out _ (GU.alloc _)) (fun hHeld => ?_)
   clear hK K
   try simp only [List.setIfInBounds_toArray, List.set_cons_zero, List.set_cons_succ]
   obtain ⟨z, hz⟩ : ∃ z, z = y.alloc (.cells #[.slice aN sh sh] 26) := ⟨_, rfl⟩
   have gg : Below y.heap.size y z := by rw [hz]; exact (Below.refl _ _).alloc (Nat.le_refl _) _
   have P3 : z.cell? ⟨y.heap.size, 0, none⟩ = some (.slice aN sh sh) ∧ y.heap.size < z.heap.size := by rw [hz]; simp [go_sem]
   replace GU := Good.up GU gg
   replace P2 := keepQ P2 gg
   rw [← hz]
   clear hz gg hHeld
   generalize y.heap.size = bC at *
   refine lstH (l' := #[true, true, false, false, true, true, true, false, true, true, true, false, true, true, false, false, false, false, false, false, false, false, false, false]) (by kernel_rfl) ?_
   have F := And.intro GU (And.intro P2 P3)
   clear GU P2 P3
   revert F
   revert bC
   revert bB
   revert z
   exact t6_10_.out
   )
   focus (
   go_simp
   refine hK.out _ _ (HC.out _ (GU.alloc _)) (fun hHeld => ?_)
   clear hK K
   try simp only [List.setIfInBounds_toArray, List.set_cons_zero, List.set_cons_succ]
   obtain ⟨z, hz⟩ : ∃ z, z = y.alloc (.cells #[.slice none 0 0] 35) := ⟨_, rfl⟩
   have gg : Below y.heap.size y z := by rw [hz]; exact (Below.refl _ _).alloc (Nat.le_refl _) _
   have P4 : z.cell? ⟨y.heap.size, 0, none⟩ = some (.slice none 0 0) ∧ y.heap.size < z.heap.size := by rw [hz]; simp [go_sem]
   replace GU := Good.up GU gg
   replace P2 := keepQ P2 gg
   rw [← hz]
   clear hz gg hHeld
   generalize y.heap.size = bD at *
   refine lstH (l' := #[true, true, false, false, true, true, true, false, true, true, false, false, true, true, true, false, false, false, false, false, false, false, false, false]) (by kernel_rfl) ?_
   have F := And.intro GU (And.intro P2 P4)
   clear GU P2 P4
   revert F
   revert bD
   revert bB
   revert z
   exact t6_14_.out
   )
   )
   focus (
   intro y bA F
   obtain ⟨GU, P1⟩ := F
   have hHeld := HC.out _ GU
   clear hHeld
   refine wpAnyH_ready (rs := [3, 6, 10, 14]) (by kernel_rfl) (by simp) ?_
   refine AllReadyH.cons rfl (fun K hK => ?_) (AllReadyH.cons rfl (fun K hK => ?_) (AllReadyH.cons rfl (fun K hK => ?_) (AllReadyH.cons rfl (fun K hK => ?_) AllReadyH.nil)))
   focus (
   rw [if_pos]
   rotate_left
   · kernel_rfl
   have HCall := hideIt (HCo.out _ bA GU P1)
   go_wp2_with (go_at_call 64; refine HCall.out.mono ?_; rintro e z ⟨p1, m1, c1, rfl, gg⟩; refine Hid.out ?_)
   refine hidp ?_
   refine hK.out _ _ (HC.out _ (Good.up GU gg)) (fun hHeld => ?_)
   clear hK K HCall
   try simp only [List.setIfInBounds_toArray, List.set_cons_zero, List.set_cons_succ]
   replace GU := Good.up GU gg
   clear gg P1
   clear hHeld
   refine lstH (l' := #[true, true, true, true, true, true, false, false, true, true, false, false, true, true, false, false, false, false, false, false, false, false, false, false]) (by kernel_rfl) ?_
   have F := GU
   clear GU
   revert F
   revert c1
   revert m1
   revert p1
   revert bA
   revert z
   exact t2_3_.out
   )
   focus (
   go_simp
   refine hK.out _ _ (HC.out _ (GU.alloc _)) (fun hHeld => ?_)
   clear hK K
   try simp only [List.setIfInBounds_toArray, List.set_cons_zero, List.set_cons_succ]
   obtain ⟨z, hz⟩ : ∃ z, z = y.alloc (.cells #[.slice none 0 0] 27) := ⟨_, rfl⟩
   have gg : Below y.heap.size y z := by rw [hz]; exact (Below.refl _ _).alloc (Nat.le_refl _) _
   have P2 : z.cell? ⟨y.heap.size, 0, none⟩ = some (.slice none 0 0) ∧ y.heap.size < z.heap.size := by rw [hz]; simp [go_sem]
   replace GU := Good.up GU gg
   replace P1 := keepQ P1 gg
   rw [← hz]
   clear hz gg hHeld
   generalize y.heap.size = bB at *
   refine lstH (l' := #[true, true, true, false, true, true, true, false, true, true, false, false, true, true, false, false, false, false, false, false, false, false, false, false]) (by kernel_rfl) ?_
   have F := And.intro GU (And.intro P1 P2)
   clear GU P1 P2
   revert F
   revert bB
   revert bA
   revert z
   exact t2_6_.out
   )
   focus (
   go_simp
   refine hK.out _ _ (HC.out _ (GU.alloc _)) (fun hHeld => ?_)
   clear hK K
   try simp only [List.setIfInBounds_toArray, List.set_cons_zero, List.set_cons_succ]
   obtain ⟨z, hz⟩ : ∃ z, z = y.alloc (.cells #[.slice aN sh sh] 26) := ⟨_, rfl⟩
   have gg : Below y.heap.size y z := by rw [hz]; exact (Below.refl _ _).alloc (Nat.le_refl _) _
   have P3 : z.cell? ⟨y.heap.size, 0, none⟩ = some (.slice aN sh sh) ∧ y.heap.size < z.heap.size := by rw [hz]; simp [go_sem]
   replace GU := Good.up GU gg
   replace P1 := keepQ P1 gg
   rw [← hz]
   clear hz gg hHeld
   generalize y.heap.size = bC at *
   refine lstH (l' := #[true, true, true, false, true, true, false, false, true, true, true, false, true, true, false, false, false, false, false, false, false, false, false, false]) (by kernel_rfl) ?_
   have F := And.intro GU (And.intro P1 P3)
   clear GU P1 P3
   revert F
   revert bC
   revert bA
   revert z
   exact t2_10_.out
   )
   focus (
   go_simp
   refine hK.out _ _ (HC.out _ (GU.alloc _)) (fun hHeld => ?_)
   clear hK K
   try simp only [List.setIfInBounds_toArray, List.set_cons_zero, List.set_cons_succ]
   obtain ⟨z, hz⟩ : ∃ z, z = y.alloc (.cells #[.slice none 0 0] 35) := ⟨_, rfl⟩
   have gg : Below y.heap.size y z := by rw [hz]; exact (Below.refl _ _).alloc (Nat.le_refl _) _
   have P4 : z.cell? ⟨y.heap.size, 0, none⟩ = some (.slice none 0 0) ∧ y.heap.size < z.heap.size := by rw [hz]; simp [go_sem]
   replace GU := Good.up GU gg
   replace P1 := keepQ P1 gg
   rw [← hz]
   clear hz gg hHeld
   generalize y.heap.size = bD at *
   refine lstH (l' := #[true, true, true, false, true, true, false, false, true, true, false, false, true, true, true, false, false, false, false, false, false, false, false, false]) (by kernel_rfl) ?_
   have F := And.intro GU (And.intro P1 P4)
   clear GU P1 P4
   revert F
   revert bD
   revert bA
   revert z
   exact t2_14_.out
   )
   )
   focus (
   intro y bC bD F
   obtain ⟨GU, P3, P4⟩ := F
   have hHeld := HC.out _ GU
   clear hHeld
   refine wpAnyH_ready (rs := [2, 6]) (by kernel_rfl) (by simp) ?_
   refine AllReadyH.cons rfl (fun K hK => ?_) (AllReadyH.cons rfl (fun K hK => ?_) AllReadyH.nil)
   focus (
   go_simp
   refine hK.out _ _ (HC.out _ (GU.alloc _)) (fun hHeld => ?_)
   clear hK K
   try simp only [List.setIfInBounds_toArray, List.set_cons_zero, List.set_cons_succ]
   obtain ⟨z, hz⟩ : ∃ z, z = y.alloc (.cells #[.slice aO nn cO] 26) := ⟨_, rfl⟩
   have gg : Below y.heap.size y z := by rw [hz]; exact (Below.refl _ _).alloc (Nat.le_refl _) _
   have P1 : z.cell? ⟨y.heap.size, 0, none⟩ = some (.slice aO nn cO) ∧ y.heap.size < z.heap.size := by rw [hz]; simp [go_sem]
   replace GU := Good.up GU gg
   replace P3 := keepQ P3 gg
   replace P4 := keepQ P4 gg
   rw [← hz]
   clear hz gg hHeld
   generalize y.heap.size = bA at *
   refine lstH (l' := #[true, true, true, false, true, true, false, false, true, true, true, false, true, true, true, false, false, false, false, false, false, false, false, false]) (by kernel_rfl) ?_
   have F := And.intro GU (And.intro P1 (And.intro P3 P4))
   clear GU P1 P3 P4
   revert F
   revert bD
   revert bC
   revert bA
   revert z
   exact t2_10_14_.out
   )
   focus (
   go_simp
   refine hK.out _ _ (HC.out _ (GU.alloc _)) (fun hHeld => ?_)
   clear hK K
   try simp only [List.setIfInBounds_toArray, List.set_cons_zero, List.set_cons_succ]
   obtain ⟨z, hz⟩ : ∃ z, z = y.alloc (.cells #[.slice none 0 0] 27) := ⟨_, rfl⟩
   have gg : Below y.heap.size y z := by rw [hz]; exact (Below.refl _ _).alloc (Nat.le_refl _) _
   have P2 : z.cell? ⟨y.heap.size, 0, none⟩ = some (.slice none 0 0) ∧ y.heap.size < z.heap.size := by rw [hz]; simp [go_sem]
   replace GU := Good.up GU gg
   replace P3 := keepQ P3 gg
   replace P4 := keepQ P4 gg
   rw [← hz]
   clear hz gg hHeld
   generalize y.heap.size = bB at *
   refine lstH (l' := #[true, true, false, false, true, true, true, false, true, true, true, false, true, true, true, false, false, false, false, false, false, false, false, false]) (by kernel_rfl) ?_
   have F := And.intro GU (And.intro P2 (And.intro P3 P4))
   clear GU P2 P3 P4
   revert F
   revert bD
   revert bC
   revert bB
   revert z
   exact t6_10_14_.out
   )
   )
   focus (
   intro y bB bD F
   obtain ⟨GU, P2, P4⟩ := F
   have hHeld := HC.out _ GU
   clear hHeld
   refine wpAnyH_ready (rs := [2, 10]) (by kernel_rfl) (by simp) ?_
   refine AllReadyH.cons rfl (fun K hK => ?_) (AllReadyH.cons rfl (fun K hK => ?_) AllReadyH.nil)
   focus (
   go_simp
   refine hK.out _ _ (HC.out _ (GU.alloc _)) (fun hHeld => ?_)
   clear hK K
   try simp only [List.setIfInBounds_toArray, List.set_cons_zero, List.set_cons_succ]
   obtain ⟨z, hz⟩ : ∃ z, z = y.alloc (.cells #[.slice aO nn cO] 26) := ⟨_, rfl⟩
   have gg : Below y.heap.size y z := by rw [hz]; exact (Below.refl _ _).alloc (Nat.le_refl _) _
   have P1 : z.cell? ⟨y.heap.size, 0, none⟩ = some (.slice aO nn cO) ∧ y.heap.size < z.heap.size := by rw [hz]; simp [go_sem]
   replace GU := Good.up GU gg
   replace P2 := keepQ P2 gg
   replace P4 := keepQ P4 gg
   rw [← hz]
   clear hz gg hHeld
   generalize y.heap.size = bA at *
   refine lstH (l' := #[true, true, true, false, true, true, true, false, true, true, false, false, true, true, true, false, false, false, false, false, false, false, false, false]) (by kernel_rfl) ?_
   have F := And.intro GU (And.intro P1 (And.intro P2 P4))
   clear GU P1 P2 P4
   revert F
   revert bD
   revert bB
   revert bA
   revert z
   exact t2_6_14_.out
   )
   focus (
   go_simp
   refine hK.out _ _ (HC.out _ (GU.alloc _)) (fun hHeld => ?_)
   clear hK K
   try simp only [List.setIfInBounds_toArray, List.set_cons_zero, List.set_cons_succ]
   obtain ⟨z, hz⟩ : ∃ z, z = y.alloc (.cells #[.slice aN sh sh] 26) := ⟨_, rfl⟩
   have gg : Below y.heap.size y z := by rw [hz]; exact (Below.refl _ _).alloc (Nat.le_refl _) _
   have P3 : z.cell? ⟨y.heap.size, 0, none⟩ = some (.slice aN sh sh) ∧ y.heap.size < z.heap.size := by rw [hz]; simp [go_sem]
   replace GU := Good.up GU gg
   replace P2 := keepQ P2 gg
   replace P4 := keepQ P4 gg
   rw [← hz]
   clear hz gg hHeld
   generalize y.heap.size = bC at *
   refine lstH (l' := #[true, true, false, false, true, true, true, false, true, true, true, false, true, true, true, false, false, false, false, false, false, false, false, false]) (by kernel_rfl) ?_
   have F := And.intro GU (And.intro P2 (And.intro P3 P4))
   clear GU P2 P3 P4
   revert F
   revert bD
   revert bC
   revert bB
   revert z
   exact t6_10_14_.out
   )
   )
   focus (
   intro y bB bC F
   obtain ⟨GU, P2, P3⟩ := F
   have hHeld := HC.out _ GU
   clear hHeld
   refine wpAnyH_ready (rs := [2, 14]) (by kernel_rfl) (by simp) ?_
   refine AllReadyH.cons rfl (fun K hK => ?_) (AllReadyH.cons rfl (fun K hK => ?_) AllReadyH.nil)
   focus (
   go_simp
   refine hK.out _ _ (HC.out _ (GU.alloc _)) (fun hHeld => ?_)
   clear hK K
   try simp only [List.setIfInBounds_toArray, List.set_cons_zero, List.set_cons_succ]
   obtain ⟨z, hz⟩ : ∃ z, z = y.alloc (.cells #[.slice aO nn cO] 26) := ⟨_, rfl⟩
   have gg : Below y.heap.size y z := by rw [hz]; exact (Below.refl _ _).alloc (Nat.le_refl _) _
   have P1 : z.cell? ⟨y.heap.size, 0, none⟩ = some (.slice aO nn cO) ∧ y.heap.size < z.heap.size := by rw [hz]; simp [go_sem]
   replace GU := Good.up GU gg
   replace P2 := keepQ P2 gg
   replace P3 := keepQ P3 gg
   rw [← hz]
   clear hz gg hHeld
   generalize y.heap.size = bA at *
   refine lstH (l' := #[true, true, true, false, true, true, true, false, true, true, true, false, true, true, false, false, false, false, false, false, false, false, false, false]) (by kernel_rfl) ?_
   have F := And.intro GU (And.intro P1 (And.intro P2 P3))
   clear GU P1 P2 P3
   revert F
   revert bC
   revert bB
   revert bA
   revert z
   exact t2_6_10_.out
   )
   focus (
   go_simp
   refine hK.out _ _ (HC.out _ (GU.alloc _)) (fun hHeld => ?_)
   clear hK K
   try simp only [List.setIfInBounds_toArray, List.set_cons_zero, List.set_cons_succ]
   obtain ⟨z, hz⟩ : ∃ z, z = y.alloc (.cells #[.slice none 0 0] 35) := ⟨_, rfl⟩
   have gg : Below y.heap.size y z := by rw [hz]; exact (Below.refl _ _).alloc (Nat.le_refl _) _
   have P4 : z.cell? ⟨y.heap.size, 0, none⟩ = some (.slice none 0 0) ∧ y.heap.size < z.heap.size := by rw [hz]; simp [go_sem]
   replace GU := Good.up GU gg
   replace P2 := keepQ P2 gg
   replace P3 := keepQ P3 gg
   rw [← hz]
   clear hz gg hHeld
   generalize y.heap.size = bD at *
   refine lstH (l' := #[true, true, false, false, true, true, true, false, true, true, true, false, true, true, true, false, false, false, false, false, false, false, false, false]) (by kernel_rfl) ?_
   have F := And.intro GU (And.intro P2 (And.intro P3 P4))
   clear GU P2 P3 P4
   revert F
   revert bD
   revert bC
   revert bB
   revert z
   exact t6_10_14_.out
   )
   )
   focus (
   intro y bA bD F
   obtain ⟨GU, P1, P4⟩ := F
   have hHeld := HC.out _ GU
   clear hHeld
   refine wpAnyH_ready (rs := [3, 6, 10]) (by kernel_rfl) (by simp) ?_
   refine AllReadyH.cons rfl (fun K hK => ?_) (AllReadyH.cons rfl (fun K hK => ?_) (AllReadyH.cons rfl (fun K hK => ?_) AllReadyH.nil))
   focus (
   rw [if_pos]
   rotate_left
   · kernel_rfl
   have HCall := hideIt (HCo.out _ bA GU P1)
   go_wp2_with (go_at_call 64; refine HCall.out.mono ?_; rintro e z ⟨p1, m1, c1, rfl, gg⟩; refine Hid.out ?_)
   refine hidp ?_
   refine hK.out _ _ (HC.out _ (Good.up GU gg)) (fun hHeld => ?_)
   clear hK K HCall
   try simp only [List.setIfInBounds_toArray, List.set_cons_zero, List.set_cons_succ]
   replace GU := Good.up GU gg
   replace P4 := keepQ P4 gg
   clear gg P1
   clear hHeld
   refine lstH (l' := #[true, true, true, true, true, true, false, false, true, true, false, false, true, true, true, false, false, false, false, false, false, false, false, false]) (by kernel_rfl) ?_
   have F := And.intro GU P4
   clear GU P4
   revert F
   revert bD
   revert c1
   revert m1
   revert p1
   revert bA
   revert z
   exact t2_3_14_.out
   )
   focus (
   go_simp
   refine hK.out _ _ (HC.out _ (GU.alloc _)) (fun hHeld => ?_)
   clear hK K
   try simp only [List.setIfInBounds_toArray, List.set_cons_zero, List.set_cons_succ]
   obtain ⟨z, hz⟩ : ∃ z, z = y.alloc (.cells #[.slice none 0 0] 27) := ⟨_, rfl⟩
   have gg : Below y.heap.size y z := by rw [hz]; exact (Below.refl _ _).alloc (Nat.le_refl _) _
   have P2 : z.cell? ⟨y.heap.size, 0, none⟩ = some (.slice none 0 0) ∧ y.heap.size < z.heap.size := by rw [hz]; simp [go_sem]
   replace GU := Good.up GU gg
   replace P1 := keepQ P1 gg
   replace P4 := keepQ P4 gg
   rw [← hz]
   clear hz gg hHeld
   generalize y.heap.size = bB at *
   refine lstH (l' := #[true, true, true, false, true, true, true, false, true, true, false, false, true, true, true, false, false, false, false, false, false, false, false, false]) (by kernel_rfl) ?_
   have F := And.intro GU (And.intro P1 (And.intro P2 P4))
   clear GU P1 P2 P4
   revert F
   revert bD
   revert bB
   revert bA
   revert z
   exact t2_6_14_.out
   )
   focus (
   go_simp
   refine hK.out _ _ (HC.out _ (GU.alloc _)) (fun hHeld => ?_)
   clear hK K
   try simp only [List.setIfInBounds_toArray, List.set_cons_zero, List.set_cons_succ]
   obtain ⟨z, hz⟩ : ∃ z, z = y.alloc (.cells #[.slice aN sh sh] 26) := ⟨_, rfl⟩
   have gg : Below y.heap.size y z := by rw [hz]; exact (Below.refl _ _).alloc (Nat.le_refl _) _
   have P3 : z.cell? ⟨y.heap.size, 0, none⟩ = some (.slice aN sh sh) ∧ y.heap.size < z.heap.size := by rw [hz]; simp [go_sem]
   replace GU := Good.up GU gg
   replace P1 := keepQ P1 gg
   replace P4 := keepQ P4 gg
   rw [← hz]
   clear hz gg hHeld
   generalize y.heap.size = bC at *
   refine lstH (l' := #[true, true, true, false, true, true, false, false, true, true, true, false, true, true, true, false, false, false, false, false, false, false, false, false]) (by kernel_rfl) ?_
   have F := And.intro GU (And.intro P1 (And.intro P3 P4))
   clear GU P1 P3 P4
   revert F
   revert bD
   revert bC
   revert bA
   revert z
   exact t2_10_14_.out
   )
   )
   focus (
   intro y bA bC F
   obtain ⟨GU, P1, P3⟩ := F
   have hHeld := HC.out _ GU
   clear hHeld
   refine wpAnyH_ready (rs := [3, 6, 14]) (by kernel_rfl) (by simp) ?_
   refine AllReadyH.cons rfl (fun K hK => ?_) (AllReadyH.cons rfl (fun K hK => ?_) (AllReadyH.cons rfl (fun K hK => ?_) AllReadyH.nil))
   focus (
   rw [if_pos]
   rotate_left
   · kernel_rfl
   have HCall := hideIt (HCo.out _ bA GU P1)
   go_wp2_with (go_at_call 64; refine HCall.out.mono ?_; rintro e z ⟨p1, m1, c1, rfl, gg⟩; refine Hid.out ?_)
   refine hidp ?_
   refine hK.out _ _ (HC.out _ (Good.up GU gg)) (fun hHeld => ?_)
   clear hK K HCall
   try simp only [List.setIfInBounds_toArray, List.set_cons_zero, List.set_cons_succ]
   replace GU := Good.up GU gg
   replace P3 := keepQ P3 gg
   clear gg P1
   clear hHeld
   refine lstH (l' := #[true, true, true, true, true, true, false, false, true, true, true, false, true, true, false, false, false, false, false, false, false, false, false, false]) (by kernel_rfl) ?_
   have F := And.intro GU P3
   clear GU P3
   revert F
   revert bC
   revert c1
   revert m1
   revert p1
   revert bA
   revert z
   exact t2_3_10_.out
   )
   focus (
   go_simp
   refine hK.out _ _ (HC.out _ (GU.alloc _)) (fun hHeld => ?_)
   clear hK K
   try simp only [List.setIfInBounds_toArray, List.set_cons_zero, List.set_cons_succ]
   obtain ⟨z, hz⟩ : ∃ z, z = y.alloc (.cells #[.slice none 0 0] 27) := ⟨_, rfl⟩
   have gg : Below y.heap.size y z := by rw [hz]; exact (Below.refl _ _).alloc (Nat.le_refl _) _
   have P2 : z.cell? ⟨y.heap.size, 0, none⟩ = some (.slice none 0 0) ∧ y.heap.size < z.heap.size := by rw [hz]; simp [go_sem]
   replace GU := Good.up GU gg
   replace P1 := keepQ P1 gg
   replace P3 := keepQ P3 gg
   rw [← hz]
   clear hz gg hHeld
   generalize y.heap.size = bB at *
   refine lstH (l' := #[true, true, true, false, true, true, true, false, true, true, true, false, true, true, false, false, false, false, false, false, false, false, false, false]) (by kernel_rfl) ?_
   have F := And.intro GU (And.intro P1 (And.intro P2 P3))
   clear GU P1 P2 P3
   revert F
   revert bC
   revert bB
   revert bA
   revert z
   exact t2_6_10_.out
   )
   focus (
   go_simp
   refine hK.out _ _ (HC.out _ (GU.alloc _)) (fun hHeld => ?_)
   clear hK K
   try simp only [List.setIfInBounds_toArray, List.set_cons_zero, List.set_cons_succ]
   obtain ⟨z, hz⟩ : ∃ z, z = y.alloc (.cells #[.slice none 0 0] 35) := ⟨_, rfl⟩
   have gg : Below y.heap.size y z := by rw [hz]; exact (Below.refl _ _).alloc (Nat.le_refl _) _
   have P4 : z.cell? ⟨y.heap.size, 0, none⟩ = some (.slice none 0 0) ∧ y.heap.size < z.heap.size := by rw [hz]; simp [go_sem]
   replace GU := Good.up GU gg
   replace P1 := keepQ P1 gg
   replace P3 := keepQ P3 gg
   rw [← hz]
   clear hz gg hHeld
   generalize y.heap.size = bD at *
   refine lstH (l' := #[true, true, true, false, true, true, false, false, true, true, true, false, true, true, true, false, false, false, false, false, false, false, false, false]) (by kernel_rfl) ?_
   have F := And.intro GU (And.intro P1 (And.intro P3 P4))
   clear GU P1 P3 P4
   revert F
   revert bD
   revert bC
   revert bA
   revert z
   exact t2_10_14_.out
   )
   )
   focus (
   intro y bA bB F
   obtain ⟨GU, P1, P2⟩ := F
   have hHeld := HC.out _ GU
   clear hHeld
   refine wpAnyH_ready (rs := [3, 10, 14]) (by kernel_rfl) (by simp) ?_
   refine AllReadyH.cons rfl (fun K hK => ?_) (AllReadyH.cons rfl (fun K hK => ?_) (AllReadyH.cons rfl (fun K hK => ?_) AllReadyH.nil))
   focus (
   rw [if_pos]
   rotate_left
   · kernel_rfl
   have HCall := hideIt (HCo.out _ bA GU P1)
   go_wp2_with (go_at_call 64; refine HCall.out.mono ?_; rintro e z ⟨p1, m1, c1, rfl, gg⟩; refine Hid.out ?_)
   refine hidp ?_
   refine hK.out _ _ (HC.out _ (Good.up GU gg)) (fun hHeld => ?_)
   clear hK K HCall
   try simp only [List.setIfInBounds_toArray, List.set_cons_zero, List.set_cons_succ]
   replace GU := Good.up GU gg
   replace P2 := keepQ P2 gg
   clear gg P1
   clear hHeld
   refine lstH (l' := #[true, true, true, true, true, true, true, false, true, true, false, false, true, true, false, false, false, false, false, false, false, false, false, false]) (by kernel_rfl) ?_
   have F := And.intro GU P2
   clear GU P2
   revert F
   revert bB
   revert c1
   revert m1
   revert p1
   revert bA
   revert z
   exact t2_3_6_.out
   )
   focus (
   go_simp
   refine hK.out _ _ (HC.out _ (GU.alloc _)) (fun hHeld => ?_)
   clear hK K
   try simp only [List.setIfInBounds_toArray, List.set_cons_zero, List.set_cons_succ]
   obtain ⟨z, hz⟩ : ∃ z, z = y.alloc (.cells #[.slice aN sh sh] 26) := ⟨_, rfl⟩
   have gg : Below y.heap.size y z := by rw [hz]; exact (Below.refl _ _).alloc (Nat.le_refl _) _
   have P3 : z.cell? ⟨y.heap.size, 0, none⟩ = some (.slice aN sh sh) ∧ y.heap.size < z.heap.size := by rw [hz]; simp [go_sem]
   replace GU := Good.up GU gg
   replace P1 := keepQ P1 gg
   replace P2 := keepQ P2 gg
   rw [← hz]
   clear hz gg hHeld
   generalize y.heap.size = bC at *
   refine lstH (l' := #[true, true, true, false, true, true, true, false, true, true, true, false, true, true, false, false, false, false, false, false, false, false, false, false]) (by kernel_rfl) ?_
   have F := And.intro GU (And.intro P1 (And.intro P2 P3))
   clear GU P1 P2 P3
   revert F
   revert bC
   revert bB
   revert bA
   revert z
   exact t2_6_10_.out
   )
   focus (
   go_simp
   refine hK.out _ _ (HC.out _ (GU.alloc _)) (fun hHeld => ?_)
   clear hK K
   try simp only [List.setIfInBounds_toArray, List.set_cons_zero, List.set_cons_succ]
   obtain ⟨z, hz⟩ : ∃ z, z = y.alloc (.cells #[.slice none 0 0] 35) := ⟨_, rfl⟩
   have gg : Below y.heap.size y z := by rw [hz]; exact (Below.refl _ _).alloc (Nat.le_refl _) _
   have P4 : z.cell? ⟨y.heap.size, 0, none⟩ = some (.slice none 0 0) ∧ y.heap.size < z.heap.size := by rw [hz]; simp [go_sem]
   replace GU := Good.up GU gg
   replace P1 := keepQ P1 gg
   replace P2 := keepQ P2 gg
   rw [← hz]
   clear hz gg hHeld
   generalize y.heap.size = bD at *
   refine lstH (l' := #[true, true, true, false, true, true, true, false, true, true, false, false, true, true, true, false, false, false, false, false, false, false, false, false]) (by kernel_rfl) ?_
   have F := And.intro GU (And.intro P1 (And.intro P2 P4))
   clear GU P1 P2 P4
   revert F
   revert bD
   revert bB
   revert bA
   revert z
   exact t2_6_14_.out
   )
   )
   focus (
   intro y bA p1 m1 c1 F
   have GU := F
   clear F
   have hHeld := HC.out _ GU
   clear hHeld
   refine wpAnyH_ready (rs := [6, 10, 14, 16]) (by kernel_rfl) (by simp) ?_
   refine AllReadyH.cons rfl (fun K hK => ?_) (AllReadyH.cons rfl (fun K hK => ?_) (AllReadyH.cons rfl (fun K hK => ?_) (AllReadyH.cons rfl (fun K hK => ?_) AllReadyH.nil)))
   focus (
   go_simp
   refine hK.out _ _ (HC.out _ (GU.alloc _)) (fun hHeld => ?_)
   clear hK K
   try simp only [List.setIfInBounds_toArray, List.set_cons_zero, List.set_cons_succ]
   obtain ⟨z, hz⟩ : ∃ z, z = y.alloc (.cells #[.slice none 0 0] 27) := ⟨_, rfl⟩
   have gg : Below y.heap.size y z := by rw [hz]; exact (Below.refl _ _).alloc (Nat.le_refl _) _
   have P2 : z.cell? ⟨y.heap.size, 0, none⟩ = some (.slice none 0 0) ∧ y.heap.size < z.heap.size := by rw [hz]; simp [go_sem]
   replace GU := Good.up GU gg
   rw [← hz]
   clear hz gg hHeld
   generalize y.heap.size = bB at *
   refine lstH (l' := #[true, true, true, true, true, true, true, false, true, true, false, false, true, true, false, false, false, false, false, false, false, false, false, false]) (by kernel_rfl) ?_
   have F := And.intro GU P2
   clear GU P2
   revert F
   revert bB
   revert c1
   revert m1
   revert p1
   revert bA
   revert z
   exact t2_3_6_.out
   )
   focus (
   go_simp
   refine hK.out _ _ (HC.out _ (GU.alloc _)) (fun hHeld => ?_)
   clear hK K
   try simp only [List.setIfInBounds_toArray, List.set_cons_zero, List.set_cons_succ]
   obtain ⟨z, hz⟩ : ∃ z, z = y.alloc (.cells #[.slice aN sh sh] 26) := ⟨_, rfl⟩
   have gg : Below y.heap.size y z := by rw [hz]; exact (Below.refl _ _).alloc (Nat.le_refl _) _
   have P3 : z.cell? ⟨y.heap.size, 0, none⟩ = some (.slice aN sh sh) ∧ y.heap.size < z.heap.size := by rw [hz]; simp [go_sem]
   replace GU := Good.up GU gg
   rw [← hz]
   clear hz gg hHeld
   generalize y.heap.size = bC at *
   refine lstH (l' := #[true, true, true, true, true, true, false, false, true, true, true, false, true, true, false, false, false, false, false, false, false, false, false, false]) (by kernel_rfl) ?_
   have F := And.intro GU P3
   clear GU P3
   revert F
   revert bC
   revert c1
   revert m1
   revert p1
   revert bA
   revert z
   exact t2_3_10_.out
   )
   focus (
   go_simp
   refine hK.out _ _ (HC.out _ (GU.alloc _)) (fun hHeld => ?_)
   clear hK K
   try simp only [List.setIfInBounds_toArray, List.set_cons_zero, List.set_cons_succ]
   obtain ⟨z, hz⟩ : ∃ z, z = y.alloc (.cells #[.slice none 0 0] 35) := ⟨_, rfl⟩
   have gg : Below y.heap.size y z := by rw [hz]; exact (Below.refl _ _).alloc (Nat.le_refl _) _
   have P4 : z.cell? ⟨y.heap.size, 0, none⟩ = some (.slice none 0 0) ∧ y.heap.size < z.heap.size := by rw [hz]; simp [go_sem]
   replace GU := Good.up GU gg
   rw [← hz]
   clear hz gg hHeld
   generalize y.heap.size = bD at *
   refine lstH (l' := #[true, true, true, true, true, true, false, false, true, true, false, false, true, true, true, false, false, false, false, false, false, false, false, false]) (by kernel_rfl) ?_
   have F := And.intro GU P4
   clear GU P4
   revert F
   revert bD
   revert c1
   revert m1
   revert p1
   revert bA
   revert z
   exact t2_3_14_.out
   )
   focus (
   go_simp
   refine hK.out _ _ (HC.out _ GU) (fun hHeld => ?_)
   clear hK K
   try simp only [List.setIfInBounds_toArray, List.set_cons_zero, List.set_cons_succ]
   clear hHeld
   refine lstH (l' := #[true, true, true, true, true, true, false, false, true, true, false, false, true, true, false, false, true, false, false, false, false, false, false, false]) (by kernel_rfl) ?_
   have F := GU
   clear GU
   revert F
   revert c1
   revert m1
   revert p1
   revert bA
   revert y
   exact t2_3_16_.out
   )
   )
   focus (
   intro y bB bC bD F
   obtain ⟨GU, P2, P3, P4⟩ := F
   have hHeld := HC.out _ GU
   clear hHeld
   refine wpAnyH_ready (rs := [2]) (by kernel_rfl) (by simp) ?_
   refine AllReadyH.cons rfl (fun K hK => ?_) AllReadyH.nil
   focus (
   go_simp
   refine hK.out _ _ (HC.out _ (GU.alloc _)) (fun hHeld => ?_)
   clear hK K
   try simp only [List.setIfInBounds_toArray, List.set_cons_zero, List.set_cons_succ]
   obtain ⟨z, hz⟩ : ∃ z, z = y.alloc (.cells #[.slice aO nn cO] 26) := ⟨_, rfl⟩
   have gg : Below y.heap.size y z := by rw [hz]; exact (Below.refl _ _).alloc (Nat.le_refl _) _
   have P1 : z.cell? ⟨y.heap.size, 0, none⟩ = some (.slice aO nn cO) ∧ y.heap.size < z.heap.size := by rw [hz]; simp [go_sem]
   replace GU := Good.up GU gg
   replace P2 := keepQ P2 gg
   replace P3 := keepQ P3 gg
   replace P4 := keepQ P4 gg
   rw [← hz]
   clear hz gg hHeld
   generalize y.heap.size = bA at *
   refine lstH (l' := #[true, true, true, false, true, true, true, false, true, true, true, false, true, true, true, false, false, false, false, false, false, false, false, false]) (by kernel_rfl) ?_
   have F := And.intro GU (And.intro P1 (And.intro P2 (And.intro P3 P4)))
   clear GU P1 P2 P3 P4
   revert F
   revert bD
   revert bC
   revert bB
   revert bA
   revert z
   exact t2_6_10_14_.out
   )
   )
   focus (
   intro y bA bC bD F
   obtain ⟨GU, P1, P3, P4⟩ := F
   have hHeld := HC.out _ GU
   clear hHeld
   refine wpAnyH_ready (rs := [3, 6]) (by kernel_rfl) (by simp) ?_
   refine AllReadyH.cons rfl (fun K hK => ?_) (AllReadyH.cons rfl (fun K hK => ?_) AllReadyH.nil)
   focus (
   rw [if_pos]
   rotate_left
   · kernel_rfl
   have HCall := hideIt (HCo.out _ bA GU P1)
   go_wp2_with (go_at_call 64; refine HCall.out.mono ?_; rintro e z ⟨p1, m1, c1, rfl, gg⟩; refine Hid.out ?_)
   refine hidp ?_
   refine hK.out _ _ (HC.out _ (Good.up GU gg)) (fun hHeld => ?_)
   clear hK K HCall
   try simp only [List.setIfInBounds_toArray, List.set_cons_zero, List.set_cons_succ]
   replace GU := Good.up GU gg
   replace P3 := keepQ P3 gg
   replace P4 := keepQ P4 gg
   clear gg P1
   clear hHeld
   refine lstH (l' := #[true, true, true, true, true, true, false, false, true, true, true, false, true, true, true, false, false, false, false, false, false, false, false, false]) (by kernel_rfl) ?_
   have F := And.intro GU (And.intro P3 P4)
   clear GU P3 P4
   revert F
   revert bD
   revert bC
   revert c1
   revert m1
   revert p1
   revert bA
   revert z
   exact t2_3_10_14_.out
   )
   focus (
   go_simp
   refine hK.out _ _ (HC.out _ (GU.alloc _)) (fun hHeld => ?_)
   clear hK K
   try simp only [List.setIfInBounds_toArray, List.set_cons_zero, List.set_cons_succ]
   obtain ⟨z, hz⟩ : ∃ z, z = y.alloc (.cells #[.slice none 0 0] 27) := ⟨_, rfl⟩
   have gg : Below y.heap.size y z := by rw [hz]; exact (Below.refl _ _).alloc (Nat.le_refl _) _
   have P2 : z.cell? ⟨y.heap.size, 0, none⟩ = some (.slice none 0 0) ∧ y.heap.size < z.heap.size := by rw [hz]; simp [go_sem]
   replace GU := Good.up GU gg
   replace P1 := keepQ P1 gg
   replace P3 := keepQ P3 gg
   replace P4 := keepQ P4 gg
   rw [← hz]
   clear hz gg hHeld
   generalize y.heap.size = bB at *
   refine lstH (l' := #[true, true, true, false, true, true, true, false, true, true, true, false, true, true, true, false, false, false, false, false, false, false, false, false]) (by kernel_rfl) ?_
   have F := And.intro GU (And.intro P1 (And.intro P2 (And.intro P3 P4)))
   clear GU P1 P2 P3 P4
   revert F
   revert bD
   revert bC
   revert bB
   revert bA
   revert z
   exact t2_6_10_14_.out
   )
   )
   focus (
   intro y bA bB bD F
   obtain ⟨GU, P1, P2, P4⟩ := F
   have hHeld := HC.out _ GU
   clear hHeld
   refine wpAnyH_ready (rs := [3, 10]) (by kernel_rfl) (by simp) ?_
   refine AllReadyH.cons rfl (fun K hK => ?_) (AllReadyH.cons rfl (fun K hK => ?_) AllReadyH.nil)
   focus (
   rw [if_pos]
   rotate_left
   · kernel_rfl
   have HCall := hideIt (HCo.out _ bA GU P1)
   go_wp2_with (go_at_call 64; refine HCall.out.mono ?_; rintro e z ⟨p1, m1, c1, rfl, gg⟩; refine Hid.out ?_)
   refine hidp ?_
   refine hK.out _ _ (HC.out _ (Good.up GU gg)) (fun hHeld => ?_)
   clear hK K HCall
   try simp only [List.setIfInBounds_toArray, List.set_cons_zero, List.set_cons_succ]
   replace GU := Good.up GU gg
   replace P2 := keepQ P2 gg
   replace P4 := keepQ P4 gg
   clear gg P1
   clear hHeld
   refine lstH (l' := #[true, true, true, true, true, true, true, false, true, true, false, false, true, true, true, false, false, false, false, false, false, false, false, false]) (by kernel_rfl) ?_
   have F := And.intro GU (And.intro P2 P4)
   clear GU P2 P4
   revert F
   revert bD
   revert bB
   revert c1
   revert m1
   revert p1
   revert bA
   revert z
   exact t2_3_6_14_.out
   )
   focus (
   go_simp
   refine hK.out _ _ (HC.out _ (GU.alloc _)) (fun hHeld => ?_)
   clear hK K
   try simp only [List.setIfInBounds_toArray, List.set_cons_zero, List.set_cons_succ]
   obtain ⟨z, hz⟩ : ∃ z, z = y.alloc (.cells #[.slice aN sh sh] 26) := ⟨_, rfl⟩
   have gg : Below y.heap.size y z := by rw [hz]; exact (Below.refl _ _).alloc (Nat.le_refl _) _
   have P3 : z.cell? ⟨y.heap.size, 0, none⟩ = some (.slice aN sh sh) ∧ y.heap.size < z.heap.size := by rw [hz]; simp [go_sem]
   replace GU := Good.up GU gg
   replace P1 := keepQ P1 gg
   replace P2 := keepQ P2 gg
   replace P4 := keepQ P4 gg
   rw [← hz]
   clear hz gg hHeld
   generalize y.heap.size = bC at *
   refine lstH (l' := #[true, true, true, false, true, true, true, false, true, true, true, false, true, true, true, false, false, false, false, false, false, false, false, false]) (by kernel_rfl) ?_
   have F := And.intro GU (And.intro P1 (And.intro P2 (And.intro P3 P4)))
   clear GU P1 P2 P3 P4
   revert F
   revert bD
   revert bC
   revert bB
   revert bA
   revert z
   exact t2_6_10_14_.out
   )
   )
   focus (
   intro y bA bB bC F
   obtain ⟨GU, P1, P2, P3⟩ := F
   have hHeld := HC.out _ GU
   clear hHeld
   refine wpAnyH_ready (rs := [3, 14]) (by kernel_rfl) (by simp) ?_
   refine AllReadyH.cons rfl (fun K hK => ?_) (AllReadyH.cons rfl (fun K hK => ?_) AllReadyH.nil)
   focus (
   rw [if_pos]
   rotate_left
   · kernel_rfl
   have HCall := hideIt (HCo.out _ bA GU P1)
   go_wp2_with (go_at_call 64; refine HCall.out.mono ?_; rintro e z ⟨p1, m1, c1, rfl, gg⟩; refine Hid.out ?_)
   refine hidp ?_
   refine hK.out _ _ (HC.out _ (Good.up GU gg)) (fun hHeld => ?_)
   clear hK K HCall
   try simp only [List.setIfInBounds_toArray, List.set_cons_zero, List.set_cons_succ]
   replace GU := Good.up GU gg
   replace P2 := keepQ P2 gg
   replace P3 := keepQ P3 gg
   clear gg P1
   clear hHeld
   refine lstH (l' := #[true, true, true, true, true, true, true, false, true, true, true, false, true, true, false, false, false, false, false, false, false, false, false, false]) (by kernel_rfl) ?_
   have F := And.intro GU (And.intro P2 P3)
   clear GU P2 P3
   revert F
   revert bC
   revert bB
   revert c1
   revert m1
   revert p1
   revert bA
   revert z
   exact t2_3_6_10_.out
   )
   focus (
   go_simp
   refine hK.out _ _ (HC.out _ (GU.alloc _)) (fun hHeld => ?_)
   clear hK K
   try simp only [List.setIfInBounds_toArray, List.set_cons_zero, List.set_cons_succ]
   obtain ⟨z, hz⟩ : ∃ z, z = y.alloc (.cells #[.slice none 0 0] 35) := ⟨_, rfl⟩
   have gg : Below y.heap.size y z := by rw [hz]; exact (Below.refl _ _).alloc (Nat.le_refl _) _
   have P4 : z.cell? ⟨y.heap.size, 0, none⟩ = some (.slice none 0 0) ∧ y.heap.size < z.heap.size := by rw [hz]; simp [go_sem]
   replace GU := Good.up GU gg
   replace P1 := keepQ P1 gg
   replace P2 := keepQ P2 gg
   replace P3 := keepQ P3 gg
   rw [← hz]
   clear hz gg hHeld
   generalize y.heap.size = bD at *
   refine lstH (l' := #[true, true, true, false, true, true, true, false, true, true, true, false, true, true, true, false, false, false, false, false, false, false, false, false]) (by kernel_rfl) ?_
   have F := And.intro GU (And.intro P1 (And.intro P2 (And.intro P3 P4)))
   clear GU P1 P2 P3 P4
   revert F
   revert bD
   revert bC
   revert bB
   revert bA
   revert z
   exact t2_6_10_14_.out
   )
   )
   focus (
   intro y bA p1 m1 c1 bD F
   obtain ⟨GU, P4⟩ := F
   have hHeld := HC.out _ GU
   clear hHeld
   refine wpAnyH_ready (rs := [6, 10, 16]) (by kernel_rfl) (by simp) ?_
   refine AllReadyH.cons rfl (fun K hK => ?_) (AllReadyH.cons rfl (fun K hK => ?_) (AllReadyH.cons rfl (fun K hK => ?_) AllReadyH.nil))
   focus (
   go_simp
   refine hK.out _ _ (HC.out _ (GU.alloc _)) (fun hHeld => ?_)
   clear hK K
   try simp only [List.setIfInBounds_toArray, List.set_cons_zero, List.set_cons_succ]
   obtain ⟨z, hz⟩ : ∃ z, z = y.alloc (.cells #[.slice none 0 0] 27) := ⟨_, rfl⟩
   have gg : Below y.heap.size y z := by rw [hz]; exact (Below.refl _ _).alloc (Nat.le_refl _) _
   have P2 : z.cell? ⟨y.heap.size, 0, none⟩ = some (.slice none 0 0) ∧ y.heap.size < z.heap.size := by rw [hz]; simp [go_sem]
   replace GU := Good.up GU gg
   replace P4 := keepQ P4 gg
   rw [← hz]
   clear hz gg hHeld
   generalize y.heap.size = bB at *
   refine lstH (l' := #[true, true, true, true, true, true, true, false, true, true, false, false, true, true, true, false, false, false, false, false, false, false, false, false]) (by kernel_rfl) ?_
   have F := And.intro GU (And.intro P2 P4)
   clear GU P2 P4
   revert F
   revert bD
   revert bB
   revert c1
   revert m1
   revert p1
   revert bA
   revert z
   exact t2_3_6_14_.out
   )
   focus (
   go_simp
   refine hK.out _ _ (HC.out _ (GU.alloc _)) (fun hHeld => ?_)
   clear hK K
   try simp only [List.setIfInBounds_toArray, List.set_cons_zero, List.set_cons_succ]
   obtain ⟨z, hz⟩ : ∃ z, z = y.alloc (.cells #[.slice aN sh sh] 26) := ⟨_, rfl⟩
   have gg : Below y.heap.size y z := by rw [hz]; exact (Below.refl _ _).alloc (Nat.le_refl _) _
   have P3 : z.cell? ⟨y.heap.size, 0, none⟩ = some (.slice aN sh sh) ∧ y.heap.size < z.heap.size := by rw [hz]; simp [go_sem]
   replace GU := Good.up GU gg
   replace P4 := keepQ P4 gg
   rw [← hz]
   clear hz gg hHeld
   generalize y.heap.size = bC at *
   refine lstH (l' := #[true, true, true, true, true, true, false, false, true, true, true, false, true, true, true, false, false, false, false, false, false, false, false, false]) (by kernel_rfl) ?_
   have F := And.intro GU (And.intro P3 P4)
   clear GU P3 P4
   revert F
   revert bD
   revert bC
   revert c1
   revert m1
   revert p1
   revert bA
   revert z
   exact t2_3_10_14_.out
   )
   focus (
   go_simp
   refine hK.out _ _ (HC.out _ GU) (fun hHeld => ?_)
   clear hK K
   try simp only [List.setIfInBounds_toArray, List.set_cons_zero, List.set_cons_succ]
   clear hHeld
   refine lstH (l' := #[true, true, true, true, true, true, false, false, true, true, false, false, true, true, true, false, true, false, false, false, false, false, false, false]) (by kernel_rfl) ?_
   have F := And.intro GU P4
   clear GU P4
   revert F
   revert bD
   revert c1
   revert m1
   revert p1
   revert bA
   revert y
   exact t2_3_14_16_.out
   )
   )
   focus (
   intro y bA p1 m1 c1 bC F
   obtain ⟨GU, P3⟩ := F
   have hHeld := HC.out _ GU
   clear hHeld
   refine wpAnyH_ready (rs := [6, 14, 16]) (by kernel_rfl) (by simp) ?_
   refine AllReadyH.cons rfl (fun K hK => ?_) (AllReadyH.cons rfl (fun K hK => ?_) (AllReadyH.cons rfl (fun K hK => ?_) AllReadyH.nil))
   focus (
   go_simp
   refine hK.out _ _ (HC.out _ (GU.alloc _)) (fun hHeld => ?_)
   clear hK K
   try simp only [List.setIfInBounds_toArray, List.set_cons_zero, List.set_cons_succ]
   obtain ⟨z, hz⟩ : ∃ z, z = y.alloc (.cells #[.slice none 0 0] 27) := ⟨_, rfl⟩
   have gg : Below y.heap.size y z := by rw [hz]; exact (Below.refl _ _).alloc (Nat.le_refl _) _
   have P2 : z.cell? ⟨y.heap.size, 0, none⟩ = some (.slice none 0 0) ∧ y.heap.size < z.heap.size := by rw [hz]; simp [go_sem]
   replace GU := Good.up GU gg
   replace P3 := keepQ P3 gg
   rw [← hz]
   clear hz gg hHeld
   generalize y.heap.size = bB at *
   refine lstH (l' := #[true, true, true, true, true, true, true, false, true, true, true, false, true, true, false, false, false, false, false, false, false, false, false, false]) (by kernel_rfl) ?_
   have F := And.intro GU (And.intro P2 P3)
   clear GU P2 P3
   revert F
   revert bC
   revert bB
   revert c1
   revert m1
   revert p1
   revert bA
   revert z
   exact t2_3_6_10_.out
   )
   focus (
   go_simp
   refine hK.out _ _ (HC.out _ (GU.alloc _)) (fun hHeld => ?_)
   clear hK K
   try simp only [List.setIfInBounds_toArray, List.set_cons_zero, List.set_cons_succ]
   obtain ⟨z, hz⟩ : ∃ z, z = y.alloc (.cells #[.slice none 0 0] 35) := ⟨_, rfl⟩
   have gg : Below y.heap.size y z := by rw [hz]; exact (Below.refl _ _).alloc (Nat.le_refl _) _
   have P4 : z.cell? ⟨y.heap.size, 0, none⟩ = some (.slice none 0 0) ∧ y.heap.size < z.heap.size := by rw [hz]; simp [go_sem]
   replace GU := Good.up GU gg
   replace P3 := keepQ P3 gg
   rw [← hz]
   clear hz gg hHeld
   generalize y.heap.size = bD at *
   refine lstH (l' := #[true, true, true, true, true, true, false, false, true, true, true, false, true, true, true, false, false, false, false, false, false, false, false, false]) (by kernel_rfl) ?_
   have F := And.intro GU (And.intro P3 P4)
   clear GU P3 P4
   revert F
   revert bD
   revert bC
   revert c1
   revert m1
   revert p1
   revert bA
   revert z
   exact t2_3_10_14_.out
   )
   focus (
   go_simp
   refine hK.out _ _ (HC.out _ GU) (fun hHeld => ?_)
   clear hK K
   try simp only [List.setIfInBounds_toArray, List.set_cons_zero, List.set_cons_succ]
   clear hHeld
   refine lstH (l' := #[true, true, true, true, true, true, false, false, true, true, true, false, true, true, false, false, true, false, false, false, false, false, false, false]) (by kernel_rfl) ?_
   have F := And.intro GU P3
   clear GU P3
   revert F
   revert bC
   revert c1
   revert m1
   revert p1
   revert bA
   revert y
   exact t2_3_10_16_.out
   )
   )
   focus (
   intro y bA p1 m1 c1 bB F
   obtain ⟨GU, P2⟩ := F
   have hHeld := HC.out _ GU
   clear hHeld
   refine wpAnyH_ready (rs := [7, 10, 14, 16]) (by kernel_rfl) (by simp) ?_
   refine AllReadyH.cons rfl (fun K hK => ?_) (AllReadyH.cons rfl (fun K hK => ?_) (AllReadyH.cons rfl (fun K hK => ?_) (AllReadyH.cons rfl (fun K hK => ?_) AllReadyH.nil)))
   focus (
   rw [if_pos]
   rotate_left
   · kernel_rfl
   have HCall := hideIt (HCe.out _ bB GU P2)
   go_wp2_with (go_at_call 65; refine HCall.out.mono ?_; rintro e z ⟨rfl, gg⟩; refine Hid.out ?_)
   refine hidp ?_
   refine hK.out _ _ (HC.out _ (Good.up GU gg)) (fun hHeld => ?_)
   clear hK K HCall
   try simp only [List.setIfInBounds_toArray, List.set_cons_zero, List.set_cons_succ]
   replace GU := Good.up GU gg
   clear gg P2
   clear hHeld
   refine lstH (l' := #[true, true, true, true, true, true, true, true, true, true, false, false, true, true, false, false, false, false, false, false, false, false, false, false]) (by kernel_rfl) ?_
   have F := GU
   clear GU
   revert F
   revert bB
   revert c1
   revert m1
   revert p1
   revert bA
   revert z
   exact t2_3_6_7_.out
   )
   focus (
   go_simp
   refine hK.out _ _ (HC.out _ (GU.alloc _)) (fun hHeld => ?_)
   clear hK K
   try simp only [List.setIfInBounds_toArray, List.set_cons_zero, List.set_cons_succ]
   obtain ⟨z, hz⟩ : ∃ z, z = y.alloc (.cells #[.slice aN sh sh] 26) := ⟨_, rfl⟩
   have gg : Below y.heap.size y z := by rw [hz]; exact (Below.refl _ _).alloc (Nat.le_refl _) _
   have P3 : z.cell? ⟨y.heap.size, 0, none⟩ = some (.slice aN sh sh) ∧ y.heap.size < z.heap.size := by rw [hz]; simp [go_sem]
   replace GU := Good.up GU gg
   replace P2 := keepQ P2 gg
   rw [← hz]
   clear hz gg hHeld
   generalize y.heap.size = bC at *
   refine lstH (l' := #[true, true, true, true, true, true, true, false, true, true, true, false, true, true, false, false, false, false, false, false, false, false, false, false]) (by kernel_rfl) ?_
   have F := And.intro GU (And.intro P2 P3)
   clear GU P2 P3
   revert F
   revert bC
   revert bB
   revert c1
   revert m1
   revert p1
   revert bA
   revert z
   exact t2_3_6_10_.out
   )
   focus (
   go_simp
   refine hK.out _ _ (HC.out _ (GU.alloc _)) (fun hHeld => ?_)
   clear hK K
   try simp only [List.setIfInBounds_toArray, List.set_cons_zero, List.set_cons_succ]
   obtain ⟨z, hz⟩ : ∃ z, z = y.alloc (.cells #[.slice none 0 0] 35) := ⟨_, rfl⟩
   have gg : Below y.heap.size y z := by rw [hz]; exact (Below.refl _ _).alloc (Nat.le_refl _) _
   have P4 : z.cell? ⟨y.heap.size, 0, none⟩ = some (.slice none 0 0) ∧ y.heap.size < z.heap.size := by rw [hz]; simp [go_sem]
   replace GU := Good.up GU gg
   replace P2 := keepQ P2 gg
   rw [← hz]
   clear hz gg hHeld
   generalize y.heap.size = bD at *
   refine lstH (l' := #[true, true, true, true, true, true, true, false, true, true, false, false, true, true, true, false, false, false, false, false, false, false, false, false]) (by kernel_rfl) ?_
   have F := And.intro GU (And.intro P2 P4)
   clear GU P2 P4
   revert F
   revert bD
   revert bB
   revert c1
   revert m1
   revert p1
   revert bA
   revert z
   exact t2_3_6_14_.out
   )
   focus (
   go_simp
   refine hK.out _ _ (HC.out _ GU) (fun hHeld => ?_)
   clear hK K
   try simp only [List.setIfInBounds_toArray, List.set_cons_zero, List.set_cons_succ]
   clear hHeld
   refine lstH (l' := #[true, true, true, true, true, true, true, false, true, true, false, false, true, true, false, false, true, false, false, false, false, false, false, false]) (by kernel_rfl) ?_
   have F := And.intro GU P2
   clear GU P2
   revert F
   revert bB
   revert c1
   revert m1
   revert p1
   revert bA
   revert y
   exact t2_3_6_16_.out
   )
   )
   focus (
   intro y bA p1 m1 c1 F
   have GU := F
   clear F
   have hHeld := HC.out _ GU
   clear hHeld
   refine wpAnyH_ready (rs := [6, 10, 14]) (by kernel_rfl) (by simp) ?_
   refine AllReadyH.cons rfl (fun K hK => ?_) (AllReadyH.cons rfl (fun K hK => ?_) (AllReadyH.cons rfl (fun K hK => ?_) AllReadyH.nil))
   focus (
   go_simp
   refine hK.out _ _ (HC.out _ (GU.alloc _)) (fun hHeld => ?_)
   clear hK K
   try simp only [List.setIfInBounds_toArray, List.set_cons_zero, List.set_cons_succ]
   obtain ⟨z, hz⟩ : ∃ z, z = y.alloc (.cells #[.slice none 0 0] 27) := ⟨_, rfl⟩
   have gg : Below y.heap.size y z := by rw [hz]; exact (Below.refl _ _).alloc (Nat.le_refl _) _
   have P2 : z.cell? ⟨y.heap.size, 0, none⟩ = some (.slice none 0 0) ∧ y.heap.size < z.heap.size := by rw [hz]; simp [go_sem]
   replace GU := Good.up GU gg
   rw [← hz]
   clear hz gg hHeld
   generalize y.heap.size = bB at *
   refine lstH (l' := #[true, true, true, true, true, true, true, false, true, true, false, false, true, true, false, false, true, false, false, false, false, false, false, false]) (by kernel_rfl) ?_
   have F := And.intro GU P2
   clear GU P2
   revert F
   revert bB
   revert c1
   revert m1
   revert p1
   revert bA
   revert z
   exact t2_3_6_16_.out
   )
   focus (
   go_simp
   refine hK.out _ _ (HC.out _ (GU.alloc _)) (fun hHeld => ?_)
   clear hK K
   try simp only [List.setIfInBounds_toArray, List.set_cons_zero, List.set_cons_succ]
   obtain ⟨z, hz⟩ : ∃ z, z = y.alloc (.cells #[.slice aN sh sh] 26) := ⟨_, rfl⟩
   have gg : Below y.heap.size y z := by rw [hz]; exact (Below.refl _ _).alloc (Nat.le_refl _) _
   have P3 : z.cell? ⟨y.heap.size, 0, none⟩ = some (.slice aN sh sh) ∧ y.heap.size < z.heap.size := by rw [hz]; simp [go_sem]
   replace GU := Good.up GU gg
   rw [← hz]
   clear hz gg hHeld
   generalize y.heap.size = bC at *
   refine lstH (l' := #[true, true, true, true, true, true, false, false, true, true, true, false, true, true, false, false, true, false, false, false, false, false, false, false]) (by kernel_rfl) ?_
   have F := And.intro GU P3
   clear GU P3
   revert F
   revert bC
   revert c1
   revert m1
   revert p1
   revert bA
   revert z
   exact t2_3_10_16_.out
   )
   focus (
   go_simp
   refine hK.out _ _ (HC.out _ (GU.alloc _)) (fun hHeld => ?_)
   clear hK K
   try simp only [List.setIfInBounds_toArray, List.set_cons_zero, List.set_cons_succ]
   obtain ⟨z, hz⟩ : ∃ z, z = y.alloc (.cells #[.slice none 0 0] 35) := ⟨_, rfl⟩
   have gg : Below y.heap.size y z := by rw [hz]; exact (Below.refl _ _).alloc (Nat.le_refl _) _
   have P4 : z.cell? ⟨y.heap.size, 0, none⟩ = some (.slice none 0 0) ∧ y.heap.size < z.heap.size := by rw [hz]; simp [go_sem]
   replace GU := Good.up GU gg
   rw [← hz]
   clear hz gg hHeld
   generalize y.heap.size = bD at *
   refine lstH (l' := #[true, true, true, true, true, true, false, false, true, true, false, false, true, true, true, false, true, false, false, false, false, false, false, false]) (by kernel_rfl) ?_
   have F := And.intro GU P4
   clear GU P4
   revert F
   revert bD
   revert c1
   revert m1
   revert p1
   revert bA
   revert z
   exact t2_3_14_16_.out
   )
   )
   focus (
   intro y bA bB bC bD F
   obtain ⟨GU, P1, P2, P3, P4⟩ := F
   have hHeld := HC.out _ GU
   clear hHeld
   refine wpAnyH_ready (rs := [3]) (by kernel_rfl) (by simp) ?_
   refine AllReadyH.cons rfl (fun K hK => ?_) AllReadyH.nil
   focus (
   rw [if_pos]
   rotate_left
   · kernel_rfl
   have HCall := hideIt (HCo.out _ bA GU P1)
   go_wp2_with (go_at_call 64; refine HCall.out.mono ?_; rintro e z ⟨p1, m1, c1, rfl, gg⟩; refine Hid.out ?_)
   refine hidp ?_
   refine hK.out _ _ (HC.out _ (Good.up GU gg)) (fun hHeld => ?_)
   clear hK K HCall
   try simp only [List.setIfInBounds_toArray, List.set_cons_zero, List.set_cons_succ]
   replace GU := Good.up GU gg
   replace P2 := keepQ P2 gg
   replace P3 := keepQ P3 gg
   replace P4 := keepQ P4 gg
   clear gg P1
   clear hHeld
   refine lstH (l' := #[true, true, true, true, true, true, true, false, true, true, true, false, true, true, true, false, false, false, false, false, false, false, false, false]) (by kernel_rfl) ?_
   have F := And.intro GU (And.intro P2 (And.intro P3 P4))
   clear GU P2 P3 P4
   revert F
   revert bD
   revert bC
   revert bB
   revert c1
   revert m1
   revert p1
   revert bA
   revert z
   exact t2_3_6_10_14_.out
   )
   )
   focus (
   intro y bA p1 m1 c1 bC bD F
   obtain ⟨GU, P3, P4⟩ := F
   have hHeld := HC.out _ GU
   clear hHeld
   refine wpAnyH_ready (rs := [6, 16]) (by kernel_rfl) (by simp) ?_
   refine AllReadyH.cons rfl (fun K hK => ?_) (AllReadyH.cons rfl (fun K hK => ?_) AllReadyH.nil)
   focus (
   go_simp
   refine hK.out _ _ (HC.out _ (GU.alloc _)) (fun hHeld => ?_)
   clear hK K
   try simp only [List.setIfInBounds_toArray, List.set_cons_zero, List.set_cons_succ]
   obtain ⟨z, hz⟩ : ∃ z, z = y.alloc (.cells #[.slice none 0 0] 27) := ⟨_, rfl⟩
   have gg : Below y.heap.size y z := by rw [hz]; exact (Below.refl _ _).alloc (Nat.le_refl _) _
   have P2 : z.cell? ⟨y.heap.size, 0, none⟩ = some (.slice none 0 0) ∧ y.heap.size < z.heap.size := by rw [hz]; simp [go_sem]
   replace GU := Good.up GU gg
   replace P3 := keepQ P3 gg
   replace P4 := keepQ P4 gg
   rw [← hz]
   clear hz gg hHeld
   generalize y.heap.size = bB at *
   refine lstH (l' := #[true, true, true, true, true, true, true, false, true, true, true, false, true, true, true, false, false, false, false, false, false, false, false, false]) (by kernel_rfl) ?_
   have F := And.intro GU (And.intro P2 (And.intro P3 P4))
   clear GU P2 P3 P4
   revert F
   revert bD
   revert bC
   revert bB
   revert c1
   revert m1
   revert p1
   revert bA
   revert z
   exact t2_3_6_10_14_.out
   )
   focus (
   go_simp
   refine hK.out _ _ (HC.out _ GU) (fun hHeld => ?_)
   clear hK K
   try simp only [List.setIfInBounds_toArray, List.set_cons_zero, List.set_cons_succ]
   clear hHeld
   refine lstH (l' := #[true, true, true, true, true, true, false, false, true, true, true, false, true, true, true, false, true, false, false, false, false, false, false, false]) (by kernel_rfl) ?_
   have F := And.intro GU (And.intro P3 P4)
   clear GU P3 P4
   revert F
   revert bD
   revert bC
   revert c1
   revert m1
   revert p1
   revert bA
   revert y
   exact t2_3_10_14_16_.out
   )
   )
   focus (
   intro y bA p1 m1 c1 bB bD F
   obtain ⟨GU, P2, P4⟩ := F
   have hHeld := HC.out _ GU
   clear hHeld
   refine wpAnyH_ready (rs := [7, 10, 16]) (by kernel_rfl) (by simp) ?_
   refine AllReadyH.cons rfl (fun K hK => ?_) (AllReadyH.cons rfl (fun K hK => ?_) (AllReadyH.cons rfl (fun K hK => ?_) AllReadyH.nil))
   focus (
   rw [if_pos]
   rotate_left
   · kernel_rfl
   have HCall := hideIt (HCe.out _ bB GU P2)
   go_wp2_with (go_at_call 65; refine HCall.out.mono ?_; rintro e z ⟨rfl, gg⟩; refine Hid.out ?_)
   refine hidp ?_
   refine hK.out _ _ (HC.out _ (Good.up GU gg)) (fun hHeld => ?_)
   clear hK K HCall
   try simp only [List.setIfInBounds_toArray, List.set_cons_zero, List.set_cons_succ]
   replace GU := Good.up GU gg
   replace P4 := keepQ P4 gg
   clear gg P2
   clear hHeld
   refine lstH (l' := #[true, true, true, true, true, true, true, true, true, true, false, false, true, true, true, false, false, false, false, false, false, false, false, false]) (by kernel_rfl) ?_
   have F := And.intro GU P4
   clear GU P4
   revert F
   revert bD
   revert bB
   revert c1
   revert m1
   revert p1
   revert bA
   revert z
   exact t2_3_6_7_14_.out
   )
   focus (
   go_simp
   refine hK.out _ _ (HC.out _ (GU.alloc _)) (fun hHeld => ?_)
   clear hK K
   try simp only [List.setIfInBounds_toArray, List.set_cons_zero, List.set_cons_succ]
   obtain ⟨z, hz⟩ : ∃ z, z = y.alloc (.cells #[.slice aN sh sh] 26) := ⟨_, rfl⟩
   have gg : Below y.heap.size y z := by rw [hz]; exact (Below.refl _ _).alloc (Nat.le_refl _) _
   have P3 : z.cell? ⟨y.heap.size, 0, none⟩ = some (.slice aN sh sh) ∧ y.heap.size < z.heap.size := by rw [hz]; simp [go_sem]
   replace GU := Good.up GU gg
   replace P2 := keepQ P2 gg
   replace P4 := keepQ P4 gg
   rw [← hz]
   clear hz gg hHeld
   generalize y.heap.size = bC at *
   refine lstH (l' := #[true, true, true, true, true, true, true, false, true, true, true, false, true, true, true, false, false, false, false, false, false, false, false, false]) (by kernel_rfl) ?_
   have F := And.intro GU (And.intro P2 (And.intro P3 P4))
   clear GU P2 P3 P4
   revert F
   revert bD
   revert bC
   revert bB
   revert c1
   revert m1
   revert p1
   revert bA
   revert z
   exact t2_3_6_10_14_.out
   )
   focus (
   go_simp
   refine hK.out _ _ (HC.out _ GU) (fun hHeld => ?_)
   clear hK K
   try simp only [List.setIfInBounds_toArray, List.set_cons_zero, List.set_cons_succ]
   clear hHeld
   refine lstH (l' := #[true, true, true, true, true, true, true, false, true, true, false, false, true, true, true, false, true, false, false, false, false, false, false, false]) (by kernel_rfl) ?_
   have F := And.intro GU (And.intro P2 P4)
   clear GU P2 P4
   revert F
   revert bD
   revert bB
   revert c1
   revert m1
   revert p1
   revert bA
   revert y
   exact t2_3_6_14_16_.out
   )
   )
   focus (
   intro y bA p1 m1 c1 bB bC F
   obtain ⟨GU, P2, P3⟩ := F
   have hHeld := HC.out _ GU
   clear hHeld
   refine wpAnyH_ready (rs := [7, 14, 16]) (by kernel_rfl) (by simp) ?_
   refine AllReadyH.cons rfl (fun K hK => ?_) (AllReadyH.cons rfl (fun K hK => ?_) (AllReadyH.cons rfl (fun K hK => ?_) AllReadyH.nil))
   focus (
   rw [if_pos]
   rotate_left
   · kernel_rfl
   have HCall := hideIt (HCe.out _ bB GU P2)
   go_wp2_with (go_at_call 65; refine HCall.out.mono ?_; rintro e z ⟨rfl, gg⟩; refine Hid.out ?_)
   refine hidp ?_
   refine hK.out _ _ (HC.out _ (Good.up GU gg)) (fun hHeld => ?_)
   clear hK K HCall
   try simp only [List.setIfInBounds_toArray, List.set_cons_zero, List.set_cons_succ]
   replace GU := Good.up GU gg
   replace P3 := keepQ P3 gg
   clear gg P2
   clear hHeld
   refine lstH (l' := #[true, true, true, true, true, true, true, true, true, true, true, false, true, true, false, false, false, false, false, false, false, false, false, false]) (by kernel_rfl) ?_
   have F := And.intro GU P3
   clear GU P3
   revert F
   revert bC
   revert bB
   revert c1
   revert m1
   revert p1
   revert bA
   revert z
   exact t2_3_6_7_10_.out
   )
   focus (
   go_simp
   refine hK.out _ _ (HC.out _ (GU.alloc _)) (fun hHeld => ?_)
   clear hK K
   try simp only [List.setIfInBounds_toArray, List.set_cons_zero, List.set_cons_succ]
   obtain ⟨z, hz⟩ : ∃ z, z = y.alloc (.cells #[.slice none 0 0] 35) := ⟨_, rfl⟩
   have gg : Below y.heap.size y z := by rw [hz]; exact (Below.refl _ _).alloc (Nat.le_refl _) _
   have P4 : z.cell? ⟨y.heap.size, 0, none⟩ = some (.slice none 0 0) ∧ y.heap.size < z.heap.size := by rw [hz]; simp [go_sem]
   replace GU := Good.up GU gg
   replace P2 := keepQ P2 gg
   replace P3 := keepQ P3 gg
   rw [← hz]
   clear hz gg hHeld
   generalize y.heap.size = bD at *
   refine lstH (l' := #[true, true, true, true, true, true, true, false, true, true, true, false, true, true, true, false, false, false, false, false, false, false, false, false]) (by kernel_rfl) ?_
   have F := And.intro GU (And.intro P2 (And.intro P3 P4))
   clear GU P2 P3 P4
   revert F
   revert bD
   revert bC
   revert bB
   revert c1
   revert m1
   revert p1
   revert bA
   revert z
   exact t2_3_6_10_14_.out
   )
   focus (
   go_simp
   refine hK.out _ _ (HC.out _ GU) (fun hHeld => ?_)
   clear hK K
   try simp only [List.setIfInBounds_toArray, List.set_cons_zero, List.set_cons_succ]
   clear hHeld
   refine lstH (l' := #[true, true, true, true, true, true, true, false, true, true, true, false, true, true, false, false, true, false, false, false, false, false, false, false]) (by kernel_rfl) ?_
   have F := And.intro GU (And.intro P2 P3)
   clear GU P2 P3
   revert F
   revert bC
   revert bB
   revert c1
   revert m1
   revert p1
   revert bA
   revert y
   exact t2_3_6_10_16_.out
   )
   )
   focus (
   intro y bA p1 m1 c1 bB F
   have GU := F
   clear F
   have hHeld := HC.out _ GU
   clear hHeld
   refine wpAnyH_ready (rs := [10, 14, 16]) (by kernel_rfl) (by simp) ?_
   refine AllReadyH.cons rfl (fun K hK => ?_) (AllReadyH.cons rfl (fun K hK => ?_) (AllReadyH.cons rfl (fun K hK => ?_) AllReadyH.nil))
   focus (
   go_simp
   refine hK.out _ _ (HC.out _ (GU.alloc _)) (fun hHeld => ?_)
   clear hK K
   try simp only [List.setIfInBounds_toArray, List.set_cons_zero, List.set_cons_succ]
   obtain ⟨z, hz⟩ : ∃ z, z = y.alloc (.cells #[.slice aN sh sh] 26) := ⟨_, rfl⟩
   have gg : Below y.heap.size y z := by rw [hz]; exact (Below.refl _ _).alloc (Nat.le_refl _) _
   have P3 : z.cell? ⟨y.heap.size, 0, none⟩ = some (.slice aN sh sh) ∧ y.heap.size < z.heap.size := by rw [hz]; simp [go_sem]
   replace GU := Good.up GU gg
   rw [← hz]
   clear hz gg hHeld
   generalize y.heap.size = bC at *
   refine lstH (l' := #[true, true, true, true, true, true, true, true, true, true, true, false, true, true, false, false, false, false, false, false, false, false, false, false]) (by kernel_rfl) ?_
   have F := And.intro GU P3
   clear GU P3
   revert F
   revert bC
   revert bB
   revert c1
   revert m1
   revert p1
   revert bA
   revert z
   exact t2_3_6_7_10_.out
   )
   focus (
   go_simp
   refine hK.out _ _ (HC.out _ (GU.alloc _)) (fun hHeld => ?_)
   clear hK K
   try simp only [List.setIfInBounds_toArray, List.set_cons_zero, List.set_cons_succ]
   obtain ⟨z, hz⟩ : ∃ z, z = y.alloc (.cells #[.slice none 0 0] 35) := ⟨_, rfl⟩
   have gg : Below y.heap.size y z := by rw [hz]; exact (Below.refl _ _).alloc (Nat.le_refl _) _
   have P4 : z.cell? ⟨y.heap.size, 0, none⟩ = some (.slice none 0 0) ∧ y.heap.size < z.heap.size := by rw [hz]; simp [go_sem]
   replace GU := Good.up GU gg
   rw [← hz]
   clear hz gg hHeld
   generalize y.heap.size = bD at *
   refine lstH (l' := #[true, true, true, true, true, true, true, true, true, true, false, false, true, true, true, false, false, false, false, false, false, false, false, false]) (by kernel_rfl) ?_
   have F := And.intro GU P4
   clear GU P4
   revert F
   revert bD
   revert bB
   revert c1
   revert m1
   revert p1
   revert bA
   revert z
   exact t2_3_6_7_14_.out
   )
   focus (
   go_simp
   refine hK.out _ _ (HC.out _ GU) (fun hHeld => ?_)
   clear hK K
   try simp only [List.setIfInBounds_toArray, List.set_cons_zero, List.set_cons_succ]
   clear hHeld
   refine lstH (l' := #[true, true, true, true, true, true, true, true, true, true, false, false, true, true, false, false, true, false, false, false, false, false, false, false]) (by kernel_rfl) ?_
   have F := GU
   clear GU
   revert F
   revert bB
   revert c1
   revert m1
   revert p1
   revert bA
   revert y
   exact t2_3_6_7_16_.out
   )
   )
   focus (
   intro y bA p1 m1 c1 bD F
   obtain ⟨GU, P4⟩ := F
   have hHeld := HC.out _ GU
   clear hHeld
   refine wpAnyH_ready (rs := [6, 10]) (by kernel_rfl) (by simp) ?_
   refine AllReadyH.cons rfl (fun K hK => ?_) (AllReadyH.cons rfl (fun K hK => ?_) AllReadyH.nil)
   focus (
   go_simp
   refine hK.out _ _ (HC.out _ (GU.alloc _)) (fun hHeld => ?_)
   clear hK K
   try simp only [List.setIfInBounds_toArray, List.set_cons_zero, List.set_cons_succ]
   obtain ⟨z, hz⟩ : ∃ z, z = y.alloc (.cells #[.slice none 0 0] 27) := ⟨_, rfl⟩
   have gg : Below y.heap.size y z := by rw [hz]; exact (Below.refl _ _).alloc (Nat.le_refl _) _
   have P2 : z.cell? ⟨y.heap.size, 0, none⟩ = some (.slice none 0 0) ∧ y.heap.size < z.heap.size := by rw [hz]; simp [go_sem]
   replace GU := Good.up GU gg
   replace P4 := keepQ P4 gg
   rw [← hz]
   clear hz gg hHeld
   generalize y.heap.size = bB at *
   refine lstH (l' := #[true, true, true, true, true, true, true, false, true, true, false, false, true, true, true, false, true, false, false, false, false, false, false, false]) (by kernel_rfl) ?_
   have F := And.intro GU (And.intro P2 P4)
   clear GU P2 P4
   revert F
   revert bD
   revert bB
   revert c1
   revert m1
   revert p1
   revert bA
   revert z
   exact t2_3_6_14_16_.out
   )
   focus (
   go_simp
   refine hK.out _ _ (HC.out _ (GU.alloc _)) (fun hHeld => ?_)
   clear hK K
   try simp only [List.setIfInBounds_toArray, List.set_cons_zero, List.set_cons_succ]
   obtain ⟨z, hz⟩ : ∃ z, z = y.alloc (.cells #[.slice aN sh sh] 26) := ⟨_, rfl⟩
   have gg : Below y.heap.size y z := by rw [hz]; exact (Below.refl _ _).alloc (Nat.le_refl _) _
   have P3 : z.cell? ⟨y.heap.size, 0, none⟩ = some (.slice aN sh sh) ∧ y.heap.size < z.heap.size := by rw [hz]; simp [go_sem]
   replace GU := Good.up GU gg
   replace P4 := keepQ P4 gg
   rw [← hz]
   clear hz gg hHeld
   generalize y.heap.size = bC at *
   refine lstH (l' := #[true, true, true, true, true, true, false, false, true, true, true, false, true, true, true, false, true, false, false, false, false, false, false, false]) (by kernel_rfl) ?_
   have F := And.intro GU (And.intro P3 P4)
   clear GU P3 P4
   revert F
   revert bD
   revert bC
   revert c1
   revert m1
   revert p1
   revert bA
   revert z
   exact t2_3_10_14_16_.out
   )
   )
   focus (
   intro y bA p1 m1 c1 bC F
   obtain ⟨GU, P3⟩ := F
   have hHeld := HC.out _ GU
   clear hHeld
   refine wpAnyH_ready (rs := [6, 14]) (by kernel_rfl) (by simp) ?_
   refine AllReadyH.cons rfl (fun K hK => ?_) (AllReadyH.cons rfl (fun K hK => ?_) AllReadyH.nil)
   focus (
   go_simp
   refine hK.out _ _ (HC.out _ (GU.alloc _)) (fun hHeld => ?_)
   clear hK K
   try simp only [List.setIfInBounds_toArray, List.set_cons_zero, List.set_cons_succ]
   obtain ⟨z, hz⟩ : ∃ z, z = y.alloc (.cells #[.slice none 0 0] 27) := ⟨_, rfl⟩
   have gg : Below y.heap.size y z := by rw [hz]; exact (Below.refl _ _).alloc (Nat.le_refl _) _
   have P2 : z.cell? ⟨y.heap.size, 0, none⟩ = some (.slice none 0 0) ∧ y.heap.size < z.heap.size := by rw [hz]; simp [go_sem]
   replace GU := Good.up GU gg
   replace P3 := keepQ P3 gg
   rw [← hz]
   clear hz gg hHeld
   generalize y.heap.size = bB at *
   refine lstH (l' := #[true, true, true, true, true, true, true, false, true, true, true, false, true, true, false, false, true, false, false, false, false, false, false, false]) (by kernel_rfl) ?_
   have F := And.intro GU (And.intro P2 P3)
   clear GU P2 P3
   revert F
   revert bC
   revert bB
   revert c1
   revert m1
   revert p1
   revert bA
   revert z
   exact t2_3_6_10_16_.out
   )
   focus (
   go_simp
   refine hK.out _ _ (HC.out _ (GU.alloc _)) (fun hHeld => ?_)
   clear hK K
   try simp only [List.setIfInBounds_toArray, List.set_cons_zero, List.set_cons_succ]
   obtain ⟨z, hz⟩ : ∃ z, z = y.alloc (.cells #[.slice none 0 0] 35) := ⟨_, rfl⟩
   have gg : Below y.heap.size y z := by rw [hz]; exact (Below.refl _ _).alloc (Nat.le_refl _) _
   have P4 : z.cell? ⟨y.heap.size, 0, none⟩ = some (.slice none 0 0) ∧ y.heap.size < z.heap.size := by rw [hz]; simp [go_sem]
   replace GU := Good.up GU gg
   replace P3 := keepQ P3 gg
   rw [← hz]
   clear hz gg hHeld
   generalize y.heap.size = bD at *
   refine lstH (l' := #[true, true, true, true, true, true, false, false, true, true, true, false, true, true, true, false, true, false, false, false, false, false, false, false]) (by kernel_rfl) ?_
   have F := And.intro GU (And.intro P3 P4)
   clear GU P3 P4
   revert F
   revert bD
   revert bC
   revert c1
   revert m1
   revert p1
   revert bA
   revert z
   exact t2_3_10_14_16_.out
   )
   )
   focus (
   intro y bA p1 m1 c1 bB F
   obtain ⟨GU, P2⟩ := F
   have hHeld := HC.out _ GU
   clear hHeld
   refine wpAnyH_ready (rs := [7, 10, 14]) (by kernel_rfl) (by simp) ?_
   refine AllReadyH.cons rfl (fun K hK => ?_) (AllReadyH.cons rfl (fun K hK => ?_) (AllReadyH.cons rfl (fun K hK => ?_) AllReadyH.nil))
   focus (
   rw [if_pos]
   rotate_left
   · kernel_rfl
   have HCall := hideIt (HCe.out _ bB GU P2)
   go_wp2_with (go_at_call 65; refine HCall.out.mono ?_; rintro e z ⟨rfl, gg⟩; refine Hid.out ?_)
   refine hidp ?_
   refine hK.out _ _ (HC.out _ (Good.up GU gg)) (fun hHeld => ?_)
   clear hK K HCall
   try simp only [List.setIfInBounds_toArray, List.set_cons_zero, List.set_cons_succ]
   replace GU := Good.up GU gg
   clear gg P2
   clear hHeld
   refine lstH (l' := #[true, true, true, true, true, true, true, true, true, true, false, false, true, true, false, false, true, false, false, false, false, false, false, false]) (by kernel_rfl) ?_
   have F := GU
   clear GU
   revert F
   revert bB
   revert c1
   revert m1
   revert p1
   revert bA
   revert z
   exact t2_3_6_7_16_.out
   )
   focus (
   go_simp
   refine hK.out _ _ (HC.out _ (GU.alloc _)) (fun hHeld => ?_)
   clear hK K
   try simp only [List.setIfInBounds_toArray, List.set_cons_zero, List.set_cons_succ]
   obtain ⟨z, hz⟩ : ∃ z, z = y.alloc (.cells #[.slice aN sh sh] 26) := ⟨_, rfl⟩
   have gg : Below y.heap.size y z := by rw [hz]; exact (Below.refl _ _).alloc (Nat.le_refl _) _
   have P3 : z.cell? ⟨y.heap.size, 0, none⟩ = some (.slice aN sh sh) ∧ y.heap.size < z.heap.size := by rw [hz]; simp [go_sem]
   replace GU := Good.up GU gg
   replace P2 := keepQ P2 gg
   rw [← hz]
   clear hz gg hHeld
   generalize y.heap.size = bC at *
   refine lstH (l' := #[true, true, true, true, true, true, true, false, true, true, true, false, true, true, false, false, true, false, false, false, false, false, false, false]) (by kernel_rfl) ?_
   have F := And.intro GU (And.intro P2 P3)
   clear GU P2 P3
   revert F
   revert bC
   revert bB
   revert c1
   revert m1
   revert p1
   revert bA
   revert z
   exact t2_3_6_10_16_.out
   )
   focus (
   go_simp
   refine hK.out _ _ (HC.out _ (GU.alloc _)) (fun hHeld => ?_)
   clear hK K
   try simp only [List.setIfInBounds_toArray, List.set_cons_zero, List.set_cons_succ]
   obtain ⟨z, hz⟩ : ∃ z, z = y.alloc (.cells #[.slice none 0 0] 35) := ⟨_, rfl⟩
   have gg : Below y.heap.size y z := by rw [hz]; exact (Below.refl _ _).alloc (Nat.le_refl _) _
   have P4 : z.cell? ⟨y.heap.size, 0, none⟩ = some (.slice none 0 0) ∧ y.heap.size < z.heap.size := by rw [hz]; simp [go_sem]
   replace GU := Good.up GU gg
   replace P2 := keepQ P2 gg
   rw [← hz]
   clear hz gg hHeld
   generalize y.heap.size = bD at *
   refine lstH (l' := #[true, true, true, true, true, true, true, false, true, true, false, false, true, true, true, false, true, false, false, false, false, false, false, false]) (by kernel_rfl) ?_
   have F := And.intro GU (And.intro P2 P4)
   clear GU P2 P4
   revert F
   revert bD
   revert bB
   revert c1
   revert m1
   revert p1
   revert bA
   revert z
   exact t2_3_6_14_16_.out
   )
   )
   focus (
   intro y bA p1 m1 c1 bB bC bD F
   obtain ⟨GU, P2, P3, P4⟩ := F
   have hHeld := HC.out _ GU
   clear hHeld
   refine wpAnyH_ready (rs := [7, 16]) (by kernel_rfl) (by simp) ?_
   refine AllReadyH.cons rfl (fun K hK => ?_) (AllReadyH.cons rfl (fun K hK => ?_) AllReadyH.nil)
   focus (
   rw [if_pos]
   rotate_left
   · kernel_rfl
   have HCall := hideIt (HCe.out _ bB GU P2)
   go_wp2_with (go_at_call 65; refine HCall.out.mono ?_; rintro e z ⟨rfl, gg⟩; refine Hid.out ?_)
   refine hidp ?_
   refine hK.out _ _ (HC.out _ (Good.up GU gg)) (fun hHeld => ?_)
   clear hK K HCall
   try simp only [List.setIfInBounds_toArray, List.set_cons_zero, List.set_cons_succ]
   replace GU := Good.up GU gg
   replace P3 := keepQ P3 gg
   replace P4 := keepQ P4 gg
   clear gg P2
   clear hHeld
   refine lstH (l' := #[true, true, true, true, true, true, true, true, true, true, true, false, true, true, true, false, false, false, false, false, false, false, false, false]) (by kernel_rfl) ?_
   have F := And.intro GU (And.intro P3 P4)
   clear GU P3 P4
   revert F
   revert bD
   revert bC
   revert bB
   revert c1
   revert m1
   revert p1
   revert bA
   revert z
   exact t2_3_6_7_10_14_.out
   )
   focus (
   go_simp
   refine hK.out _ _ (HC.out _ GU) (fun hHeld => ?_)
   clear hK K
   try simp only [List.setIfInBounds_toArray, List.set_cons_zero, List.set_cons_succ]
   clear hHeld
   refine lstH (l' := #[true, true, true, true, true, true, true, false, true, true, true, false, true, true, true, false, true, false, false, false, false, false, false, false]) (by kernel_rfl) ?_
   have F := And.intro GU (And.intro P2 (And.intro P3 P4))
   clear GU P2 P3 P4
   revert F
   revert bD
   revert bC
   revert bB
   revert c1
   revert m1
   revert p1
   revert bA
   revert y
   exact t2_3_6_10_14_16_.out
   )
   )
   focus (
   intro y bA p1 m1 c1 bB bD F
   obtain ⟨GU, P4⟩ := F
   have hHeld := HC.out _ GU
   clear hHeld
   refine wpAnyH_ready (rs := [10, 16]) (by kernel_rfl) (by simp) ?_
   refine AllReadyH.cons rfl (fun K hK => ?_) (AllReadyH.cons rfl (fun K hK => ?_) AllReadyH.nil)
   focus (
   go_simp
   refine hK.out _ _ (HC.out _ (GU.alloc _)) (fun hHeld => ?_)
   clear hK K
   try simp only [List.setIfInBounds_toArray, List.set_cons_zero, List.set_cons_succ]
   obtain ⟨z, hz⟩ : ∃ z, z = y.alloc (.cells #[.slice aN sh sh] 26) := ⟨_, rfl⟩
   have gg : Below y.heap.size y z := by rw [hz]; exact (Below.refl _ _).alloc (Nat.le_refl _) _
   have P3 : z.cell? ⟨y.heap.size, 0, none⟩ = some (.slice aN sh sh) ∧ y.heap.size < z.heap.size := by rw [hz]; simp [go_sem]
   replace GU := Good.up GU gg
   replace P4 := keepQ P4 gg
   rw [← hz]
   clear hz gg hHeld
   generalize y.heap.size = bC at *
   refine lstH (l' := #[true, true, true, true, true, true, true, true, true, true, true, false, true, true, true, false, false, false, false, false, false, false, false, false]) (by kernel_rfl) ?_
   have F := And.intro GU (And.intro P3 P4)
   clear GU P3 P4
   revert F
   revert bD
   revert bC
   revert bB
   revert c1
   revert m1
   revert p1
   revert bA
   revert z
   exact t2_3_6_7_10_14_.out
   )
   focus (
   go_simp
   refine hK.out _ _ (HC.out _ GU) (fun hHeld => ?_)
   clear hK K
   try simp only [List.setIfInBounds_toArray, List.set_cons_zero, List.set_cons_succ]
   clear hHeld
   refine lstH (l' := #[true, true, true, true, true, true, true, true, true, true, false, false, true, true, true, false, true, false, false, false, false, false, false, false]) (by kernel_rfl) ?_
   have F := And.intro GU P4
   clear GU P4
   revert F
   revert bD
   revert bB
   revert c1
   revert m1
   revert p1
   revert bA
   revert y
   exact t2_3_6_7_14_16_.out
   )
   )
   focus (
   intro y bA p1 m1 c1 bB bC F
   obtain ⟨GU, P3⟩ := F
   have hHeld := HC.out _ GU
   clear hHeld
   refine wpAnyH_ready (rs := [11, 14, 16]) (by kernel_rfl) (by simp) ?_
   refine AllReadyH.cons rfl (fun K hK => ?_) (AllReadyH.cons rfl (fun K hK => ?_) (AllReadyH.cons rfl (fun K hK => ?_) AllReadyH.nil))
   focus (
   rw [if_pos]
   rotate_left
   · kernel_rfl
   have HCall := hideIt (HCn.out _ bC GU P3)
   go_wp2_with (go_at_call 64; refine HCall.out.mono ?_; rintro e z ⟨p3, m3, c3, rfl, gg⟩; refine Hid.out ?_)
   refine hidp ?_
   refine hK.out _ _ (HC.out _ (Good.up GU gg)) (fun hHeld => ?_)
   clear hK K HCall
   try simp only [List.setIfInBounds_toArray, List.set_cons_zero, List.set_cons_succ]
   replace GU := Good.up GU gg
   clear gg P3
   clear hHeld
   refine lstH (l' := #[true, true, true, true, true, true, true, true, true, true, true, true, true, true, false, false, false, false, false, false, false, false, false, false]) (by kernel_rfl) ?_
   have F := GU
   clear GU
   revert F
   revert c3
   revert m3
   revert p3
   revert bC
   revert bB
   revert c1
   revert m1
   revert p1
   revert bA
   revert z
   exact t2_3_6_7_10_11_.out
   )
   focus (
   go_simp
   refine hK.out _ _ (HC.out _ (GU.alloc _)) (fun hHeld => ?_)
   clear hK K
   try simp only [List.setIfInBounds_toArray, List.set_cons_zero, List.set_cons_succ]
   obtain ⟨z, hz⟩ : ∃ z, z = y.alloc (.cells #[.slice none 0 0] 35) := ⟨_, rfl⟩
   have gg : Below y.heap.size y z := by rw [hz]; exact (Below.refl _ _).alloc (Nat.le_refl _) _
   have P4 : z.cell? ⟨y.heap.size, 0, none⟩ = some (.slice none 0 0) ∧ y.heap.size < z.heap.size := by rw [hz]; simp [go_sem]
   replace GU := Good.up GU gg
   replace P3 := keepQ P3 gg
   rw [← hz]
   clear hz gg hHeld
   generalize y.heap.size = bD at *
   refine lstH (l' := #[true, true, true, true, true, true, true, true, true, true, true, false, true, true, true, false, false, false, false, false, false, false, false, false]) (by kernel_rfl) ?_
   have F := And.intro GU (And.intro P3 P4)
   clear GU P3 P4
   revert F
   revert bD
   revert bC
   revert bB
   revert c1
   revert m1
   revert p1
   revert bA
   revert z
   exact t2_3_6_7_10_14_.out
   )
   focus (
   go_simp
   refine hK.out _ _ (HC.out _ GU) (fun hHeld => ?_)
   clear hK K
   try simp only [List.setIfInBounds_toArray, List.set_cons_zero, List.set_cons_succ]
   clear hHeld
   refine lstH (l' := #[true, true, true, true, true, true, true, true, true, true, true, false, true, true, false, false, true, false, false, false, false, false, false, false]) (by kernel_rfl) ?_
   have F := And.intro GU P3
   clear GU P3
   revert F
   revert bC
   revert bB
   revert c1
   revert m1
   revert p1
   revert bA
   revert y
   exact t2_3_6_7_10_16_.out
   )
   )
   focus (
   intro y bA p1 m1 c1 bC bD F
   obtain ⟨GU, P3, P4⟩ := F
   have hHeld := HC.out _ GU
   clear hHeld
   refine wpAnyH_ready (rs := [6]) (by kernel_rfl) (by simp) ?_
   refine AllReadyH.cons rfl (fun K hK => ?_) AllReadyH.nil
   focus (
   go_simp
   refine hK.out _ _ (HC.out _ (GU.alloc _)) (fun hHeld => ?_)
   clear hK K
   try simp only [List.setIfInBounds_toArray, List.set_cons_zero, List.set_cons_succ]
   obtain ⟨z, hz⟩ : ∃ z, z = y.alloc (.cells #[.slice none 0 0] 27) := ⟨_, rfl⟩
   have gg : Below y.heap.size y z := by rw [hz]; exact (Below.refl _ _).alloc (Nat.le_refl _) _
   have P2 : z.cell? ⟨y.heap.size, 0, none⟩ = some (.slice none 0 0) ∧ y.heap.size < z.heap.size := by rw [hz]; simp [go_sem]
   replace GU := Good.up GU gg
   replace P3 := keepQ P3 gg
   replace P4 := keepQ P4 gg
   rw [← hz]
   clear hz gg hHeld
   generalize y.heap.size = bB at *
   refine lstH (l' := #[true, true, true, true, true, true, true, false, true, true, true, false, true, true, true, false, true, false, false, false, false, false, false, false]) (by kernel_rfl) ?_
   have F := And.intro GU (And.intro P2 (And.intro P3 P4))
   clear GU P2 P3 P4
   revert F
   revert bD
   revert bC
   revert bB
   revert c1
   revert m1
   revert p1
   revert bA
   revert z
   exact t2_3_6_10_14_16_.out
   )
   )
   focus (
   intro y bA p1 m1 c1 bB bD F
   obtain ⟨GU, P2, P4⟩ := F
   have hHeld := HC.out _ GU
   clear hHeld
   refine wpAnyH_ready (rs := [7, 10]) (by kernel_rfl) (by simp) ?_
   refine AllReadyH.cons rfl (fun K hK => ?_) (AllReadyH.cons rfl (fun K hK => ?_) AllReadyH.nil)
   focus (
   rw [if_pos]
   rotate_left
   · kernel_rfl
   have HCall := hideIt (HCe.out _ bB GU P2)
   go_wp2_with (go_at_call 65; refine HCall.out.mono ?_; rintro e z ⟨rfl, gg⟩; refine Hid.out ?_)
   refine hidp ?_
   refine hK.out _ _ (HC.out _ (Good.up GU gg)) (fun hHeld => ?_)
   clear hK K HCall
   try simp only [List.setIfInBounds_toArray, List.set_cons_zero, List.set_cons_succ]
   replace GU := Good.up GU gg
   replace P4 := keepQ P4 gg
   clear gg P2
   clear hHeld
   refine lstH (l' := #[true, true, true, true, true, true, true, true, true, true, false, false, true, true, true, false, true, false, false, false, false, false, false, false]) (by kernel_rfl) ?_
   have F := And.intro GU P4
   clear GU P4
   revert F
   revert bD
   revert bB
   revert c1
   revert m1
   revert p1
   revert bA
   revert z
   exact t2_3_6_7_14_16_.out
   )
   focus (
   go_simp
   refine hK.out _ _ (HC.out _ (GU.alloc _)) (fun hHeld => ?_)
   clear hK K
   try simp only [List.setIfInBounds_toArray, List.set_cons_zero, List.set_cons_succ]
   obtain ⟨z, hz⟩ : ∃ z, z = y.alloc (.cells #[.slice aN sh sh] 26) := ⟨_, rfl⟩
   have gg : Below y.heap.size y z := by rw [hz]; exact (Below.refl _ _).alloc (Nat.le_refl _) _
   have P3 : z.cell? ⟨y.heap.size, 0, none⟩ = some (.slice aN sh sh) ∧ y.heap.size < z.heap.size := by rw [hz]; simp [go_sem]
   replace GU := Good.up GU gg
   replace P2 := keepQ P2 gg
   replace P4 := keepQ P4 gg
   rw [← hz]
   clear hz gg hHeld
   generalize y.heap.size = bC at *
   refine lstH (l' := #[true, true, true, true, true, true, true, false, true, true, true, false, true, true, true, false, true, false, false, false, false, false, false, false]) (by kernel_rfl) ?_
   have F := And.intro GU (And.intro P2 (And.intro P3 P4))
   clear GU P2 P3 P4
   revert F
   revert bD
   revert bC
   revert bB
   revert c1
   revert m1
   revert p1
   revert bA
   revert z
   exact t2_3_6_10_14_16_.out
   )
   )
   focus (
   intro y bA p1 m1 c1 bB bC F
   obtain ⟨GU, P2, P3⟩ := F
   have hHeld := HC.out _ GU
   clear hHeld
   refine wpAnyH_ready (rs := [7, 14]) (by kernel_rfl) (by simp) ?_
   refine AllReadyH.cons rfl (fun K hK => ?_) (AllReadyH.cons rfl (fun K hK => ?_) AllReadyH.nil)
   focus (
   rw [if_pos]
   rotate_left
   · kernel_rfl
   have HCall := hideIt (HCe.out _ bB GU P2)
   go_wp2_with (go_at_call 65; refine HCall.out.mono ?_; rintro e z ⟨rfl, gg⟩; refine Hid.out ?_)
   refine hidp ?_
   refine hK.out _ _ (HC.out _ (Good.up GU gg)) (fun hHeld => ?_)
   clear hK K HCall
   try simp only [List.setIfInBounds_toArray, List.set_cons_zero, List.set_cons_succ]
   replace GU := Good.up GU gg
   replace P3 := keepQ P3 gg
   clear gg P2
   clear hHeld
   refine lstH (l' := #[true, true, true, true, true, true, true, true, true, true, true, false, true, true, false, false, true, false, false, false, false, false, false, false]) (by kernel_rfl) ?_
   have F := And.intro GU P3
   clear GU P3
   revert F
   revert bC
   revert bB
   revert c1
   revert m1
   revert p1
   revert bA
   revert z
   exact t2_3_6_7_10_16_.out
   )
   focus (
   go_simp
   refine hK.out _ _ (HC.out _ (GU.alloc _)) (fun hHeld => ?_)
   clear hK K
   try simp only [List.setIfInBounds_toArray, List.set_cons_zero, List.set_cons_succ]
   obtain ⟨z, hz⟩ : ∃ z, z = y.alloc (.cells #[.slice none 0 0] 35) := ⟨_, rfl⟩
   have gg : Below y.heap.size y z := by rw [hz]; exact (Below.refl _ _).alloc (Nat.le_refl _) _
   have P4 : z.cell? ⟨y.heap.size, 0, none⟩ = some (.slice none 0 0) ∧ y.heap.size < z.heap.size := by rw [hz]; simp [go_sem]
   replace GU := Good.up GU gg
   replace P2 := keepQ P2 gg
   replace P3 := keepQ P3 gg
   rw [← hz]
   clear hz gg hHeld
   generalize y.heap.size = bD at *
   refine lstH (l' := #[true, true, true, true, true, true, true, false, true, true, true, false, true, true, true, false, true, false, false, false, false, false, false, false]) (by kernel_rfl) ?_
   have F := And.intro GU (And.intro P2 (And.intro P3 P4))
   clear GU P2 P3 P4
   revert F
   revert bD
   revert bC
   revert bB
   revert c1
   revert m1
   revert p1
   revert bA
   revert z
   exact t2_3_6_10_14_16_.out
   )
   )
   focus (
   intro y bA p1 m1 c1 bB F
   have GU := F
   clear F
   have hHeld := HC.out _ GU
   clear hHeld
   refine wpAnyH_ready (rs := [10, 14]) (by kernel_rfl) (by simp) ?_
   refine AllReadyH.cons rfl (fun K hK => ?_) (AllReadyH.cons rfl (fun K hK => ?_) AllReadyH.nil)
   focus (
   go_simp
   refine hK.out _ _ (HC.out _ (GU.alloc _)) (fun hHeld => ?_)
   clear hK K
   try simp only [List.setIfInBounds_toArray, List.set_cons_zero, List.set_cons_succ]
   obtain ⟨z, hz⟩ : ∃ z, z = y.alloc (.cells #[.slice aN sh sh] 26) := ⟨_, rfl⟩
   have gg : Below y.heap.size y z := by rw [hz]; exact (Below.refl _ _).alloc (Nat.le_refl _) _
   have P3 : z.cell? ⟨y.heap.size, 0, none⟩ = some (.slice aN sh sh) ∧ y.heap.size < z.heap.size := by rw [hz]; simp [go_sem]
   replace GU := Good.up GU gg
   rw [← hz]
   clear hz gg hHeld
   generalize y.heap.size = bC at *
   refine lstH (l' := #[true, true, true, true, true, true, true, true, true, true, true, false, true, true, false, false, true, false, false, false, false, false, false, false]) (by kernel_rfl) ?_
   have F := And.intro GU P3
   clear GU P3
   revert F
   revert bC
   revert bB
   revert c1
   revert m1
   revert p1
   revert bA
   revert z
   exact t2_3_6_7_10_16_.out
   )
   focus (
   go_simp
   refine hK.out _ _ (HC.out _ (GU.alloc _)) (fun hHeld => ?_)
   clear hK K
   try simp only [List.setIfInBounds_toArray, List.set_cons_zero, List.set_cons_succ]
   obtain ⟨z, hz⟩ : ∃ z, z = y.alloc (.cells #[.slice none 0 0] 35) := ⟨_, rfl⟩
   have gg : Below y.heap.size y z := by rw [hz]; exact (Below.refl _ _).alloc (Nat.le_refl _) _
   have P4 : z.cell? ⟨y.heap.size, 0, none⟩ = some (.slice none 0 0) ∧ y.heap.size < z.heap.size := by rw [hz]; simp [go_sem]
   replace GU := Good.up GU gg
   rw [← hz]
   clear hz gg hHeld
   generalize y.heap.size = bD at *
   refine lstH (l' := #[true, true, true, true, true, true, true, true, true, true, false, false, true, true, true, false, true, false, false, false, false, false, false, false]) (by kernel_rfl) ?_
   have F := And.intro GU P4
   clear GU P4
   revert F
   revert bD
   revert bB
   revert c1
   revert m1
   revert p1
   revert bA
   revert z
   exact t2_3_6_7_14_16_.out
   )
   )
   focus (
   intro y bA p1 m1 c1 bB bC bD F
   obtain ⟨GU, P3, P4⟩ := F
   have hHeld := HC.out _ GU
   clear hHeld
   refine wpAnyH_ready (rs := [11, 16]) (by kernel_rfl) (by simp) ?_
   refine AllReadyH.cons rfl (fun K hK => ?_) (AllReadyH.cons rfl (fun K hK => ?_) AllReadyH.nil)
   focus (
   rw [if_pos]
   rotate_left
   · kernel_rfl
   have HCall := hideIt (HCn.out _ bC GU P3)
   go_wp2_with (go_at_call 64; refine HCall.out.mono ?_; rintro e z ⟨p3, m3, c3, rfl, gg⟩; refine Hid.out ?_)
   refine hidp ?_
   refine hK.out _ _ (HC.out _ (Good.up GU gg)) (fun hHeld => ?_)
   clear hK K HCall
   try simp only [List.setIfInBounds_toArray, List.set_cons_zero, List.set_cons_succ]
   replace GU := Good.up GU gg
   replace P4 := keepQ P4 gg
   clear gg P3
   clear hHeld
   refine lstH (l' := #[true, true, true, true, true, true, true, true, true, true, true, true, true, true, true, false, false, false, false, false, false, false, false, false]) (by kernel_rfl) ?_
   have F := And.intro GU P4
   clear GU P4
   revert F
   revert bD
   revert c3
   revert m3
   revert p3
   revert bC
   revert bB
   revert c1
   revert m1
   revert p1
   revert bA
   revert z
   exact t2_3_6_7_10_11_14_.out
   )
   focus (
   go_simp
   refine hK.out _ _ (HC.out _ GU) (fun hHeld => ?_)
   clear hK K
   try simp only [List.setIfInBounds_toArray, List.set_cons_zero, List.set_cons_succ]
   clear hHeld
   refine lstH (l' := #[true, true, true, true, true, true, true, true, true, true, true, false, true, true, true, false, true, false, false, false, false, false, false, false]) (by kernel_rfl) ?_
   have F := And.intro GU (And.intro P3 P4)
   clear GU P3 P4
   revert F
   revert bD
   revert bC
   revert bB
   revert c1
   revert m1
   revert p1
   revert bA
   revert y
   exact t2_3_6_7_10_14_16_.out
   )
   )
   focus (
   intro y bA p1 m1 c1 bB bC p3 m3 c3 F
   have GU := F
   clear F
   have hHeld := HC.out _ GU
   clear hHeld
   refine wpAnyH_ready (rs := [14, 16]) (by kernel_rfl) (by simp) ?_
   refine AllReadyH.cons rfl (fun K hK => ?_) (AllReadyH.cons rfl (fun K hK => ?_) AllReadyH.nil)
   focus (
   go_simp
   refine hK.out _ _ (HC.out _ (GU.alloc _)) (fun hHeld => ?_)
   clear hK K
   try simp only [List.setIfInBounds_toArray, List.set_cons_zero, List.set_cons_succ]
   obtain ⟨z, hz⟩ : ∃ z, z = y.alloc (.cells #[.slice none 0 0] 35) := ⟨_, rfl⟩
   have gg : Below y.heap.size y z := by rw [hz]; exact (Below.refl _ _).alloc (Nat.le_refl _) _
   have P4 : z.cell? ⟨y.heap.size, 0, none⟩ = some (.slice none 0 0) ∧ y.heap.size < z.heap.size := by rw [hz]; simp [go_sem]
   replace GU := Good.up GU gg
   rw [← hz]
   clear hz gg hHeld
   generalize y.heap.size = bD at *
   refine lstH (l' := #[true, true, true, true, true, true, true, true, true, true, true, true, true, true, true, false, false, false, false, false, false, false, false, false]) (by kernel_rfl) ?_
   have F := And.intro GU P4
   clear GU P4
   revert F
   revert bD
   revert c3
   revert m3
   revert p3
   revert bC
   revert bB
   revert c1
   revert m1
   revert p1
   revert bA
   revert z
   exact t2_3_6_7_10_11_14_.out
   )
   focus (
   go_simp
   refine hK.out _ _ (HC.out _ GU) (fun hHeld => ?_)
   clear hK K
   try simp only [List.setIfInBounds_toArray, List.set_cons_zero, List.set_cons_succ]
   clear hHeld
   refine lstH (l' := #[true, true, true, true, true, true, true, true, true, true, true, true, true, true, false, false, true, false, false, false, false, false, false, false]) (by kernel_rfl) ?_
   have F := GU
   clear GU
   revert F
   revert c3
   revert m3
   revert p3
   revert bC
   revert bB
   revert c1
   revert m1
   revert p1
   revert bA
   revert y
   exact t2_3_6_7_10_11_16_.out
   )
   )
   focus (
   intro y bA p1 m1 c1 bB bC bD F
   obtain ⟨GU, P2, P3, P4⟩ := F
   have hHeld := HC.out _ GU
   clear hHeld
   refine wpAnyH_ready (rs := [7]) (by kernel_rfl) (by simp) ?_
   refine AllReadyH.cons rfl (fun K hK => ?_) AllReadyH.nil
   focus (
   rw [if_pos]
   rotate_left
   · kernel_rfl
   have HCall := hideIt (HCe.out _ bB GU P2)
   go_wp2_with (go_at_call 65; refine HCall.out.mono ?_; rintro e z ⟨rfl, gg⟩; refine Hid.out ?_)
   refine hidp ?_
   refine hK.out _ _ (HC.out _ (Good.up GU gg)) (fun hHeld => ?_)
   clear hK K HCall
   try simp only [List.setIfInBounds_toArray, List.set_cons_zero, List.set_cons_succ]
   replace GU := Good.up GU gg
   replace P3 := keepQ P3 gg
   replace P4 := keepQ P4 gg
   clear gg P2
   clear hHeld
   refine lstH (l' := #[true, true, true, true, true, true, true, true, true, true, true, false, true, true, true, false, true, false, false, false, false, false, false, false]) (by kernel_rfl) ?_
   have F := And.intro GU (And.intro P3 P4)
   clear GU P3 P4
   revert F
   revert bD
   revert bC
   revert bB
   revert c1
   revert m1
   revert p1
   revert bA
   revert z
   exact t2_3_6_7_10_14_16_.out
   )
   )
   focus (
   intro y bA p1 m1 c1 bB bD F
   obtain ⟨GU, P4⟩ := F
   have hHeld := HC.out _ GU
   clear hHeld
   refine wpAnyH_ready (rs := [10]) (by kernel_rfl) (by simp) ?_
   refine AllReadyH.cons rfl (fun K hK => ?_) AllReadyH.nil
   focus (
   go_simp
   refine hK.out _ _ (HC.out _ (GU.alloc _)) (fun hHeld => ?_)
   clear hK K
   try simp only [List.setIfInBounds_toArray, List.set_cons_zero, List.set_cons_succ]
   obtain ⟨z, hz⟩ : ∃ z, z = y.alloc (.cells #[.slice aN sh sh] 26) := ⟨_, rfl⟩
   have gg : Below y.heap.size y z := by rw [hz]; exact (Below.refl _ _).alloc (Nat.le_refl _) _
   have P3 : z.cell? ⟨y.heap.size, 0, none⟩ = some (.slice aN sh sh) ∧ y.heap.size < z.heap.size := by rw [hz]; simp [go_sem]
   replace GU := Good.up GU gg
   replace P4 := keepQ P4 gg
   rw [← hz]
   clear hz gg hHeld
   generalize y.heap.size = bC at *
   refine lstH (l' := #[true, true, true, true, true, true, true, true, true, true, true, false, true, true, true, false, true, false, false, false, false, false, false, false]) (by kernel_rfl) ?_
   have F := And.intro GU (And.intro P3 P4)
   clear GU P3 P4
   revert F
   revert bD
   revert bC
   revert bB
   revert c1
   revert m1
   revert p1
   revert bA
   revert z
   exact t2_3_6_7_10_14_16_.out
   )
   )
   focus (
   intro y bA p1 m1 c1 bB bC F
   obtain ⟨GU, P3⟩ := F
   have hHeld := HC.out _ GU
   clear hHeld
   refine wpAnyH_ready (rs := [11, 14]) (by kernel_rfl) (by simp) ?_
   refine AllReadyH.cons rfl (fun K hK => ?_) (AllReadyH.cons rfl (fun K hK => ?_) AllReadyH.nil)
   focus (
   rw [if_pos]
   rotate_left
   · kernel_rfl
   have HCall := hideIt (HCn.out _ bC GU P3)
   go_wp2_with (go_at_call 64; refine HCall.out.mono ?_; rintro e z ⟨p3, m3, c3, rfl, gg⟩; refine Hid.out ?_)
   refine hidp ?_
   refine hK.out _ _ (HC.out _ (Good.up GU gg)) (fun hHeld => ?_)
   clear hK K HCall
   try simp only [List.setIfInBounds_toArray, List.set_cons_zero, List.set_cons_succ]
   replace GU := Good.up GU gg
   clear gg P3
   clear hHeld
   refine lstH (l' := #[true, true, true, true, true, true, true, true, true, true, true, true, true, true, false, false, true, false, false, false, false, false, false, false]) (by kernel_rfl) ?_
   have F := GU
   clear GU
   revert F
   revert c3
   revert m3
   revert p3
   revert bC
   revert bB
   revert c1
   revert m1
   revert p1
   revert bA
   revert z
   exact t2_3_6_7_10_11_16_.out
   )
   focus (
   go_simp
   refine hK.out _ _ (HC.out _ (GU.alloc _)) (fun hHeld => ?_)
   clear hK K
   try simp only [List.setIfInBounds_toArray, List.set_cons_zero, List.set_cons_succ]
   obtain ⟨z, hz⟩ : ∃ z, z = y.alloc (.cells #[.slice none 0 0] 35) := ⟨_, rfl⟩
   have gg : Below y.heap.size y z := by rw [hz]; exact (Below.refl _ _).alloc (Nat.le_refl _) _
   have P4 : z.cell? ⟨y.heap.size, 0, none⟩ = some (.slice none 0 0) ∧ y.heap.size < z.heap.size := by rw [hz]; simp [go_sem]
   replace GU := Good.up GU gg
   replace P3 := keepQ P3 gg
   rw [← hz]
   clear hz gg hHeld
   generalize y.heap.size = bD at *
   refine lstH (l' := #[true, true, true, true, true, true, true, true, true, true, true, false, true, true, true, false, true, false, false, false, false, false, false, false]) (by kernel_rfl) ?_
   have F := And.intro GU (And.intro P3 P4)
   clear GU P3 P4
   revert F
   revert bD
   revert bC
   revert bB
   revert c1
   revert m1
   revert p1
   revert bA
   revert z
   exact t2_3_6_7_10_14_16_.out
   )
   )
   focus (
   intro y bA p1 m1 c1 bB bC p3 m3 c3 bD F
   obtain ⟨GU, P4⟩ := F
   have hHeld := HC.out _ GU
   clear hHeld
   refine wpAnyH_ready (rs := [15, 16]) (by kernel_rfl) (by simp) ?_
   refine AllReadyH.cons rfl (fun K hK => ?_) (AllReadyH.cons rfl (fun K hK => ?_) AllReadyH.nil)
   focus (
   rw [if_pos]
   rotate_left
   · kernel_rfl
   have HCall := hideIt (HCs.out _ bD GU P4)
   go_wp2_with (go_at_call 66; refine HCall.out.mono ?_; rintro e z ⟨rfl, gg⟩; refine Hid.out ?_)
   refine hidp ?_
   refine hK.out _ _ (HC.out _ (Good.up GU gg)) (fun hHeld => ?_)
   clear hK K HCall
   try simp only [List.setIfInBounds_toArray, List.set_cons_zero, List.set_cons_succ]
   replace GU := Good.up GU gg
   clear gg P4
   clear hHeld
   refine lstH (l' := #[true, true, true, true, true, true, true, true, true, true, true, true, true, true, true, true, false, false, false, false, false, false, false, false]) (by kernel_rfl) ?_
   have F := GU
   clear GU
   revert F
   revert bD
   revert c3
   revert m3
   revert p3
   revert bC
   revert bB
   revert c1
   revert m1
   revert p1
   revert bA
   revert z
   exact t2_3_6_7_10_11_14_15_.out
   )
   focus (
   go_simp
   refine hK.out _ _ (HC.out _ GU) (fun hHeld => ?_)
   clear hK K
   try simp only [List.setIfInBounds_toArray, List.set_cons_zero, List.set_cons_succ]
   clear hHeld
   refine lstH (l' := #[true, true, true, true, true, true, true, true, true, true, true, true, true, true, true, false, true, false, false, false, false, false, false, false]) (by kernel_rfl) ?_
   have F := And.intro GU P4
   clear GU P4
   revert F
   revert bD
   revert c3
   revert m3
   revert p3
   revert bC
   revert bB
   revert c1
   revert m1
   revert p1
   revert bA
   revert y
   exact t2_3_6_7_10_11_14_16_.out
   )
   )
   focus (
   intro y bA p1 m1 c1 bB bC bD F
   obtain ⟨GU, P3, P4⟩ := F
   have hHeld := HC.out _ GU
   clear hHeld
   refine wpAnyH_ready (rs := [11]) (by kernel_rfl) (by simp) ?_
   refine AllReadyH.cons rfl (fun K hK => ?_) AllReadyH.nil
   focus (
   rw [if_pos]
   rotate_left
   · kernel_rfl
   have HCall := hideIt (HCn.out _ bC GU P3)
   go_wp2_with (go_at_call 64; refine HCall.out.mono ?_; rintro e z ⟨p3, m3, c3, rfl, gg⟩; refine Hid.out ?_)
   refine hidp ?_
   refine hK.out _ _ (HC.out _ (Good.up GU gg)) (fun hHeld => ?_)
   clear hK K HCall
   try simp only [List.setIfInBounds_toArray, List.set_cons_zero, List.set_cons_succ]
   replace GU := Good.up GU gg
   replace P4 := keepQ P4 gg
   clear gg P3
   clear hHeld
   refine lstH (l' := #[true, true, true, true, true, true, true, true, true, true, true, true, true, true, true, false, true, false, false, false, false, false, false, false]) (by kernel_rfl) ?_
   have F := And.intro GU P4
   clear GU P4
   revert F
   revert bD
   revert c3
   revert m3
   revert p3
   revert bC
   revert bB
   revert c1
   revert m1
   revert p1
   revert bA
   revert z
   exact t2_3_6_7_10_11_14_16_.out
   )
   )
   focus (
   intro y bA p1 m1 c1 bB bC p3 m3 c3 F
   have GU := F
   clear F
   have hHeld := HC.out _ GU
   clear hHeld
   refine wpAnyH_ready (rs := [14]) (by kernel_rfl) (by simp) ?_
   refine AllReadyH.cons rfl (fun K hK => ?_) AllReadyH.nil
   focus (
   go_simp
   refine hK.out _ _ (HC.out _ (GU.alloc _)) (fun hHeld => ?_)
   clear hK K
   try simp only [List.setIfInBounds_toArray, List.set_cons_zero, List.set_cons_succ]
   obtain ⟨z, hz⟩ : ∃ z, z = y.alloc (.cells #[.slice none 0 0] 35) := ⟨_, rfl⟩
   have gg : Below y.heap.size y z := by rw [hz]; exact (Below.refl _ _).alloc (Nat.le_refl _) _
   have P4 : z.cell? ⟨y.heap.size, 0, none⟩ = some (.slice none 0 0) ∧ y.heap.size < z.heap.size := by rw [hz]; simp [go_sem]
   replace GU := Good.up GU gg
   rw [← hz]
   clear hz gg hHeld
   generalize y.heap.size = bD at *
   refine lstH (l' := #[true, true, true, true, true, true, true, true, true, true, true, true, true, true, true, false, true, false, false, false, false, false, false, false]) (by kernel_rfl) ?_
   have F := And.intro GU P4
   clear GU P4
   revert F
   revert bD
   revert c3
   revert m3
   revert p3
   revert bC
   revert bB
   revert c1
   revert m1
   revert p1
   revert bA
   revert z
   exact t2_3_6_7_10_11_14_16_.out
   )
   )
   focus (
   intro y bA p1 m1 c1 bB bC p3 m3 c3 bD F
   have GU := F
   clear F
   have hHeld := HC.out _ GU
   clear hHeld
   refine wpAnyH_ready (rs := [16]) (by kernel_rfl) (by simp) ?_
   refine AllReadyH.cons rfl (fun K hK => ?_) AllReadyH.nil
   focus (
   go_simp
   refine hK.out _ _ (HC.out _ GU) (fun hHeld => ?_)
   clear hK K
   try simp only [List.setIfInBounds_toArray, List.set_cons_zero, List.set_cons_succ]
   clear hHeld
   refine lstH (l' := #[true, true, true, true, true, true, true, true, true, true, true, true, true, true, true, true, true, false, false, false, false, false, false, false]) (by kernel_rfl) ?_
   have F := GU
   clear GU
   revert F
   revert bD
   revert c3
   revert m3
   revert p3
   revert bC
   revert bB
   revert c1
   revert m1
   revert p1
   revert bA
   revert y
   exact t2_3_6_7_10_11_14_15_16_.out
   )
   )
   focus (
   intro y bA p1 m1 c1 bB bC p3 m3 c3 bD F
   obtain ⟨GU, P4⟩ := F
   have hHeld := HC.out _ GU
   clear hHeld
   refine wpAnyH_ready (rs := [15]) (by kernel_rfl) (by simp) ?_
   refine AllReadyH.cons rfl (fun K hK => ?_) AllReadyH.nil
   focus (
   rw [if_pos]
   rotate_left
   · kernel_rfl
   have HCall := hideIt (HCs.out _ bD GU P4)
   go_wp2_with (go_at_call 66; refine HCall.out.mono ?_; rintro e z ⟨rfl, gg⟩; refine Hid.out ?_)
   refine hidp ?_
   refine hK.out _ _ (HC.out _ (Good.up GU gg)) (fun hHeld => ?_)
   clear hK K HCall
   try simp only [List.setIfInBounds_toArray, List.set_cons_zero, List.set_cons_succ]
   replace GU := Good.up GU gg
   clear gg P4
   clear hHeld
   refine lstH (l' := #[true, true, true, true, true, true, true, true, true, true, true, true, true, true, true, true, true, false, false, false, false, false, false, false]) (by kernel_rfl) ?_
   have F := GU
   clear GU
   revert F
   revert bD
   revert c3
   revert m3
   revert p3
   revert bC
   revert bB
   revert c1
   revert m1
   revert p1
   revert bA
   revert z
   exact t2_3_6_7_10_11_14_15_16_.out
   )
   )
   focus (
   intro y bA p1 m1 c1 bB bC p3 m3 c3 bD F
   have GU := F
   clear F
   have hHeld := HC.out _ GU
   have BC0 := BR2.out _ GU
   have BH0 := BR0.out _ GU
   have BZ0 := BR1.out _ GU
   have GW0 : Below w.heap.size w y := Below.trans HG2.out (Below.mono GU HG2.out.size)
   have lz0 : w.heap.size + 1 + 1 < y.heap.size := Nat.lt_of_lt_of_le HLt.out GU.size
   have q0 := BC0.cell 1 rfl
   have fq0 := BC0.frozen 1
   refine wpAnyH_ready (rs := [17]) (by kernel_rfl) (by simp) ?_
   refine AllReadyH.cons rfl (fun K hK => ?_) AllReadyH.nil
   go_simp
   have HF := hideIt (HSt.out y 1 (.slice p1 m1 c1) hHeld)
   obtain ⟨x0, hx0⟩ : ∃ x, x = y.setCell ⟨w.heap.size + 1 + 1, 1, none⟩ (.slice p1 m1 c1) := ⟨_, rfl⟩
   have BC1 : BxA x0 (w.heap.size + 1 + 1) 37 #[.int .i64 (nn : Int), .slice p1 m1 c1, .slice none 0 0, .slice aL sh cL, .slice aN sh sh, .int .i64 0, .int .i64 0, .int .i64 0, .int .i64 0, .int .i64 0, .int .i64 0, .int .i64 0, .slice none 0 0, .int .i64 0, .slice none 0 0] := by rw [hx0]; exact BC0.set 1 (.slice p1 m1 c1)
   have BH1 : BxA x0 w.heap.size 37 #[.int .i64 (nn : Int), .slice aO nn cO, .slice none 0 0, .slice aL sh cL, .slice aN sh sh, .int .i64 0, .int .i64 0, .int .i64 0, .int .i64 0, .int .i64 0, .int .i64 0, .int .i64 0, .slice none 0 0, .int .i64 0, .slice none 0 0] := by rw [hx0]; exact BH0.setO (.slice p1 m1 c1) (by omega)
   have BZ1 : BxA x0 (w.heap.size + 1) 37 (hnC 0 none 0 0 none 0 0 none 0) := by rw [hx0]; exact BZ0.setO (.slice p1 m1 c1) (by omega)
   have GW1 : Below w.heap.size w x0 := by rw [hx0]; exact Below.setCell GW0 (p := ⟨w.heap.size + 1 + 1, 1, none⟩) (by show _ ≤ w.heap.size + 1 + 1; omega) (.slice p1 m1 c1)
   have lz1 : w.heap.size + 1 + 1 < x0.heap.size := by rw [hx0]; simpa using lz0
   refine hK.out _ _ HF.out (fun hHeld => ?_)
   clear hK K
   try simp only [List.setIfInBounds_toArray, List.set_cons_zero, List.set_cons_succ]
   rw [← hx0] at hHeld ⊢
   clear HF hx0 q0 fq0 BC0 BH0 BZ0 GW0 lz0
   refine wpAnyH_ready (rs := [18]) (by kernel_rfl) (by simp) ?_
   refine AllReadyH.cons rfl (fun K hK => ?_) AllReadyH.nil
   go_simp
   refine hK.out _ _ hHeld (fun hHeld => ?_)
   clear hK K
   try simp only [List.setIfInBounds_toArray, List.set_cons_zero, List.set_cons_succ]
   have q1 := BC1.cell 2 rfl
   have fq1 := BC1.frozen 2
   refine wpAnyH_ready (rs := [19]) (by kernel_rfl) (by simp) ?_
   refine AllReadyH.cons rfl (fun K hK => ?_) AllReadyH.nil
   go_simp
   have HF := hideIt (HSt.out x0 2 (.slice none 0 0) hHeld)
   obtain ⟨x1, hx1⟩ : ∃ x, x = x0.setCell ⟨w.heap.size + 1 + 1, 2, none⟩ (.slice none 0 0) := ⟨_, rfl⟩
   have BC2 : BxA x1 (w.heap.size + 1 + 1) 37 #[.int .i64 (nn : Int), .slice p1 m1 c1, .slice none 0 0, .slice aL sh cL, .slice aN sh sh, .int .i64 0, .int .i64 0, .int .i64 0, .int .i64 0, .int .i64 0, .int .i64 0, .int .i64 0, .slice none 0 0, .int .i64 0, .slice none 0 0] := by rw [hx1]; exact BC1.set 2 (.slice none 0 0)
   have BH2 : BxA x1 w.heap.size 37 #[.int .i64 (nn : Int), .slice aO nn cO, .slice none 0 0, .slice aL sh cL, .slice aN sh sh, .int .i64 0, .int .i64 0, .int .i64 0, .int .i64 0, .int .i64 0, .int .i64 0, .int .i64 0, .slice none 0 0, .int .i64 0, .slice none 0 0] := by rw [hx1]; exact BH1.setO (.slice none 0 0) (by omega)
   have BZ2 : BxA x1 (w.heap.size + 1) 37 (hnC 0 none 0 0 none 0 0 none 0) := by rw [hx1]; exact BZ1.setO (.slice none 0 0) (by omega)
   have GW2 : Below w.heap.size w x1 := by rw [hx1]; exact Below.setCell GW1 (p := ⟨w.heap.size + 1 + 1, 2, none⟩) (by show _ ≤ w.heap.size + 1 + 1; omega) (.slice none 0 0)
   have lz2 : w.heap.size + 1 + 1 < x1.heap.size := by rw [hx1]; simpa using lz1
   refine hK.out _ _ HF.out (fun hHeld => ?_)
   clear hK K
   try simp only [List.setIfInBounds_toArray, List.set_cons_zero, List.set_cons_succ]
   rw [← hx1] at hHeld ⊢
   clear HF hx1 q1 fq1 BC1 BH1 BZ1 GW1 lz1
   refine wpAnyH_ready (rs := [20]) (by kernel_rfl) (by simp) ?_
   refine AllReadyH.cons rfl (fun K hK => ?_) AllReadyH.nil
   go_simp
   refine hK.out _ _ hHeld (fun hHeld => ?_)
   clear hK K
   try simp only [List.setIfInBounds_toArray, List.set_cons_zero, List.set_cons_succ]
   have q2 := BC2.cell 4 rfl
   have fq2 := BC2.frozen 4
   refine wpAnyH_ready (rs := [21]) (by kernel_rfl) (by simp) ?_
   refine AllReadyH.cons rfl (fun K hK => ?_) AllReadyH.nil
   go_simp
   have HF := hideIt (HSt.out x1 4 (.slice p3 m3 c3) hHeld)
   obtain ⟨x2, hx2⟩ : ∃ x, x = x1.setCell ⟨w.heap.size + 1 + 1, 4, none⟩ (.slice p3 m3 c3) := ⟨_, rfl⟩
   have BC3 : BxA x2 (w.heap.size + 1 + 1) 37 #[.int .i64 (nn : Int), .slice p1 m1 c1, .slice none 0 0, .slice aL sh cL, .slice p3 m3 c3, .int .i64 0, .int .i64 0, .int .i64 0, .int .i64 0, .int .i64 0, .int .i64 0, .int .i64 0, .slice none 0 0, .int .i64 0, .slice none 0 0] := by rw [hx2]; exact BC2.set 4 (.slice p3 m3 c3)
   have BH3 : BxA x2 w.heap.size 37 #[.int .i64 (nn : Int), .slice aO nn cO, .slice none 0 0, .slice aL sh cL, .slice aN sh sh, .int .i64 0, .int .i64 0, .int .i64 0, .int .i64 0, .int .i64 0, .int .i64 0, .int .i64 0, .slice none 0 0, .int .i64 0, .slice none 0 0] := by rw [hx2]; exact BH2.setO (.slice p3 m3 c3) (by omega)
   have BZ3 : BxA x2 (w.heap.size + 1) 37 (hnC 0 none 0 0 none 0 0 none 0) := by rw [hx2]; exact BZ2.setO (.slice p3 m3 c3) (by omega)
   have GW3 : Below w.heap.size w x2 := by rw [hx2]; exact Below.setCell GW2 (p := ⟨w.heap.size + 1 + 1, 4, none⟩) (by show _ ≤ w.heap.size + 1 + 1; omega) (.slice p3 m3 c3)
   have lz3 : w.heap.size + 1 + 1 < x2.heap.size := by rw [hx2]; simpa using lz2
   refine hK.out _ _ HF.out (fun hHeld => ?_)
   clear hK K
   try simp only [List.setIfInBounds_toArray, List.set_cons_zero, List.set_cons_succ]
   rw [← hx2] at hHeld ⊢
   clear HF hx2 q2 fq2 BC2 BH2 BZ2 GW2 lz2
   refine wpAnyH_ready (rs := [22]) (by kernel_rfl) (by simp) ?_
   refine AllReadyH.cons rfl (fun K hK => ?_) AllReadyH.nil
   go_simp
   refine hK.out _ _ hHeld (fun hHeld => ?_)
   clear hK K
   try simp only [List.setIfInBounds_toArray, List.set_cons_zero, List.set_cons_succ]
   have q3 := BC3.cell 14 rfl
   have fq3 := BC3.frozen 14
   refine wpAnyH_ready (rs := [23]) (by kernel_rfl) (by simp) ?_
   refine AllReadyH.cons rfl (fun K hK => ?_) AllReadyH.nil
   go_simp
   have HF := hideIt (HSt.out x2 14 (.slice none 0 0) hHeld)
   obtain ⟨x3, hx3⟩ : ∃ x, x = x2.setCell ⟨w.heap.size + 1 + 1, 14, none⟩ (.slice none 0 0) := ⟨_, rfl⟩
   have BC4 : BxA x3 (w.heap.size + 1 + 1) 37 #[.int .i64 (nn : Int), .slice p1 m1 c1, .slice none 0 0, .slice aL sh cL, .slice p3 m3 c3, .int .i64 0, .int .i64 0, .int .i64 0, .int .i64 0, .int .i64 0, .int .i64 0, .int .i64 0, .slice none 0 0, .int .i64 0, .slice none 0 0] := by rw [hx3]; exact BC3.set 14 (.slice none 0 0)
   have BH4 : BxA x3 w.heap.size 37 #[.int .i64 (nn : Int), .slice aO nn cO, .slice none 0 0, .slice aL sh cL, .slice aN sh sh, .int .i64 0, .int .i64 0, .int .i64 0, .int .i64 0, .int .i64 0, .int .i64 0, .int .i64 0, .slice none 0 0, .int .i64 0, .slice none 0 0] := by rw [hx3]; exact BH3.setO (.slice none 0 0) (by omega)
   have BZ4 : BxA x3 (w.heap.size + 1) 37 (hnC 0 none 0 0 none 0 0 none 0) := by rw [hx3]; exact BZ3.setO (.slice none 0 0) (by omega)
   have GW4 : Below w.heap.size w x3 := by rw [hx3]; exact Below.setCell GW3 (p := ⟨w.heap.size + 1 + 1, 14, none⟩) (by show _ ≤ w.heap.size + 1 + 1; omega) (.slice none 0 0)
   have lz4 : w.heap.size + 1 + 1 < x3.heap.size := by rw [hx3]; simpa using lz3
   refine hK.out _ _ HF.out (fun hHeld => ?_)
   clear hK K
   try simp only [List.setIfInBounds_toArray, List.set_cons_zero, List.set_cons_succ]
   rw [← hx3] at hHeld ⊢
   clear HF hx3 q3 fq3 BC3 BH3 BZ3 GW3 lz3
   clear hHeld GU
   refine wpAnyH_done (by kernel_rfl) ?_ _
   have HBC := hideIt BC4
   have HBH := hideIt BH4
   have HBZ := hideIt BZ4
   have HGW := hideIt GW4
   have h3 := BH4.cell 3 rfl
   have h12 := BH4.cell 12 rfl
   have d12 := BC4.cell 12 rfl
   have e12 := BC4.frozen 12
   have d3 := BC4.cell 3 rfl
   have e3 := BC4.frozen 3
   clear BC4 BH4 BZ4 GW4
   go_wp2_with (go_at_call 65; refine (conE_nil _ _ (by simp [go_sem])).mono ?_; rintro e z ⟨rfl, rfl⟩; refine Hid.out ?_)
   refine hidp ?_
   go_upto_region 4 with fail
   obtain ⟨u3, hu3⟩ : ∃ u3, u3 = x3.setCell ⟨w.heap.size + 1 + 1, 12, none⟩ (.slice none 0 0) := ⟨_, rfl⟩
   rw [← hu3]
   have C3 : BxA u3 (w.heap.size + 1 + 1) 37 #[.int .i64 (nn : Int), .slice p1 m1 c1, .slice none 0 0, .slice aL sh cL, .slice p3 m3 c3, .int .i64 0, .int .i64 0, .int .i64 0, .int .i64 0, .int .i64 0, .int .i64 0, .int .i64 0, .slice none 0 0, .int .i64 0, .slice none 0 0] := by rw [hu3]; exact HBC.out.same 12 rfl
   have D3 : BxA u3 w.heap.size 37 #[.int .i64 (nn : Int), .slice aO nn cO, .slice none 0 0, .slice aL sh cL, .slice aN sh sh, .int .i64 0, .int .i64 0, .int .i64 0, .int .i64 0, .int .i64 0, .int .i64 0, .int .i64 0, .slice none 0 0, .int .i64 0, .slice none 0 0] := by rw [hu3]; exact HBH.out.setO _ (by omega)
   have E3 : BxA u3 (w.heap.size + 1) 37 (hnC 0 none 0 0 none 0 0 none 0) := by rw [hu3]; exact HBZ.out.setO _ (by omega)
   have F3 : Below w.heap.size w u3 := by rw [hu3]; exact Below.setCell HGW.out (p := ⟨w.heap.size + 1 + 1, 12, none⟩) (by show _ ≤ w.heap.size + 1 + 1; omega) _
   have L3 : w.heap.size + 1 + 1 < u3.heap.size := C3.lt
   obtain ⟨u4, hu4⟩ : ∃ u4, u4 = u3.alloc (.cells #[.slice none 0 0] 27) := ⟨_, rfl⟩
   rw [← hu4]
   have C4 : BxA u4 (w.heap.size + 1 + 1) 37 #[.int .i64 (nn : Int), .slice p1 m1 c1, .slice none 0 0, .slice aL sh cL, .slice p3 m3 c3, .int .i64 0, .int .i64 0, .int .i64 0, .int .i64 0, .int .i64 0, .int .i64 0, .int .i64 0, .slice none 0 0, .int .i64 0, .slice none 0 0] := by rw [hu4]; exact C3.up (belA _ _)
   have D4 : BxA u4 w.heap.size 37 #[.int .i64 (nn : Int), .slice aO nn cO, .slice none 0 0, .slice aL sh cL, .slice aN sh sh, .int .i64 0, .int .i64 0, .int .i64 0, .int .i64 0, .int .i64 0, .int .i64 0, .int .i64 0, .slice none 0 0, .int .i64 0, .slice none 0 0] := by rw [hu4]; exact D3.up (belA _ _)
   have E4 : BxA u4 (w.heap.size + 1) 37 (hnC 0 none 0 0 none 0 0 none 0) := by rw [hu4]; exact E3.up (belA _ _)
   have F4 : Below w.heap.size w u4 := by rw [hu4]; exact F3.alloc F3.size _
   have L4 : w.heap.size + 1 + 1 < u4.heap.size := C4.lt
   clear hu3 hu4 C3 D3 E3 F3 L3 HBC HBH HBZ HGW h3 h12 d12 e12 d3 e3
   have h3 := D4.cell 3 rfl
   have d3 := C4.cell 3 rfl
   have e3 := C4.frozen 3
   have HC4 := hideIt C4
   have HD4 := hideIt D4
   have HE4 := hideIt E4
   have HF4 := hideIt F4
   clear C4 D4 E4 F4
   go_upto_region 5 with fail
   obtain ⟨u5, hu5⟩ : ∃ u5, u5 = u4.setCell ⟨w.heap.size + 1 + 1, 3, none⟩ (.slice (some ⟨u4.heap.size, 0, none⟩) sh sh) := ⟨_, rfl⟩
   rw [← hu5]
   have C5 : BxA u5 (w.heap.size + 1 + 1) 37 #[.int .i64 (nn : Int), .slice p1 m1 c1, .slice none 0 0, .slice (some ⟨u4.heap.size, 0, none⟩) sh sh, .slice p3 m3 c3, .int .i64 0, .int .i64 0, .int .i64 0, .int .i64 0, .int .i64 0, .int .i64 0, .int .i64 0, .slice none 0 0, .int .i64 0, .slice none 0 0] := by rw [hu5]; exact HC4.out.set 3 _
   have D5 : BxA u5 w.heap.size 37 #[.int .i64 (nn : Int), .slice aO nn cO, .slice none 0 0, .slice aL sh cL, .slice aN sh sh, .int .i64 0, .int .i64 0, .int .i64 0, .int .i64 0, .int .i64 0, .int .i64 0, .int .i64 0, .slice none 0 0, .int .i64 0, .slice none 0 0] := by rw [hu5]; exact HD4.out.setO _ (by omega)
   have E5 : BxA u5 (w.heap.size + 1) 37 (hnC 0 none 0 0 none 0 0 none 0) := by rw [hu5]; exact HE4.out.setO _ (by omega)
   have F5 : Below w.heap.size w u5 := by rw [hu5]; exact Below.setCell HF4.out (p := ⟨w.heap.size + 1 + 1, 3, none⟩) (by show _ ≤ w.heap.size + 1 + 1; omega) _
   have z5 : u5.heap.size = u4.heap.size := by rw [hu5]; simp
   obtain ⟨u6, hu6⟩ : ∃ u6, u6 = u5.alloc (.cells (madeCells #[.slice none 0 0] sh) 26) := ⟨_, rfl⟩
   rw [← hu6]
   have C6 : BxA u6 (w.heap.size + 1 + 1) 37 #[.int .i64 (nn : Int), .slice p1 m1 c1, .slice none 0 0, .slice (some ⟨u4.heap.size, 0, none⟩) sh sh, .slice p3 m3 c3, .int .i64 0, .int .i64 0, .int .i64 0, .int .i64 0, .int .i64 0, .int .i64 0, .int .i64 0, .slice none 0 0, .int .i64 0, .slice none 0 0] := by rw [hu6]; exact C5.up (belA _ _)
   have D6 : BxA u6 w.heap.size 37 #[.int .i64 (nn : Int), .slice aO nn cO, .slice none 0 0, .slice aL sh cL, .slice aN sh sh, .int .i64 0, .int .i64 0, .int .i64 0, .int .i64 0, .int .i64 0, .int .i64 0, .int .i64 0, .slice none 0 0, .int .i64 0, .slice none 0 0] := by rw [hu6]; exact D5.up (belA _ _)
   have E6 : BxA u6 (w.heap.size + 1) 37 (hnC 0 none 0 0 none 0 0 none 0) := by rw [hu6]; exact E5.up (belA _ _)
   have F6 : Below w.heap.size w u6 := by rw [hu6]; exact F5.alloc F5.size _
   have R6 : u6.ownsRow (w.heap.size + 3) 26 1 (.slice (some ⟨u4.heap.size, 0, none⟩) sh sh) sh (List.replicate sh (.slice none 0 0)) := by rw [hu6, ← z5]; exact made_row u5 (w.heap.size + 3) sh (by omega) (by have := HNw.out.h4; omega)
   obtain ⟨g, hg⟩ : ∃ g, g = u4.heap.size := ⟨_, rfl⟩
   rw [← hg] at C6 R6 ⊢
   have lg : w.heap.size + 1 + 1 < g := by omega
   have HL6 : Hid (HcS w nn sh aO cO aL cL aN p1 m1 c1 p3 m3 c3 g u6) := ⟨C6, D6, E6, F6, ⟨_, R6⟩⟩
   have HNn := hideIt (HNw.out.up F6)
   have l6 := D6.cell 3 rfl
   clear hu5 hu6 hg C5 D5 E5 F5 C6 D6 E6 F6 R6 z5 HC4 HD4 HE4 HF4 h3 d3 e3
   go_wp2
   go_loopw [44] (fun i wr => ∃ j : Nat, j ≤ sh ∧ i = .int .i64 (j : Int) ∧ Hid (HcS w nn sh aO cO aL cL aN p1 m1 c1 p3 m3 c3 g wr)) (fun i _ => sh - (intOf i).toNat)
   case atStart => exact ⟨0, by omega, rfl, HL6⟩
   case round =>
     obtain ⟨j, hj, rfl, hSt⟩ := hrel
     clear HL6 l6
     by_cases hlt : j < sh
     · have N := HNw.out.up hSt.out.f
       rcases N.l.2 with h0 | ⟨b, off, rfl, hbl, hcl⟩
       · omega
       have hat : (List.replicate sh (O.labs [] nn nn))[j]? = some (O.labs [] nn nn) := by rw [List.getElem?_replicate]; simp [hlt]
       obtain ⟨al, cl, cx, hIs, _⟩ := hcl j _ hat
       rw [O.labs_len] at cx hIs
       have hzl := is_nil hIs N.h1 cl
       have hn3 : nn ≤ 3000000 := by have := N.h2; omega
       have b1 : (0 : Int) ≤ (j : Int) := by omega
       have b2 : (j : Int) < (sh : Int) := by omega
       have HCl : Hid (∀ (u : World) (b : Nat), Below wr.heap.size wr u → u.cell? ⟨b, 0, none⟩ = some (.slice al nn cl) ∧ b < u.heap.size → Calls Try.prog 64 #[.slice (some ⟨b, 0, none⟩) 1 1] u fun e v => (∃ a m c, e = .returned (.slice a m c)) ∧ Below u.heap.size u v) := fun u b hu hc => (con1I _ al nn cl hn3 hzl b u (hIs.up hu) hc).mono fun e v ⟨a, m, c, h1, h2⟩ => ⟨⟨a, m, c, h1⟩, h2⟩
       have HSS : Hid (∀ u, Good wr u → u.cell? ⟨w.heap.size + 1 + 1, 3, none⟩ = some (.slice (some ⟨g, 0, none⟩) sh sh)) := fun u hu => (hSt.out.c.up hu).cell 3 rfl
       have hS0 := HSS.out _ (Below.refl wr.heap.size wr).drew
       have HRow : Hid (∀ u, Below wr.heap.size wr u → (∃ v, u.cell? ⟨g, j, none⟩ = some v) ∧ u.frozen? ⟨g, j, none⟩ = false) := fun u hu => by
         obtain ⟨xs, hr⟩ := hSt.out.r
         have hr2 := own_up hr hu
         have hl := hr2.1
         exact ⟨⟨_, by rw [hr2.cellAt j (by omega)]; exact List.getElem?_eq_getElem (by omega)⟩, hr2.frozenAt j⟩
       clear N hcl hat hIs hzl hn3
       go_upto_region 8 with fail
       (
       apply viaT
       intro t4_5_
       apply viaT
       intro t4_
       focus (
       refine wp_region_held_drew (S := (fun u => u.cell? ⟨w.heap.size + 1 + 1, 3, none⟩ = some (.slice (some ⟨g, 0, none⟩) sh sh))) (by kernel_rfl) hS0 (fun hHeld => ?_)
       refine wpAnyH_take (i := 0) (v := ?_) rfl (by kernel_rfl) (by kernel_rfl) (by kernel_rfl) (fun _ _ _ h => h) (Or.inl ⟨by rfl, ?_⟩) (by assumption) ?_
       rotate_left
       · intro w hSw; (try dsimp only at hSw); go_simp; try with_reducible rfl
       try simp only [Act.put, List.getElem_toArray, List.getElem_cons_zero, List.setIfInBounds_toArray, List.set_cons_zero, List.set_cons_succ]
       refine wpAnyH_take (i := 1) (v := ?_) rfl (by kernel_rfl) (by kernel_rfl) (by kernel_rfl) (fun _ _ _ h => h) (Or.inl ⟨by rfl, ?_⟩) (by assumption) ?_
       rotate_left
       · intro w hSw; (try dsimp only at hSw); go_simp; try with_reducible rfl
       try simp only [Act.put, List.getElem_toArray, List.getElem_cons_succ, List.getElem_cons_zero, List.setIfInBounds_toArray, List.set_cons_zero, List.set_cons_succ]
       refine wpAnyH_take (i := 2) (v := ?_) rfl (by kernel_rfl) (by kernel_rfl) (by kernel_rfl) (fun _ _ _ h => h) (Or.inl ⟨by rfl, ?_⟩) (by assumption) ?_
       rotate_left
       · intro w hSw; (try dsimp only at hSw); go_simp; try with_reducible rfl
       try simp only [Act.put, List.getElem_toArray, List.getElem_cons_succ, List.getElem_cons_zero, List.setIfInBounds_toArray, List.set_cons_zero, List.set_cons_succ]
       refine wpAnyH_take (i := 3) (v := ?_) rfl (by kernel_rfl) (by kernel_rfl) (by kernel_rfl) (fun _ _ _ h => h) (Or.inl ⟨by rfl, ?_⟩) (by assumption) ?_
       rotate_left
       · intro w hSw; (try dsimp only at hSw); go_simp; try with_reducible rfl
       try simp only [Act.put, List.getElem_toArray, List.getElem_cons_succ, List.getElem_cons_zero, List.setIfInBounds_toArray, List.set_cons_zero, List.set_cons_succ]
       obtain ⟨y, hy⟩ : ∃ y, y = wr.drew := ⟨_, rfl⟩
       have GU : Good wr y := by rw [hy]; exact (Good.refl _).drew
       rw [← hy]
       clear hy hHeld
       refine wpAnyH_ready (rs := [4]) (by kernel_rfl) (by simp) ?_
       refine AllReadyH.cons rfl (fun K hK => ?_) AllReadyH.nil
       focus (
       go_simp
       refine hK.out _ _ (HSS.out _ (GU.alloc _)) (fun hHeld => ?_)
       clear hK K
       try simp only [Act.put, List.getElem_toArray, List.getElem_cons_succ, List.getElem_cons_zero, List.setIfInBounds_toArray, List.set_cons_zero, List.set_cons_succ]
       obtain ⟨z, hz⟩ : ∃ z, z = y.alloc (.cells #[.slice al nn cl] 26) := ⟨_, rfl⟩
       have gg : Below y.heap.size y z := by rw [hz]; exact (Below.refl _ _).alloc (Nat.le_refl _) _
       have P5 : z.cell? ⟨y.heap.size, 0, none⟩ = some (.slice al nn cl) ∧ y.heap.size < z.heap.size := by rw [hz]; simp [go_sem]
       replace GU := Good.up GU gg
       rw [← hz]
       clear hz gg hHeld
       generalize y.heap.size = bE at *
       refine lstH (l' := #[true, true, true, true, true, false, false, false]) (by kernel_rfl) ?_
       have F := And.intro GU P5
       clear GU P5
       revert F
       revert bE
       revert z
       exact t4_.out
       )
       )
       focus (
       intro y bE F
       obtain ⟨GU, P5⟩ := F
       have hHeld := HSS.out _ GU
       clear hHeld
       refine wpAnyH_ready (rs := [5]) (by kernel_rfl) (by simp) ?_
       refine AllReadyH.cons rfl (fun K hK => ?_) AllReadyH.nil
       focus (
       rw [if_pos]
       rotate_left
       · kernel_rfl
       have HCall := hideIt (HCl.out _ bE GU P5)
       go_wp2_with (go_at_call 64; refine HCall.out.mono ?_; rintro e z ⟨⟨a5, m5, c5, rfl⟩, gg⟩; refine Hid.out ?_)
       refine hidp ?_
       refine hK.out _ _ (HSS.out _ (Good.up GU gg)) (fun hHeld => ?_)
       clear hK K HCall
       try simp only [List.setIfInBounds_toArray, List.set_cons_zero, List.set_cons_succ]
       replace GU := Good.up GU gg
       clear gg P5
       clear hHeld
       refine lstH (l' := #[true, true, true, true, true, true, false, false]) (by kernel_rfl) ?_
       have F := GU
       clear GU
       revert F
       revert c5
       revert m5
       revert a5
       revert bE
       revert z
       exact t4_5_.out
       )
       )
       focus (
       intro y bE a5 m5 c5 F
       have GU := F
       clear F
       have hHeld := HSS.out _ GU
       refine wpAnyH_ready (rs := [6]) (by kernel_rfl) (by simp) ?_
       refine AllReadyH.cons rfl (fun K hK => ?_) AllReadyH.nil
       go_simp
       refine hK.out _ _ hHeld (fun hHeld => ?_)
       clear hK K
       try simp only [List.setIfInBounds_toArray, List.set_cons_zero, List.set_cons_succ]
       obtain ⟨⟨vv, hv⟩, hf⟩ := HRow.out y GU
       refine wpAnyH_ready (rs := [7]) (by kernel_rfl) (by simp) ?_
       refine AllReadyH.cons rfl (fun K hK => ?_) AllReadyH.nil
       go_simp
       have HQ : Hid (HcS w nn sh (aO) cO (some ⟨b, off, none⟩) cL aN p1 m1 c1 p3 m3 c3 g (y.setCell ⟨g, j, none⟩ (.slice a5 m5 c5))) := by
         obtain ⟨xs, hr⟩ := hSt.out.r
         exact ⟨(hSt.out.c.up GU).setO _ (by omega), (hSt.out.d.up GU).setO _ (by omega), (hSt.out.e.up GU).setO _ (by omega), Below.setCell (hSt.out.f.trans (Below.mono GU hSt.out.f.size)) (p := ⟨g, j, none⟩) (by show w.heap.size ≤ g; omega) _, ⟨_, ((own_up hr GU).stored j (.slice a5 m5 c5)).1⟩⟩
       refine hK.out _ _ (HQ.out.c.cell 3 rfl) (fun hHeld => ?_)
       clear hK K
       try simp only [List.setIfInBounds_toArray, List.set_cons_zero, List.set_cons_succ]
       refine wpAnyH_done (by kernel_rfl) ?_ _
       clear hHeld hv hf GU
       go_wp2
       exact ⟨⟨j + 1, by omega, by go_num, HQ⟩, by simp [intOf]; omega⟩
       )
       )
     · obtain rfl : j = sh := by omega
       have d1 : decide ((j : Int) < (j : Int)) = false := by simp
       have XF := BxA.setA (l := [.int .i64 0, .slice none 0 0, .slice none 0 0, .slice none 0 0, .slice none 0 0, .int .i64 0, .int .i64 0, .int .i64 0, .int .i64 0, .int .i64 0, .int .i64 0, .int .i64 0, .slice none 0 0, .int .i64 0, .slice none 0 0]) hSt.out.e 0 [.int .i64 (nn : Int), .slice p1 m1 c1, .slice none 0 0, .slice (some ⟨g, 0, none⟩) j j, .slice p3 m3 c3, .int .i64 0, .int .i64 0, .int .i64 0, .int .i64 0, .int .i64 0, .int .i64 0, .int .i64 0, .slice none 0 0, .int .i64 0, .slice none 0 0]
       rw [setV_all [.int .i64 0, .slice none 0 0, .slice none 0 0, .slice none 0 0, .slice none 0 0, .int .i64 0, .int .i64 0, .int .i64 0, .int .i64 0, .int .i64 0, .int .i64 0, .int .i64 0, .slice none 0 0, .int .i64 0, .slice none 0 0] [.int .i64 (nn : Int), .slice p1 m1 c1, .slice none 0 0, .slice (some ⟨g, 0, none⟩) j j, .slice p3 m3 c3, .int .i64 0, .int .i64 0, .int .i64 0, .int .i64 0, .int .i64 0, .int .i64 0, .int .i64 0, .slice none 0 0, .int .i64 0, .slice none 0 0] rfl] at XF
       have HFn := hideIt (below_setA hSt.out.f (show w.heap.size ≤ w.heap.size + 1 by omega) 0 [.int .i64 (nn : Int), .slice p1 m1 c1, .slice none 0 0, .slice (some ⟨g, 0, none⟩) j j, .slice p3 m3 c3, .int .i64 0, .int .i64 0, .int .i64 0, .int .i64 0, .int .i64 0, .int .i64 0, .int .i64 0, .slice none 0 0, .int .i64 0, .slice none 0 0])
       dsimp only [setA] at XF HFn
       have k0 := hSt.out.c.cell 0 rfl
       have r0 := hSt.out.e.cell 0 rfl
       have zz0 := hSt.out.e.frozen 0
       have s0 := XF.at 0 rfl
       have k1 := hSt.out.c.cell 1 rfl
       have r1 := hSt.out.e.cell 1 rfl
       have zz1 := hSt.out.e.frozen 1
       have s1 := XF.at 1 rfl
       have k2 := hSt.out.c.cell 2 rfl
       have r2 := hSt.out.e.cell 2 rfl
       have zz2 := hSt.out.e.frozen 2
       have s2 := XF.at 2 rfl
       have k3 := hSt.out.c.cell 3 rfl
       have r3 := hSt.out.e.cell 3 rfl
       have zz3 := hSt.out.e.frozen 3
       have s3 := XF.at 3 rfl
       have k4 := hSt.out.c.cell 4 rfl
       have r4 := hSt.out.e.cell 4 rfl
       have zz4 := hSt.out.e.frozen 4
       have s4 := XF.at 4 rfl
       have k5 := hSt.out.c.cell 5 rfl
       have r5 := hSt.out.e.cell 5 rfl
       have zz5 := hSt.out.e.frozen 5
       have s5 := XF.at 5 rfl
       have k6 := hSt.out.c.cell 6 rfl
       have r6 := hSt.out.e.cell 6 rfl
       have zz6 := hSt.out.e.frozen 6
       have s6 := XF.at 6 rfl
       have k7 := hSt.out.c.cell 7 rfl
       have r7 := hSt.out.e.cell 7 rfl
       have zz7 := hSt.out.e.frozen 7
       have s7 := XF.at 7 rfl
       have k8 := hSt.out.c.cell 8 rfl
       have r8 := hSt.out.e.cell 8 rfl
       have zz8 := hSt.out.e.frozen 8
       have s8 := XF.at 8 rfl
       have k9 := hSt.out.c.cell 9 rfl
       have r9 := hSt.out.e.cell 9 rfl
       have zz9 := hSt.out.e.frozen 9
       have s9 := XF.at 9 rfl
       have k10 := hSt.out.c.cell 10 rfl
       have r10 := hSt.out.e.cell 10 rfl
       have zz10 := hSt.out.e.frozen 10
       have s10 := XF.at 10 rfl
       have k11 := hSt.out.c.cell 11 rfl
       have r11 := hSt.out.e.cell 11 rfl
       have zz11 := hSt.out.e.frozen 11
       have s11 := XF.at 11 rfl
       have k12 := hSt.out.c.cell 12 rfl
       have r12 := hSt.out.e.cell 12 rfl
       have zz12 := hSt.out.e.frozen 12
       have s12 := XF.at 12 rfl
       have k13 := hSt.out.c.cell 13 rfl
       have r13 := hSt.out.e.cell 13 rfl
       have zz13 := hSt.out.e.frozen 13
       have s13 := XF.at 13 rfl
       have k14 := hSt.out.c.cell 14 rfl
       have r14 := hSt.out.e.cell 14 rfl
       have zz14 := hSt.out.e.frozen 14
       have s14 := XF.at 14 rfl
       have HSx := hideIt (And.intro s0 (And.intro s1 (And.intro s2 (And.intro s3 (And.intro s4 (And.intro s5 (And.intro s6 (And.intro s7 (And.intro s8 (And.intro s9 (And.intro s10 (And.intro s11 (And.intro s12 (And.intro s13 s14))))))))))))))
       have lE := hSt.out.e.lt
       clear XF hSt s0 s1 s2 s3 s4 s5 s6 s7 s8 s9 s10 s11 s12 s13 s14
       go_wp2
       obtain ⟨s0, s1, s2, s3, s4, s5, s6, s7, s8, s9, s10, s11, s12, s13, s14⟩ := HSx.out
       exact bodyPost_ret (v := .agg #[.int .i64 (nn : Int), .slice p1 m1 c1, .slice none 0 0, .slice (some ⟨g, 0, none⟩) j j, .slice p3 m3 c3, .int .i64 0, .int .i64 0, .int .i64 0, .int .i64 0, .int .i64 0, .int .i64 0, .int .i64 0, .slice none 0 0, .int .i64 0, .slice none 0 0]) (by simp [results, Try.results26, go_sem, s0, s1, s2, s3, s4, s5, s6, s7, s8, s9, s10, s11, s12, s13, s14]) rfl ⟨p1, m1, c1, some ⟨g, 0, none⟩, j, j, p3, m3, c3, rfl, HFn.out⟩
   )
  )
end Go.Proofs.Ytiidomopnmjhbaa
