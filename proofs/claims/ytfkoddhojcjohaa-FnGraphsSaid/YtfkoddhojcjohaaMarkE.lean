/- What the laws' own marks and looks on edges answer: markEdgeS, heldEdgeS, markGraph, heldGraph. -/
import Derived.Test.YtfkoddhojcjohaaLawG
namespace Go.Proofs.Ytfkoddhojcjohaa
open Go.RowKit

theorem grown_of_below {w w' : World} (h : Below w.heap.size w w') (row : Option Nat) : w.grownBy w' row :=
  ⟨h.os, h.tape, h.output, h.size, fun k hk _ => h.block k hk⟩
theorem grown_trans {a b c : World} {row : Option Nat} (h : a.grownBy b row) (k : b.grownBy c row) : a.grownBy c row :=
  ⟨k.os.trans h.os, k.tape.trans h.tape, k.output.trans h.output, Nat.le_trans h.size k.size, fun i hi hr => (k.block i (Nat.lt_of_lt_of_le hi h.size) hr).trans (h.block i hi hr)⟩

/-- n marked edges from k0 on -/
def marks (k0 n : Nat) : List EdgeV := (List.range n).map fun (t : Nat) => ((k0 : Int) + (t : Int) * 2, (k0 : Int) + (t : Int) * 2 + 1)
theorem marks_snoc (k0 n : Nat) : marks k0 (n + 1) = marks k0 n ++ [((k0 : Int) + (n : Int) * 2, (k0 : Int) + (n : Int) * 2 + 1)] := by simp [marks, List.range_succ]
theorem marks_length (k0 n : Nat) : (marks k0 n).length = n := by simp [marks]
theorem marks_at (k0 n j : Nat) (h : j < n) : (marks k0 n)[j]? = some ((k0 : Int) + (j : Int) * 2, (k0 : Int) + (j : Int) * 2 + 1) := by simp [marks, h]

theorem markEdgeS_zero (a : Option Addr) (c : Nat) (k0 : Int) (w : World) :
    Calls Try.prog 52 #[.slice a 0 c, .int .i64 k0] w fun e w' => e = .returned (.int .i64 k0) ∧ w' = w := by
  go_enter Try.func52, Try.ntmps52
  go_wp2
  refine wp_loop_rounds 1 ?_
  rw [rounds_succ]
  go_wp2
  go_ret
  exact ⟨rfl, rfl⟩

set_option maxRecDepth 100000 in
set_option maxHeartbeats 4000000 in
theorem markEdgeS_any (base g c n k0 : Nat) (fs : List EdgeV) (hn : n ≤ 1048576) (hk1 : k0 ≤ 10000000) (w : World)
    (h : w.ownsRow base 28 2 (.slice (some ⟨g, 0, none⟩) n c) n (ecells fs)) :
    Calls Try.prog 52 #[.slice (some ⟨g, 0, none⟩) n c, .int .i64 (k0 : Int)] w fun e w' => e = .returned (.int .i64 ((k0 : Int) + (n : Int) * 2)) ∧
      w'.ownsRow base 28 2 (.slice (some ⟨g, 0, none⟩) n c) n (ecells (marks k0 n)) ∧ w.grownBy w' (some g) := by
  have HO0 := hideIt h
  clear h
  go_enter Try.func52, Try.ntmps52
  go_wp2
  go_loopw [1, 5] (fun kk i wr => ∃ (j : Nat) (xs : List Value), j ≤ n ∧ i = .int .i64 (j : Int) ∧ kk = .int .i64 ((k0 : Int) + (j : Int) * 2) ∧ Hid (xs.take (j * 2) = ecells (marks k0 j)) ∧
      wr.ownsRow base 28 2 (.slice (some ⟨g, 0, none⟩) n c) n xs ∧ w.grownBy wr (some g)) (fun _ i _ => n - (intOf i).toNat)
  case atStart => exact ⟨0, _, by omega, rfl, by simp, by show _ = _; simp [ecells, marks], HO0.out, ⟨rfl, rfl, rfl, Nat.le_refl _, fun _ _ _ => rfl⟩⟩
  case round =>
    obtain ⟨j, xs, hj, rfl, rfl, hx, hown, hgr⟩ := hrel
    clear HO0
    have hl3 : xs.length = n * 2 := hown.1
    by_cases hlt : j < n
    · have b1 : (0 : Int) ≤ (j : Int) := by omega
      have b2 : (j : Int) < (n : Int) := by omega
      obtain ⟨y0, c0⟩ : ∃ y, wr.cell? ⟨g, j * 2, none⟩ = some y := ⟨_, by rw [hown.cellAt (j * 2) (by omega)]; exact List.getElem?_eq_getElem (by omega)⟩
      obtain ⟨y1, c1⟩ : ∃ y, wr.cell? ⟨g, j * 2 + 1, none⟩ = some y := ⟨_, by rw [hown.cellAt (j * 2 + 1) (by omega)]; exact List.getElem?_eq_getElem (by omega)⟩
      have f0 := hown.frozenAt (j * 2)
      have f1 := hown.frozenAt (j * 2 + 1)
      have hst1 := hown.stored (j * 2) (.int .i64 ((k0 : Int) + (j : Int) * 2))
      have hst2 := hst1.1.stored (j * 2 + 1) (.int .i64 ((k0 : Int) + (j : Int) * 2 + 1))
      have HO2 := hideIt hst2.1
      have HG2 := hideIt (grown_trans (grown_trans hgr hst1.2) hst2.2)
      have HX : Hid (((xs.set (j * 2) (.int .i64 ((k0 : Int) + (j : Int) * 2))).set (j * 2 + 1) (.int .i64 ((k0 : Int) + (j : Int) * 2 + 1))).take ((j + 1) * 2) = ecells (marks k0 (j + 1))) := by
        show _ = _
        rw [show (j + 1) * 2 = j * 2 + 2 by omega, take_set2 _ _ _ _ (by omega), hx.out, marks_snoc, ecells_snoc]
      clear hst1 hst2 hx hown hgr
      go_wp2
      exact ⟨⟨j + 1, _, by omega, by go_num, by go_num, HX, HO2.out, HG2.out⟩, by simp [intOf]; omega⟩
    · obtain rfl : j = n := by omega
      have HX : Hid (xs = ecells (marks k0 j)) := by
        show _ = _
        have := hx.out
        rw [List.take_of_length_le (by omega)] at this
        exact this
      have HO := hideIt hown
      clear hx hown
      go_wp2
      go_ret
      exact ⟨rfl, by rw [← HX.out]; exact HO.out, hgr⟩

set_option maxRecDepth 100000 in
set_option maxHeartbeats 4000000 in
theorem heldEdgeS_any (n k0 : Nat) (a : Option Addr) (c : Nat) (hn : n ≤ 1048576) (hk1 : k0 ≤ 10000000) (w : World) (h : Es w w.heap.size a n (marks k0 n)) :
    Calls Try.prog 53 #[.slice a n c, .int .i64 (k0 : Int)] w fun e w' => e = .returned (.int .i64 ((k0 : Int) + (n : Int) * 2)) ∧ w' = w := by
  obtain ⟨_, hrow⟩ := h
  have HR := hideIt hrow
  clear hrow
  go_enter Try.func53, Try.ntmps53
  go_wp2
  go_loopw [1, 5] (fun kk i wr => ∃ j : Nat, j ≤ n ∧ i = .int .i64 (j : Int) ∧ kk = .int .i64 ((k0 : Int) + (j : Int) * 2) ∧ wr = w) (fun _ i _ => n - (intOf i).toNat)
  case atStart => exact ⟨0, by omega, rfl, by simp, rfl⟩
  case round =>
    obtain ⟨j, hj, rfl, rfl, hw⟩ := hrel
    have hw' := hw.symm
    subst hw'
    clear hw
    by_cases hlt : j < n
    · rcases HR.out with hz | ⟨b, off, rfl, hbl, hc⟩
      · omega
      · obtain ⟨c0, c1⟩ := hc j _ (marks_at k0 n j hlt)
        dsimp only at c0 c1
        have b1 : (0 : Int) ≤ (j : Int) := by omega
        have b2 : (j : Int) < (n : Int) := by omega
        clear hc
        go_wp2
        exact ⟨⟨j + 1, by omega, by go_num, by go_num, by first | trivial | rfl⟩, by simp [intOf]; omega⟩
    · obtain rfl : j = n := by omega
      go_wp2
      go_ret
      exact ⟨rfl, rfl⟩

theorem markGraph_zero (N : Int) (a : Option Addr) (c : Nat) (k0 : Int) (w : World) :
    Calls Try.prog 30 #[.agg #[.int .i64 N, .slice a 0 c], .int .i64 k0] w fun e w' => e = .returned (.int .i64 k0) ∧ Below w.heap.size w w' := by
  have HT := hideIt (markEdgeS_zero a c k0)
  go_enter Try.func30, Try.ntmps30
  go_wp2_with (go_at_call 52; refine (HT.out _).mono ?_; rintro e w1 ⟨rfl, rfl⟩)
  go_ret
  exact ⟨rfl, (Below.refl _ _).alloc (Nat.le_refl _) _⟩
theorem markGraph_any (N : Int) (base g c n k0 : Nat) (fs : List EdgeV) (hn : n ≤ 1048576) (hk1 : k0 ≤ 10000000) (w : World)
    (h : w.ownsRow base 28 2 (.slice (some ⟨g, 0, none⟩) n c) n (ecells fs)) :
    Calls Try.prog 30 #[.agg #[.int .i64 N, .slice (some ⟨g, 0, none⟩) n c], .int .i64 (k0 : Int)] w fun e w' => e = .returned (.int .i64 ((k0 : Int) + (n : Int) * 2)) ∧
      w'.ownsRow base 28 2 (.slice (some ⟨g, 0, none⟩) n c) n (ecells (marks k0 n)) ∧ w.grownBy w' (some g) := by
  have HT := hideIt (markEdgeS_any base g c n k0 fs hn hk1 _ (h.alloc (.cells #[.int .i64 N, .slice (some ⟨g, 0, none⟩) n c] 26)))
  clear h
  go_enter Try.func30, Try.ntmps30
  go_wp2_with (go_at_call 52; refine HT.out.mono ?_; rintro e w1 ⟨rfl, ho, hg⟩; refine Hid.out ?_)
  refine (show ∀ {p : Prop}, p → Hid p from fun h => h) ?_
  have HO := hideIt ho
  have HG := hideIt (grown_trans (grown_of_below ((Below.refl w.heap.size w).alloc (Nat.le_refl _) (.cells #[.int .i64 N, .slice (some ⟨g, 0, none⟩) n c] 26)) (some g)) hg)
  clear ho hg HT
  go_wp2
  go_ret
  exact ⟨rfl, HO.out, HG.out⟩
theorem heldGraph_any (N : Int) (n k0 : Nat) (a : Option Addr) (c : Nat) (hn : n ≤ 1048576) (hk1 : k0 ≤ 10000000) (w : World) (h : Es w w.heap.size a n (marks k0 n)) :
    Calls Try.prog 31 #[.agg #[.int .i64 N, .slice a n c], .int .i64 (k0 : Int)] w fun e w' => e = .returned (.int .i64 ((k0 : Int) + (n : Int) * 2)) ∧ Below w.heap.size w w' := by
  have HT := hideIt (heldEdgeS_any n k0 a c hn hk1 (w.alloc (.cells #[.int .i64 N, .slice a n c] 26)) ((h.alloc (Nat.le_refl _) _).mono (by simp)))
  have d1 : decide ((k0 : Int) + (n : Int) * 2 < 0) = false := decide_eq_false (by omega)
  clear h
  go_enter Try.func31, Try.ntmps31
  go_wp2_with (go_at_call 53; refine HT.out.mono ?_; rintro e w1 ⟨rfl, rfl⟩)
  go_ret
  exact ⟨rfl, (Below.refl _ _).alloc (Nat.le_refl _) _⟩
end Go.Proofs.Ytfkoddhojcjohaa
