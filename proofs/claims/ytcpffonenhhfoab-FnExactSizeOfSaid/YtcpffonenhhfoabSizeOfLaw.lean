/- The walk of FnExactSizeOf. -/
import Derived.Test.YtcpffonenhhfoabLawF7
import Derived.Test.YtcpffonenhhfoabSTree7
import Derived.Test.YtcpffonenhhfoabITree7
namespace Go.Proofs.Ytcpffonenhhfoab
open Go.RowKit

set_option maxRecDepth 100000 in
set_option maxHeartbeats 4000000 in
theorem fnExactSizeOf.walk (N : Int) (_hN : (Lit.int .i64 N).wf = true) (ts : List (List Int)) (hm : ∀ t ∈ ts, t.length ≤ maxLen) (n : Nat) (a : Option Addr) (c : Nat) (hn : n ≤ maxLen) (v : Int) (_hv : (Lit.int .i64 v).wf = true) (w : World) (h : Ts w w.heap.size a n ts) :
    Calls Try.prog 4 #[.agg #[.int .i64 N, .slice a n c], .int .i64 v] w fun e w' => e = .returned (.bool true) ∧ Below w.heap.size w w' := by
  have b0 : Good w (w.alloc (.cells #[.int .i64 N, .slice a n c] 24)) := (Good.refl w).alloc _
  have HS := hideIt (szForest_any N ts n a c hn hm (w.alloc (.cells #[.int .i64 N, .slice a n c] 24)) (h.up b0))
  have HB0 := hideIt b0
  have HA := hideIt (h.up b0)
  have HC0 : Hid (∀ u, Good (w.alloc (.cells #[.int .i64 N, .slice a n c] 24)) u → u.cell? ⟨w.heap.size, 0, none⟩ = some (.int .i64 N) ∧ u.cell? ⟨w.heap.size, 1, none⟩ = some (.slice a n c)) := fun u hu => ⟨by rw [hu.cell (by simp)]; simp, by rw [hu.cell (by simp)]; simp⟩
  clear h b0
  by_cases g1 : n + lnS ts ≤ 1048576
  · have d1 : decide (szv n ts < 0) = false := decide_eq_false (by unfold szv; rw [if_pos g1]; omega)
    have HT := hideIt (fun u (hu : Good (w.alloc (.cells #[.int .i64 N, .slice a n c] 24)) u) => toForest_any N ts n a c g1 u (HA.out.up hu))
    obtain ⟨r, HRs, HRi⟩ : ∃ r : Int, Hid (∀ u g m c', Good (w.alloc (.cells #[.int .i64 N, .slice a n c] 24)) u → Ts u u.heap.size (some ⟨g, 0, none⟩) m ts → m = n → Calls Try.prog 14 #[.agg #[.int .i64 N, .slice (some ⟨g, 0, none⟩) m c'], .int .i64 v] u fun e v => e = .returned (.int .i64 r) ∧ Good u v) ∧ Hid (∀ u g m c', Good (w.alloc (.cells #[.int .i64 N, .slice a n c] 24)) u → Ts u u.heap.size (some ⟨g, 0, none⟩) m ts → m = n → Calls Try.prog 15 #[.agg #[.int .i64 N, .slice (some ⟨g, 0, none⟩) m c'], .int .i64 v] u fun e v => e = .returned (.int .i64 r) ∧ Good u v) := by
      refine ⟨sizeO N ts v, fun u g m c' _ hT hm => ?_, fun u g m c' _ hT hm => ?_⟩
      · subst hm
        exact sSizeOf_any N ts v m _ c' g1 u hT
      · subst hm
        exact iSizeOf_any N ts v m _ c' g1 u hT
    have dr : (r != r) = false := by simp
    generalize szv n ts = z at *
    go_enter Try.func4, Try.ntmps4
    go_wp2_with (go_at_call 6; refine HS.out.mono ?_; rintro e w2 ⟨rfl, hg2⟩; refine Hid.out ?_)
    refine (show ∀ {p : Prop}, p → Hid p from fun h => h) ?_
    have G2 : Good (w.alloc (.cells #[.int .i64 N, .slice a n c] 24)) w2 := hg2
    obtain ⟨k0, k1⟩ := HC0.out w2 G2
    have HT2 := hideIt (HT.out w2 G2)
    clear HS hg2
    go_wp2_with (go_at_call 8; refine HT2.out.mono ?_; rintro e w3 ⟨g3, R3, rfl, F3, r3, hb3⟩; refine Hid.out ?_)
    refine (show ∀ {p : Prop}, p → Hid p from fun h => h) ?_
    have G3 := G2.up hb3
    have HS3 := hideIt (HRs.out w3 g3 n n G3 (by rw [← r3]; exact F3.ts) rfl)
    clear HT2 F3 r3 hb3 k0 k1 G2
    go_wp2_with (go_at_call 14; refine HS3.out.mono ?_; rintro e w4 ⟨rfl, hg4⟩; refine Hid.out ?_)
    refine (show ∀ {p : Prop}, p → Hid p from fun h => h) ?_
    have G4 := G3.up hg4
    obtain ⟨k0, k1⟩ := HC0.out w4 G4
    have HT4 := hideIt (HT.out w4 G4)
    clear HS3 hg4 G3
    go_wp2_with (go_at_call 8; refine HT4.out.mono ?_; rintro e w5 ⟨g5, R5, rfl, F5, r5, hb5⟩; refine Hid.out ?_)
    refine (show ∀ {p : Prop}, p → Hid p from fun h => h) ?_
    have G5 := G4.up hb5
    have HX5 := hideIt (show Ts w5 w5.heap.size (some ⟨g5, 0, none⟩) n ts by rw [← r5]; exact F5.ts)
    have bx : Good w5 (w5.alloc (.cells #[.int .i64 N, .slice (some ⟨g5, 0, none⟩) n n] 28)) := (Good.refl w5).alloc _
    have HI5 := hideIt (HRi.out _ g5 n n (G5.up bx) (HX5.out.up bx) rfl)
    have HB5 := hideIt bx
    clear HT4 F5 r5 hb5 k0 k1 G4 bx
    go_wp2_with (go_at_call 15; refine HI5.out.mono ?_; rintro e w6 ⟨rfl, hg6⟩; refine Hid.out ?_)
    refine (show ∀ {p : Prop}, p → Hid p from fun h => h) ?_
    have G6 := hideIt (G5.up (HB5.out.up hg6))
    have X6 := hideIt (HX5.out.up (HB5.out.up hg6))
    have HC6 : Hid (∀ u, Good w6 u → (u.cell? ⟨w5.heap.size, 0, none⟩ = some (.int .i64 N) ∧ u.cell? ⟨w5.heap.size, 1, none⟩ = some (.slice (some ⟨g5, 0, none⟩) n n)) ∧ u.cell? ⟨w.heap.size, 0, none⟩ = some (.int .i64 N) ∧ u.cell? ⟨w.heap.size, 1, none⟩ = some (.slice a n c)) := fun u hu =>
      ⟨⟨by rw [Good.cell (Good.up hg6 hu) (by simp)]; simp, by rw [Good.cell (Good.up hg6 hu) (by simp)]; simp⟩, HC0.out u (G6.out.up hu)⟩
    have HT6 := hideIt (fun u (hu : Good w6 u) => (HT.out u (G6.out.up hu)).mono fun e v ⟨g7, R7, he, F7, r7, hb7⟩ => (show ∃ g, e = Ending.returned (.agg #[.int .i64 N, .slice (some ⟨g, 0, none⟩) n n]) ∧ Ts v v.heap.size (some ⟨g, 0, none⟩) n ts ∧ Good w6 v from ⟨g7, he, by rw [← r7]; exact F7.ts, hu.up hb7⟩))
    have HE6 := hideIt (fun u g' (hu : Good w6 u) (hT : Ts u u.heap.size (some ⟨g', 0, none⟩) n ts) => (eqForest_same N ts n _ _ n n g1 u (X6.out.up hu) hT).mono fun e v ⟨he, hb⟩ => (show e = Ending.returned (.bool true) ∧ Good w6 v from ⟨he, hu.up hb⟩))
    have S6 := (Good.refl w6).drew
    have hS6 := HC6.out _ S6
    clear HI5 hg6 G5 HB5 HX5
    go_wp2
    go_region_held3 (fun u => (u.cell? ⟨w5.heap.size, 0, none⟩ = some (.int .i64 N) ∧ u.cell? ⟨w5.heap.size, 1, none⟩ = some (.slice (some ⟨g5, 0, none⟩) n n)) ∧ u.cell? ⟨w.heap.size, 0, none⟩ = some (.int .i64 N) ∧ u.cell? ⟨w.heap.size, 1, none⟩ = some (.slice a n c))
      (first | assumption)
      (first
      | (go_at_call 8; refine (HT6.out _ S6).mono ?_; rintro e w7 ⟨g7, rfl, f7, S7⟩; have hS7 := HC6.out _ S7)
      | (go_at_call 11; refine (HE6.out _ g7 S7 f7).mono ?_; rintro e w8 ⟨rfl, S8⟩; have hS8 := HC6.out _ S8))
    go_wp2
    go_ret
    exact ⟨rfl, HB0.out.up (G6.out.up S8)⟩
  · have HV : Hid (szv n ts = -1) := by show _ = _; unfold szv; rw [if_neg g1]
    have d1 : decide (szv n ts < 0) = true := decide_eq_true (by have := HV.out; omega)
    generalize szv n ts = z at *
    go_enter Try.func4, Try.ntmps4
    go_wp2_with (go_at_call 6; refine HS.out.mono ?_; rintro e w2 ⟨rfl, hg2⟩)
    go_ret
    exact ⟨rfl, HB0.out.up hg2⟩
end Go.Proofs.Ytcpffonenhhfoab
