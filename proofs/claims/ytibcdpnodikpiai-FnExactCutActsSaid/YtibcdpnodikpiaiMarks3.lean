/- What the laws' own marks and looks on files answer: markFileS, heldFileS, markDisk, heldDisk. -/
import Derived.Test.YtibcdpnodikpiaiMarkText
import Derived.Test.YtibcdpnodikpiaiLawKit
import Derived.Deep.RegionHeld3
namespace Go.Proofs.Ytibcdpnodikpiai
open Go.RowKit

theorem grown_of_below {w w' : World} (h : Below w.heap.size w w') (row : Option Nat) : w.grownBy w' row :=
  ⟨h.os, h.tape, h.output, h.size, fun k hk _ => h.block k hk⟩
theorem grown_trans {a b c : World} {row : Option Nat} (h : a.grownBy b row) (k : b.grownBy c row) : a.grownBy c row :=
  ⟨k.os.trans h.os, k.tape.trans h.tape, k.output.trans h.output, Nat.le_trans h.size k.size, fun i hi hr => (k.block i (Nat.lt_of_lt_of_le hi h.size) hr).trans (h.block i hi hr)⟩

/-- the marked file of a number -/
def mfile (k : Nat) : FileV := ⟨mk k, mk (k + 1), (k : Int) + 2⟩
/-- n marked files from k0 on -/
def marks (k0 n : Nat) : List FileV := (List.range n).map fun t => mfile (k0 + t * 3)
theorem marks_snoc (k0 n : Nat) : marks k0 (n + 1) = marks k0 n ++ [mfile (k0 + n * 3)] := by simp [marks, List.range_succ]
theorem marks_length (k0 n : Nat) : (marks k0 n).length = n := by simp [marks]
theorem marks_at (k0 n j : Nat) (h : j < n) : (marks k0 n)[j]? = some (mfile (k0 + j * 3)) := by simp [marks, h]

theorem markFileS_zero (a : Option Addr) (c : Nat) (k0 : Int) (w : World) :
    Calls Try.prog 44 #[.slice a 0 c, .int .i64 k0] w fun e w' => e = .returned (.int .i64 k0) ∧ w' = w := by
  go_enter Try.func44, Try.ntmps44
  go_wp2
  refine wp_loop_rounds 1 ?_
  rw [rounds_succ]
  go_wp2
  go_ret
  exact ⟨rfl, rfl⟩

theorem heldFileS_zero (a : Option Addr) (c : Nat) (k0 : Int) (w : World) :
    Calls Try.prog 45 #[.slice a 0 c, .int .i64 k0] w fun e w' => e = .returned (.int .i64 k0) ∧ w' = w := by
  go_enter Try.func45, Try.ntmps45
  go_wp2
  refine wp_loop_rounds 1 ?_
  rw [rounds_succ]
  go_wp2
  go_ret
  exact ⟨rfl, rfl⟩

set_option maxRecDepth 100000 in
set_option maxHeartbeats 4000000 in
theorem markFileS_any (base g c n k0 : Nat) (fs : List FileV) (hn : n ≤ 1048576) (hk0 : 0 < k0) (hk1 : k0 ≤ 10000000) (w : World)
    (h : w.ownsRow base 63 3 (.slice (some ⟨g, 0, none⟩) n c) n (fcells fs)) :
    Calls Try.prog 44 #[.slice (some ⟨g, 0, none⟩) n c, .int .i64 (k0 : Int)] w fun e w' => e = .returned (.int .i64 ((k0 : Int) + (n : Int) * 3)) ∧
      w'.ownsRow base 63 3 (.slice (some ⟨g, 0, none⟩) n c) n (fcells (marks k0 n)) ∧ w.grownBy w' (some g) := by
  have HO0 := hideIt h
  clear h
  go_enter Try.func44, Try.ntmps44
  go_wp2
  go_loopw [1, 5] (fun kk i wr => ∃ (j : Nat) (xs : List Value), j ≤ n ∧ i = .int .i64 (j : Int) ∧ kk = .int .i64 ((k0 : Int) + (j : Int) * 3) ∧ Hid (xs.take (j * 3) = fcells (marks k0 j)) ∧
      wr.ownsRow base 63 3 (.slice (some ⟨g, 0, none⟩) n c) n xs ∧ w.grownBy wr (some g)) (fun _ i _ => n - (intOf i).toNat)
  case atStart => exact ⟨0, _, by omega, rfl, by simp, by show _ = _; simp [fcells, marks], HO0.out, ⟨rfl, rfl, rfl, Nat.le_refl _, fun _ _ _ => rfl⟩⟩
  case round =>
    obtain ⟨j, xs, hj, rfl, rfl, hx, hown, hgr⟩ := hrel
    clear HO0
    have hl3 : xs.length = n * 3 := hown.1
    by_cases hlt : j < n
    · have HT0 : Hid (∀ w : World, Calls Try.prog 49 #[.int .i64 ((k0 : Int) + (j : Int) * 3)] w fun e w' => e = .returned (.string (mk (k0 + j * 3))) ∧ Below w.heap.size w w') := fun w => by
        have := markText_any (k0 + j * 3) (by omega) (by omega) w
        rw [show ((k0 + j * 3 : Nat) : Int) = (k0 : Int) + (j : Int) * 3 by omega] at this
        exact this
      have HT1 : Hid (∀ w : World, Calls Try.prog 49 #[.int .i64 ((k0 : Int) + (j : Int) * 3 + 1)] w fun e w' => e = .returned (.string (mk (k0 + j * 3 + 1))) ∧ Below w.heap.size w w') := fun w => by
        have := markText_any (k0 + j * 3 + 1) (by omega) (by omega) w
        rw [show ((k0 + j * 3 + 1 : Nat) : Int) = (k0 : Int) + (j : Int) * 3 + 1 by omega] at this
        exact this
      have b1 : (0 : Int) ≤ (j : Int) := by omega
      have b2 : (j : Int) < (n : Int) := by omega
      go_wp2_with (go_at_call 49; refine (HT0.out _).mono ?_; rintro e w1 ⟨rfl, hb1⟩; refine Hid.out ?_)
      refine (show ∀ {p : Prop}, p → Hid p from fun h => h) ?_
      have hown1 := World.ownsRow.kept hown (grown_of_below hb1 none) (by simp [Value.ownBlock])
      have c1 : w1.cell? ⟨g, j * 3, none⟩ = some (xs[j * 3]'(by omega)) := by rw [hown1.cellAt (j * 3) (by omega)]; exact List.getElem?_eq_getElem (by omega)
      have f1 := hown1.frozenAt (j * 3)
      have hst := hown1.stored (j * 3) (.string (mk (k0 + j * 3)))
      have HO1 := hideIt hst.1
      have HG1 := hideIt (grown_trans (grown_trans hgr (grown_of_below hb1 _)) hst.2)
      clear hst hown hown1 hgr hb1 HT0
      go_wp2_with (go_at_call 49; refine (HT1.out _).mono ?_; rintro e w2 ⟨rfl, hb2⟩; refine Hid.out ?_)
      refine (show ∀ {p : Prop}, p → Hid p from fun h => h) ?_
      have hown2 := World.ownsRow.kept HO1.out (grown_of_below hb2 none) (by simp [Value.ownBlock])
      have hl2 : ((xs.set (j * 3) (.string (mk (k0 + j * 3))))).length = n * 3 := hown2.1
      obtain ⟨y2, c2⟩ : ∃ y, w2.cell? ⟨g, j * 3 + 1, none⟩ = some y := ⟨_, by rw [hown2.cellAt (j * 3 + 1) (by omega)]; exact List.getElem?_eq_getElem (by omega)⟩
      obtain ⟨y3, c3⟩ : ∃ y, w2.cell? ⟨g, j * 3 + 2, none⟩ = some y := ⟨_, by rw [hown2.cellAt (j * 3 + 2) (by omega)]; exact List.getElem?_eq_getElem (by omega)⟩
      have f2 := hown2.frozenAt (j * 3 + 1)
      have f3 := hown2.frozenAt (j * 3 + 2)
      have hst1 := hown2.stored (j * 3 + 1) (.string (mk (k0 + j * 3 + 1)))
      have hst2 := hst1.1.stored (j * 3 + 2) (.int .i64 ((k0 : Int) + (j : Int) * 3 + 2))
      have HO2 := hideIt hst2.1
      have HG2 := hideIt (grown_trans (grown_trans (grown_trans HG1.out (grown_of_below hb2 _)) hst1.2) hst2.2)
      have HX : Hid ((((xs.set (j * 3) (.string (mk (k0 + j * 3)))).set (j * 3 + 1) (.string (mk (k0 + j * 3 + 1)))).set (j * 3 + 2) (.int .i64 ((k0 : Int) + (j : Int) * 3 + 2))).take ((j + 1) * 3) = fcells (marks k0 (j + 1))) := by
        show _ = _
        rw [show (j + 1) * 3 = j * 3 + 3 by omega, take_set3 _ _ _ _ _ (by omega), hx.out, marks_snoc, fcells_snoc]
        simp [mfile]
      clear hst1 hst2 hown2 hb2 HT1 HO1 HG1 hx c1 f1
      go_wp2
      exact ⟨⟨j + 1, _, by omega, by go_num, by go_num, HX, HO2.out, HG2.out⟩, by simp [intOf]; omega⟩
    · obtain rfl : j = n := by omega
      have HX : Hid (xs = fcells (marks k0 j)) := by
        show _ = _
        have := hx.out
        rw [List.take_of_length_le (by omega)] at this
        exact this
      have HO := hideIt hown
      clear hx hown
      go_wp2
      go_ret
      exact ⟨rfl, by rw [← HX.out]; exact HO.out, hgr⟩

set_option maxRecDepth 100000 in
set_option maxHeartbeats 4000000 in
theorem heldFileS_any (n k0 : Nat) (a : Option Addr) (c : Nat) (hn : n ≤ 1048576) (hk0 : 0 < k0) (hk1 : k0 ≤ 10000000) (w : World) (h : Fs w w.heap.size a n (marks k0 n)) :
    Calls Try.prog 45 #[.slice a n c, .int .i64 (k0 : Int)] w fun e w' => e = .returned (.int .i64 ((k0 : Int) + (n : Int) * 3)) ∧ Below w.heap.size w w' := by
  obtain ⟨_, hrow⟩ := h
  have HR := hideIt hrow
  clear hrow
  go_enter Try.func45, Try.ntmps45
  go_wp2
  go_loopw [1, 5] (fun kk i wr => ∃ j : Nat, j ≤ n ∧ i = .int .i64 (j : Int) ∧ kk = .int .i64 ((k0 : Int) + (j : Int) * 3) ∧ Below w.heap.size w wr) (fun _ i _ => n - (intOf i).toNat)
  case atStart => exact ⟨0, by omega, rfl, by simp, Below.refl _ _⟩
  case round =>
    obtain ⟨j, hj, rfl, rfl, hb⟩ := hrel
    by_cases hlt : j < n
    · rcases HR.out with hz | ⟨b, off, rfl, hbl, hc⟩
      · omega
      · obtain ⟨c0, c1, c2⟩ := hc j _ (marks_at k0 n j hlt)
        have HK : Hid (∀ u, Good w u → u.cell? ⟨b, off + j * 3, none⟩ = some (.string (mk (k0 + j * 3))) ∧ u.cell? ⟨b, off + j * 3 + 1, none⟩ = some (.string (mk (k0 + j * 3 + 1))) ∧ u.cell? ⟨b, off + j * 3 + 2, none⟩ = some (.int .i64 ((k0 : Int) + (j : Int) * 3 + 2))) := fun u hu => by
          refine ⟨by rw [hu.cell hbl]; exact c0, by rw [hu.cell hbl]; exact c1, ?_⟩
          rw [hu.cell hbl, c2]
          simp [mfile]
        have HT0 : Hid (∀ u : World, Good w u → Calls Try.prog 49 #[.int .i64 ((k0 : Int) + (j : Int) * 3)] u fun e w' => e = .returned (.string (mk (k0 + j * 3))) ∧ Good w w') := fun u hu => by
          have := markText_any (k0 + j * 3) (by omega) (by omega) u
          rw [show ((k0 + j * 3 : Nat) : Int) = (k0 : Int) + (j : Int) * 3 by omega] at this
          exact this.mono fun _ _ ⟨he, hb⟩ => ⟨he, Below.trans hu (hb.mono (Below.size hu))⟩
        have HT1 : Hid (∀ u : World, Good w u → Calls Try.prog 49 #[.int .i64 ((k0 : Int) + (j : Int) * 3 + 1)] u fun e w' => e = .returned (.string (mk (k0 + j * 3 + 1))) ∧ Good w w') := fun u hu => by
          have := markText_any (k0 + j * 3 + 1) (by omega) (by omega) u
          rw [show ((k0 + j * 3 + 1 : Nat) : Int) = (k0 : Int) + (j : Int) * 3 + 1 by omega] at this
          exact this.mono fun _ _ ⟨he, hb⟩ => ⟨he, Below.trans hu (hb.mono (Below.size hu))⟩
        have b1 : (0 : Int) ≤ (j : Int) := by omega
        have b2 : (j : Int) < (n : Int) := by omega
        have S0 : Good w wr.drew := hb.drew
        clear hc c0 c1 c2
        go_wp2
        go_region_held3 (fun u => Good w u ∧ u.cell? ⟨b, off + j * 3, none⟩ = some (.string (mk (k0 + j * 3))))
          (first | exact ⟨S1, (HK.out _ S1).1⟩ | exact ⟨S0, (HK.out _ S0).1⟩)
          ((go_at_call 49; refine (HT0.out _ S0).mono ?_; rintro e w1 ⟨rfl, S1⟩))
        clear S0 HT0
        have T0 : Good w w1.drew := Below.drew S1
        go_wp2
        go_region_held3 (fun u => Good w u ∧ u.cell? ⟨b, off + j * 3 + 1, none⟩ = some (.string (mk (k0 + j * 3 + 1))))
          (first | exact ⟨S2, (HK.out _ S2).2.1⟩ | exact ⟨T0, (HK.out _ T0).2.1⟩)
          ((go_at_call 49; refine (HT1.out _ T0).mono ?_; rintro e w2 ⟨rfl, S2⟩))
        clear T0 HT1
        have c2 := (HK.out _ S2).2.2
        clear HK
        go_wp2
        exact ⟨⟨j + 1, by omega, by go_num, by go_num, S2⟩, by simp [intOf]; omega⟩
    · obtain rfl : j = n := by omega
      go_wp2
      go_ret
      exact ⟨rfl, hb⟩

theorem markDisk_any (base g c n k0 : Nat) (fs : List FileV) (hn : n ≤ 1048576) (hk0 : 0 < k0) (hk1 : k0 ≤ 10000000) (w : World)
    (h : w.ownsRow base 63 3 (.slice (some ⟨g, 0, none⟩) n c) n (fcells fs)) :
    Calls Try.prog 15 #[.agg #[.slice (some ⟨g, 0, none⟩) n c], .int .i64 (k0 : Int)] w fun e w' => e = .returned (.int .i64 ((k0 : Int) + (n : Int) * 3)) ∧
      w'.ownsRow base 63 3 (.slice (some ⟨g, 0, none⟩) n c) n (fcells (marks k0 n)) ∧ w.grownBy w' (some g) := by
  have HM := hideIt (markFileS_any base g c n k0 fs hn hk0 hk1 (w.alloc (.cells #[.slice (some ⟨g, 0, none⟩) n c] 31)) (h.alloc _))
  clear h
  go_enter Try.func15, Try.ntmps15
  go_wp2_with (go_at_call 44; refine HM.out.mono ?_; rintro e w1 ⟨rfl, ho, hg⟩; refine Hid.out ?_)
  refine (show ∀ {p : Prop}, p → Hid p from fun h => h) ?_
  have HO := hideIt ho
  have HG := hideIt (grown_trans (grown_of_below ((Below.refl w.heap.size w).alloc (Nat.le_refl _) (.cells #[.slice (some ⟨g, 0, none⟩) n c] 31)) (some g)) hg)
  clear ho hg HM
  go_wp2
  go_ret
  exact ⟨rfl, HO.out, HG.out⟩

theorem heldDisk_any (n k0 : Nat) (a : Option Addr) (c : Nat) (hn : n ≤ 1048576) (hk0 : 0 < k0) (hk1 : k0 ≤ 10000000) (w : World) (h : Fs w w.heap.size a n (marks k0 n)) :
    Calls Try.prog 16 #[.agg #[.slice a n c], .int .i64 (k0 : Int)] w fun e w' => e = .returned (.int .i64 ((k0 : Int) + (n : Int) * 3)) ∧ Below w.heap.size w w' := by
  have HM := hideIt (heldFileS_any n k0 a c hn hk0 hk1 (w.alloc (.cells #[.slice a n c] 31)) ((h.alloc (Nat.le_refl _) _).mono (by simp)))
  clear h
  have d1 : decide ((k0 : Int) + (n : Int) * 3 < 0) = false := by simp; omega
  go_enter Try.func16, Try.ntmps16
  go_wp2_with (go_at_call 45; refine HM.out.mono ?_; rintro e w1 ⟨rfl, hb1⟩)
  go_ret
  exact ⟨rfl, ((Below.refl _ _).alloc (Nat.le_refl _) _).trans (hb1.mono (by simp))⟩

theorem markDisk_zero (a : Option Addr) (c : Nat) (k0 : Int) (w : World) :
    Calls Try.prog 15 #[.agg #[.slice a 0 c], .int .i64 k0] w fun e w' => e = .returned (.int .i64 k0) ∧ Below w.heap.size w w' := by
  have HM := hideIt (fun u => markFileS_zero a c k0 u)
  go_enter Try.func15, Try.ntmps15
  go_wp2_with (go_at_call 44; refine (HM.out _).mono ?_; rintro e w1 ⟨rfl, rfl⟩)
  go_ret
  exact ⟨rfl, (Below.refl _ _).alloc (Nat.le_refl _) _⟩
end Go.Proofs.Ytibcdpnodikpiai
