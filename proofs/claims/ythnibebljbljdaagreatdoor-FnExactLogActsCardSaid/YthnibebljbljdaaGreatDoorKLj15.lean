/- What the laws' own marks and looks on files answer: markFileS, heldFileS, markDisk, heldDisk. What the laws' own marks and looks on acts answer: markActS with its cells, heldActS. A list of acts that is answered: none, or its own two; it is marked and held. -/
import Derived.Test.YthnibebljbljdaaGreatDoorKActs2
import Derived.Test.YthnibebljbljdaaGreatDoorKSAct
import Derived.Deep.RegionHeld3
import Derived.Test.YthnibebljbljdaaGreatDoorKLi15
import Derived.Test.YthnibebljbljdaaGreatDoorKFiles
namespace Go.Proofs.YthnibebljbljdaaGreatDoor.F
open Go.RowKit

theorem grown_of_below {w w' : World} (h : Below w.heap.size w w') (row : Option Nat) : w.grownBy w' row :=
  ⟨h.os, h.tape, h.output, h.size, fun k hk _ => h.block k hk⟩
theorem grown_trans {a b c : World} {row : Option Nat} (h : a.grownBy b row) (k : b.grownBy c row) : a.grownBy c row :=
  ⟨k.os.trans h.os, k.tape.trans h.tape, k.output.trans h.output, Nat.le_trans h.size k.size, fun i hi hr => (k.block i (Nat.lt_of_lt_of_le hi h.size) hr).trans (h.block i hi hr)⟩

/-- the marked file of a number -/
def mfile (k : Nat) : FileV := ⟨mk k, mk (k + 1), (k : Int) + 2⟩
/-- n marked files from k0 on -/
def marks (k0 n : Nat) : List FileV := (List.range n).map fun t => mfile (k0 + t * 3)
theorem marks_snoc (k0 n : Nat) : marks k0 (n + 1) = marks k0 n ++ [mfile (k0 + n * 3)] := by simp [marks, List.range_succ]
theorem marks_length (k0 n : Nat) : (marks k0 n).length = n := by simp [marks]
theorem marks_at (k0 n j : Nat) (h : j < n) : (marks k0 n)[j]? = some (mfile (k0 + j * 3)) := by simp [marks, h]

theorem markFileS_zero (a : Option Addr) (c : Nat) (k0 : Int) (w : World) :
    Calls Tryz.prog 47 #[.slice a 0 c, .int .i64 k0] w fun e w' => e = .returned (.int .i64 k0) ∧ w' = w := by
  go_enter Tryz.func47, Tryz.ntmps47
  go_wp2
  refine wp_loop_rounds 1 ?_
  rw [rounds_succ]
  go_wp2
  go_ret
  exact ⟨rfl, rfl⟩

set_option maxRecDepth 100000 in
set_option maxHeartbeats 4000000 in
theorem markFileS_any (base g c n k0 : Nat) (fs : List FileV) (hn : n ≤ 1048576) (hk0 : 0 < k0) (hk1 : k0 ≤ 10000000) (w : World)
    (h : w.ownsRow base 130 3 (.slice (some ⟨g, 0, none⟩) n c) n (fcells fs)) :
    Calls Tryz.prog 47 #[.slice (some ⟨g, 0, none⟩) n c, .int .i64 (k0 : Int)] w fun e w' => e = .returned (.int .i64 ((k0 : Int) + (n : Int) * 3)) ∧
      w'.ownsRow base 130 3 (.slice (some ⟨g, 0, none⟩) n c) n (fcells (marks k0 n)) ∧ w.grownBy w' (some g) := by
  have HO0 := hideIt h
  clear h
  go_enter Tryz.func47, Tryz.ntmps47
  go_wp2
  go_loopw [1, 5] (fun kk i wr => ∃ (j : Nat) (xs : List Value), j ≤ n ∧ i = .int .i64 (j : Int) ∧ kk = .int .i64 ((k0 : Int) + (j : Int) * 3) ∧ Hid (xs.take (j * 3) = fcells (marks k0 j)) ∧
      wr.ownsRow base 130 3 (.slice (some ⟨g, 0, none⟩) n c) n xs ∧ w.grownBy wr (some g)) (fun _ i _ => n - (intOf i).toNat)
  case atStart => exact ⟨0, _, by omega, rfl, by simp, by show _ = _; simp [fcells, marks], HO0.out, ⟨rfl, rfl, rfl, Nat.le_refl _, fun _ _ _ => rfl⟩⟩
  case round =>
    obtain ⟨j, xs, hj, rfl, rfl, hx, hown, hgr⟩ := hrel
    clear HO0
    have hl3 : xs.length = n * 3 := hown.1
    by_cases hlt : j < n
    · have HT0 : Hid (∀ w : World, Calls Tryz.prog 50 #[.int .i64 ((k0 : Int) + (j : Int) * 3)] w fun e w' => e = .returned (.string (mk (k0 + j * 3))) ∧ Below w.heap.size w w') := fun w => by
        have := markText_any (k0 + j * 3) (by omega) (by omega) w
        rw [show ((k0 + j * 3 : Nat) : Int) = (k0 : Int) + (j : Int) * 3 by omega] at this
        exact this
      have HT1 : Hid (∀ w : World, Calls Tryz.prog 50 #[.int .i64 ((k0 : Int) + (j : Int) * 3 + 1)] w fun e w' => e = .returned (.string (mk (k0 + j * 3 + 1))) ∧ Below w.heap.size w w') := fun w => by
        have := markText_any (k0 + j * 3 + 1) (by omega) (by omega) w
        rw [show ((k0 + j * 3 + 1 : Nat) : Int) = (k0 : Int) + (j : Int) * 3 + 1 by omega] at this
        exact this
      have b1 : (0 : Int) ≤ (j : Int) := by omega
      have b2 : (j : Int) < (n : Int) := by omega
      go_wp2_with (go_at_call 50; refine (HT0.out _).mono ?_; rintro e w1 ⟨rfl, hb1⟩; refine Hid.out ?_)
      refine (show ∀ {p : Prop}, p → Hid p from fun h => h) ?_
      have hown1 := World.ownsRow.kept hown (grown_of_below hb1 none) (by simp [Value.ownBlock])
      have c1 : w1.cell? ⟨g, j * 3, none⟩ = some (xs[j * 3]'(by omega)) := by rw [hown1.cellAt (j * 3) (by omega)]; exact List.getElem?_eq_getElem (by omega)
      have f1 := hown1.frozenAt (j * 3)
      have hst := hown1.stored (j * 3) (.string (mk (k0 + j * 3)))
      have HO1 := hideIt hst.1
      have HG1 := hideIt (grown_trans (grown_trans hgr (grown_of_below hb1 _)) hst.2)
      clear hst hown hown1 hgr hb1 HT0
      go_wp2_with (go_at_call 50; refine (HT1.out _).mono ?_; rintro e w2 ⟨rfl, hb2⟩; refine Hid.out ?_)
      refine (show ∀ {p : Prop}, p → Hid p from fun h => h) ?_
      have hown2 := World.ownsRow.kept HO1.out (grown_of_below hb2 none) (by simp [Value.ownBlock])
      have hl2 : ((xs.set (j * 3) (.string (mk (k0 + j * 3))))).length = n * 3 := hown2.1
      obtain ⟨y2, c2⟩ : ∃ y, w2.cell? ⟨g, j * 3 + 1, none⟩ = some y := ⟨_, by rw [hown2.cellAt (j * 3 + 1) (by omega)]; exact List.getElem?_eq_getElem (by omega)⟩
      obtain ⟨y3, c3⟩ : ∃ y, w2.cell? ⟨g, j * 3 + 2, none⟩ = some y := ⟨_, by rw [hown2.cellAt (j * 3 + 2) (by omega)]; exact List.getElem?_eq_getElem (by omega)⟩
      have f2 := hown2.frozenAt (j * 3 + 1)
      have f3 := hown2.frozenAt (j * 3 + 2)
      have hst1 := hown2.stored (j * 3 + 1) (.string (mk (k0 + j * 3 + 1)))
      have hst2 := hst1.1.stored (j * 3 + 2) (.int .i64 ((k0 : Int) + (j : Int) * 3 + 2))
      have HO2 := hideIt hst2.1
      have HG2 := hideIt (grown_trans (grown_trans (grown_trans HG1.out (grown_of_below hb2 _)) hst1.2) hst2.2)
      have HX : Hid ((((xs.set (j * 3) (.string (mk (k0 + j * 3)))).set (j * 3 + 1) (.string (mk (k0 + j * 3 + 1)))).set (j * 3 + 2) (.int .i64 ((k0 : Int) + (j : Int) * 3 + 2))).take ((j + 1) * 3) = fcells (marks k0 (j + 1))) := by
        show _ = _
        rw [show (j + 1) * 3 = j * 3 + 3 by omega, take_set3 _ _ _ _ _ (by omega), hx.out, marks_snoc, fcells_snoc]
        simp [mfile]
      clear hst1 hst2 hown2 hb2 HT1 HO1 HG1 hx c1 f1
      go_wp2
      exact ⟨⟨j + 1, _, by omega, by go_num, by go_num, HX, HO2.out, HG2.out⟩, by simp [intOf]; omega⟩
    · obtain rfl : j = n := by omega
      have HX : Hid (xs = fcells (marks k0 j)) := by
        show _ = _
        have := hx.out
        rw [List.take_of_length_le (by omega)] at this
        exact this
      have HO := hideIt hown
      clear hx hown
      go_wp2
      go_ret
      exact ⟨rfl, by rw [← HX.out]; exact HO.out, hgr⟩

theorem markDisk_any (base g c n k0 : Nat) (fs : List FileV) (hn : n ≤ 1048576) (hk0 : 0 < k0) (hk1 : k0 ≤ 10000000) (w : World)
    (h : w.ownsRow base 130 3 (.slice (some ⟨g, 0, none⟩) n c) n (fcells fs)) :
    Calls Tryz.prog 19 #[.agg #[.slice (some ⟨g, 0, none⟩) n c], .int .i64 (k0 : Int)] w fun e w' => e = .returned (.int .i64 ((k0 : Int) + (n : Int) * 3)) ∧
      w'.ownsRow base 130 3 (.slice (some ⟨g, 0, none⟩) n c) n (fcells (marks k0 n)) ∧ w.grownBy w' (some g) := by
  have HM := hideIt (markFileS_any base g c n k0 fs hn hk0 hk1 (w.alloc (.cells #[.slice (some ⟨g, 0, none⟩) n c] 48)) (h.alloc _))
  clear h
  go_enter Tryz.func19, Tryz.ntmps19
  go_wp2_with (go_at_call 47; refine HM.out.mono ?_; rintro e w1 ⟨rfl, ho, hg⟩; refine Hid.out ?_)
  refine (show ∀ {p : Prop}, p → Hid p from fun h => h) ?_
  have HO := hideIt ho
  have HG := hideIt (grown_trans (grown_of_below ((Below.refl w.heap.size w).alloc (Nat.le_refl _) (.cells #[.slice (some ⟨g, 0, none⟩) n c] 48)) (some g)) hg)
  clear ho hg HM
  go_wp2
  go_ret
  exact ⟨rfl, HO.out, HG.out⟩

theorem markDisk_zero (a : Option Addr) (c : Nat) (k0 : Int) (w : World) :
    Calls Tryz.prog 19 #[.agg #[.slice a 0 c], .int .i64 k0] w fun e w' => e = .returned (.int .i64 k0) ∧ Below w.heap.size w w' := by
  have HM := hideIt (fun u => markFileS_zero a c k0 u)
  go_enter Tryz.func19, Tryz.ntmps19
  go_wp2_with (go_at_call 47; refine (HM.out _).mono ?_; rintro e w1 ⟨rfl, rfl⟩)
  go_ret
  exact ⟨rfl, (Below.refl _ _).alloc (Nat.le_refl _) _⟩
end Go.Proofs.YthnibebljbljdaaGreatDoor.F
namespace Go.Proofs.YthnibebljbljdaaGreatDoor.F
open Go.RowKit

/-- the marked act of a number -/
def mact (k : Nat) : ActV := ⟨(k : Int), mk (k + 1), mk (k + 2), mk (k + 3)⟩
/-- n marked acts from k0 on -/
def amarks (k0 n : Nat) : List ActV := (List.range n).map fun t => mact (k0 + t * 4)
theorem amarks_snoc (k0 n : Nat) : amarks k0 (n + 1) = amarks k0 n ++ [mact (k0 + n * 4)] := by simp [amarks, List.range_succ]
theorem amarks_at (k0 n j : Nat) (h : j < n) : (amarks k0 n)[j]? = some (mact (k0 + j * 4)) := by simp [amarks, h]
theorem amarks_length (k0 n : Nat) : (amarks k0 n).length = n := by simp [amarks]

set_option maxRecDepth 100000 in
set_option maxHeartbeats 4000000 in
theorem markActS_marks (base g c n k0 : Nat) (xs0 : List Value) (hn : n ≤ 1048576) (hk0 : 0 < k0) (hk1 : k0 ≤ 10000000) (w : World) (h : w.ownsRow base 83 4 (.slice (some ⟨g, 0, none⟩) n c) n xs0) :
    Calls Tryz.prog 21 #[.slice (some ⟨g, 0, none⟩) n c, .int .i64 (k0 : Int)] w fun e w' => e = .returned (.int .i64 ((k0 : Int) + (n : Int) * 4)) ∧ w'.ownsRow base 83 4 (.slice (some ⟨g, 0, none⟩) n c) n (acells (amarks k0 n)) ∧ w.grownBy w' (some g) := by
  have H0 := hideIt h
  have HM := hideIt (fun (U : Nat) (h0 : 0 < U) (h1 : U ≤ 1000000000) (x : Int) (hx : (U : Int) = x) u => hx ▸ markText_any U h0 h1 u)
  clear h
  go_enter Tryz.func21, Tryz.ntmps21
  go_wp2
  go_loopw [1, 5] (fun q i wr => ∃ (k : Nat) (xs : List Value), k ≤ n ∧ i = .int .i64 (k : Int) ∧ q = .int .i64 ((k0 : Int) + (k : Int) * 4) ∧ Hid (xs.take (k * 4) = acells (amarks k0 k)) ∧ wr.ownsRow base 83 4 (.slice (some ⟨g, 0, none⟩) n c) n xs ∧ w.grownBy wr (some g)) (fun _ i _ => n - (intOf i).toNat)
  case atStart => exact ⟨0, xs0, by omega, rfl, by simp, (by show _ = _; simp [acells, amarks]), H0.out, ⟨rfl, rfl, rfl, Nat.le_refl _, fun _ _ _ => rfl⟩⟩
  case round =>
    obtain ⟨k, xs, hk, rfl, rfl, hx, hown, hg⟩ := hrel
    have hl3 : xs.length = n * 4 := hown.1
    by_cases hlt : k < n
    · have b1 : (0 : Int) ≤ (k : Int) := by omega
      have b2 : (k : Int) < (n : Int) := by omega
      have f0 := hown.frozenAt (k * 4)
      have x0 : wr.cell? ⟨g, k * 4, none⟩ = some (xs[k * 4]'(by omega)) := by rw [hown.cellAt (k * 4) (by omega)]; exact List.getElem?_eq_getElem (by omega)
      have o1 := (hown.stored (k * 4) (.int .i64 ((k0 : Int) + (k : Int) * 4))).1
      have g1 := grown_set hg (k * 4) (.int .i64 ((k0 : Int) + (k : Int) * 4))
      have HC1 := hideIt (fun u => HM.out (k0 + k * 4 + 1) (by omega) (by omega) ((k0 : Int) + (k : Int) * 4 + 1) (by omega) u)
      go_wp2_with (go_at_call 50; refine (HC1.out _).mono ?_; rintro e w1 ⟨rfl, hb1⟩; refine Hid.out ?_)
      refine (show ∀ {p : Prop}, p → Hid p from fun h => h) ?_
      have ow1 := World.ownsRow.kept o1 (row := none) ⟨hb1.os, hb1.tape, hb1.output, hb1.size, fun i hi _ => hb1.block i hi⟩ (.inr (by simp [Value.ownBlock]))
      have gw1 := grown_up g1 hb1
      have hlw1 := ow1.1
      have f1 := ow1.frozenAt (k * 4 + 1)
      have x1 := ow1.cellAt (k * 4 + 1) (by omega)
      rw [List.getElem?_eq_getElem (by omega)] at x1
      have o2 := (ow1.stored (k * 4 + 1) (.string (mk (k0 + k * 4 + 1)))).1
      have g2 := grown_set gw1 (k * 4 + 1) (.string (mk (k0 + k * 4 + 1)))
      clear hb1 HC1
      have HC2 := hideIt (fun u => HM.out (k0 + k * 4 + 2) (by omega) (by omega) ((k0 : Int) + (k : Int) * 4 + 2) (by omega) u)
      go_wp2_with (go_at_call 50; refine (HC2.out _).mono ?_; rintro e w2 ⟨rfl, hb2⟩; refine Hid.out ?_)
      refine (show ∀ {p : Prop}, p → Hid p from fun h => h) ?_
      have ow2 := World.ownsRow.kept o2 (row := none) ⟨hb2.os, hb2.tape, hb2.output, hb2.size, fun i hi _ => hb2.block i hi⟩ (.inr (by simp [Value.ownBlock]))
      have gw2 := grown_up g2 hb2
      have hlw2 := ow2.1
      have f2 := ow2.frozenAt (k * 4 + 2)
      have x2 := ow2.cellAt (k * 4 + 2) (by omega)
      rw [List.getElem?_eq_getElem (by omega)] at x2
      have o3 := (ow2.stored (k * 4 + 2) (.string (mk (k0 + k * 4 + 2)))).1
      have g3 := grown_set gw2 (k * 4 + 2) (.string (mk (k0 + k * 4 + 2)))
      clear hb2 HC2
      have HC3 := hideIt (fun u => HM.out (k0 + k * 4 + 3) (by omega) (by omega) ((k0 : Int) + (k : Int) * 4 + 3) (by omega) u)
      go_wp2_with (go_at_call 50; refine (HC3.out _).mono ?_; rintro e w3 ⟨rfl, hb3⟩; refine Hid.out ?_)
      refine (show ∀ {p : Prop}, p → Hid p from fun h => h) ?_
      have ow3 := World.ownsRow.kept o3 (row := none) ⟨hb3.os, hb3.tape, hb3.output, hb3.size, fun i hi _ => hb3.block i hi⟩ (.inr (by simp [Value.ownBlock]))
      have gw3 := grown_up g3 hb3
      have hlw3 := ow3.1
      have f3 := ow3.frozenAt (k * 4 + 3)
      have x3 := ow3.cellAt (k * 4 + 3) (by omega)
      rw [List.getElem?_eq_getElem (by omega)] at x3
      have o4 := (ow3.stored (k * 4 + 3) (.string (mk (k0 + k * 4 + 3)))).1
      have g4 := grown_set gw3 (k * 4 + 3) (.string (mk (k0 + k * 4 + 3)))
      have HX : Hid (((((xs.set (k * 4) (.int .i64 ((k0 : Int) + (k : Int) * 4))).set (k * 4 + 1) (.string (mk (k0 + k * 4 + 1)))).set (k * 4 + 2) (.string (mk (k0 + k * 4 + 2)))).set (k * 4 + 3) (.string (mk (k0 + k * 4 + 3)))).take ((k + 1) * 4) = acells (amarks k0 (k + 1))) := by
        show _ = _
        rw [show (k + 1) * 4 = k * 4 + 4 by omega, take_set4 _ _ _ _ _ _ (by omega), hx.out, amarks_snoc, acells_snoc]
        simp [mact]
      have HO4 := hideIt o4
      have HG4 := hideIt g4
      clear hb3 HC3 hx o4 g4
      go_wp2
      exact ⟨⟨k + 1, _, by omega, by go_num, by go_num, HX, HO4.out, HG4.out⟩, by simp [intOf]; omega⟩
    · obtain rfl : k = n := by omega
      have HX : Hid (xs = acells (amarks k0 k)) := by
        show _ = _
        have := hx.out
        rw [List.take_of_length_le (by omega)] at this
        exact this
      have HO := hideIt hown
      clear hx hown
      go_wp2
      go_ret
      exact ⟨rfl, by rw [← HX.out]; exact HO.out, hg⟩

set_option maxRecDepth 100000 in
set_option maxHeartbeats 4000000 in
theorem heldActS_any (n k0 : Nat) (a : Option Addr) (c : Nat) (hn : n ≤ 1048576) (hk0 : 0 < k0) (hk1 : k0 ≤ 10000000) (w : World) (h : As w w.heap.size a n (amarks k0 n)) :
    Calls Tryz.prog 22 #[.slice a n c, .int .i64 (k0 : Int)] w fun e w' => e = .returned (.int .i64 ((k0 : Int) + (n : Int) * 4)) ∧ Below w.heap.size w w' := by
  obtain ⟨_, hrow⟩ := h
  have HR := hideIt hrow
  clear hrow
  go_enter Tryz.func22, Tryz.ntmps22
  go_wp2
  go_loopw [1, 5] (fun kk i wr => ∃ j : Nat, j ≤ n ∧ i = .int .i64 (j : Int) ∧ kk = .int .i64 ((k0 : Int) + (j : Int) * 4) ∧ Below w.heap.size w wr) (fun _ i _ => n - (intOf i).toNat)
  case atStart => exact ⟨0, by omega, rfl, by simp, Below.refl _ _⟩
  case round =>
    obtain ⟨j, hj, rfl, rfl, hb⟩ := hrel
    by_cases hlt : j < n
    · rcases HR.out with hz | ⟨b, off, rfl, hbl, hc⟩
      · omega
      · obtain ⟨c0, c1, c2, c3⟩ := hc j _ (amarks_at k0 n j hlt)
        have HK : Hid (∀ u, Good w u → u.cell? ⟨b, off + j * 4, none⟩ = some (.int .i64 ((k0 : Int) + (j : Int) * 4)) ∧ u.cell? ⟨b, off + j * 4 + 1, none⟩ = some (.string (mk (k0 + j * 4 + 1))) ∧ u.cell? ⟨b, off + j * 4 + 2, none⟩ = some (.string (mk (k0 + j * 4 + 2))) ∧ u.cell? ⟨b, off + j * 4 + 3, none⟩ = some (.string (mk (k0 + j * 4 + 3)))) := fun u hu => by
          refine ⟨?_, by rw [hu.cell hbl]; exact c1, by rw [hu.cell hbl]; exact c2, by rw [hu.cell hbl]; exact c3⟩
          rw [hu.cell hbl, c0]
          simp [mact]
        have HT1 : Hid (∀ u : World, Good w u → Calls Tryz.prog 50 #[.int .i64 ((k0 : Int) + (j : Int) * 4 + 1)] u fun e w' => e = .returned (.string (mk (k0 + j * 4 + 1))) ∧ Good w w') := fun u hu => by
          have := markText_any (k0 + j * 4 + 1) (by omega) (by omega) u
          rw [show ((k0 + j * 4 + 1 : Nat) : Int) = (k0 : Int) + (j : Int) * 4 + 1 by omega] at this
          exact this.mono fun _ _ ⟨he, hb⟩ => ⟨he, Below.trans hu (hb.mono (Below.size hu))⟩
        have HT2 : Hid (∀ u : World, Good w u → Calls Tryz.prog 50 #[.int .i64 ((k0 : Int) + (j : Int) * 4 + 2)] u fun e w' => e = .returned (.string (mk (k0 + j * 4 + 2))) ∧ Good w w') := fun u hu => by
          have := markText_any (k0 + j * 4 + 2) (by omega) (by omega) u
          rw [show ((k0 + j * 4 + 2 : Nat) : Int) = (k0 : Int) + (j : Int) * 4 + 2 by omega] at this
          exact this.mono fun _ _ ⟨he, hb⟩ => ⟨he, Below.trans hu (hb.mono (Below.size hu))⟩
        have HT3 : Hid (∀ u : World, Good w u → Calls Tryz.prog 50 #[.int .i64 ((k0 : Int) + (j : Int) * 4 + 3)] u fun e w' => e = .returned (.string (mk (k0 + j * 4 + 3))) ∧ Good w w') := fun u hu => by
          have := markText_any (k0 + j * 4 + 3) (by omega) (by omega) u
          rw [show ((k0 + j * 4 + 3 : Nat) : Int) = (k0 : Int) + (j : Int) * 4 + 3 by omega] at this
          exact this.mono fun _ _ ⟨he, hb⟩ => ⟨he, Below.trans hu (hb.mono (Below.size hu))⟩
        have b1 : (0 : Int) ≤ (j : Int) := by omega
        have b2 : (j : Int) < (n : Int) := by omega
        have e0 := (HK.out _ hb).1
        have S0 : Good w wr.drew := hb.drew
        clear hc c0 c1 c2 c3
        go_wp2
        go_region_held3 (fun u => Good w u ∧ u.cell? ⟨b, off + j * 4 + 1, none⟩ = some (.string (mk (k0 + j * 4 + 1))))
          (first | exact ⟨S1, (HK.out _ S1).2.1⟩ | exact ⟨S0, (HK.out _ S0).2.1⟩)
          ((go_at_call 50; refine (HT1.out _ S0).mono ?_; rintro e w1 ⟨rfl, S1⟩))
        clear S0 HT1
        have T1 : Good w w1.drew := Below.drew S1
        go_wp2
        go_region_held3 (fun u => Good w u ∧ u.cell? ⟨b, off + j * 4 + 2, none⟩ = some (.string (mk (k0 + j * 4 + 2))))
          (first | exact ⟨S2, (HK.out _ S2).2.2.1⟩ | exact ⟨T1, (HK.out _ T1).2.2.1⟩)
          ((go_at_call 50; refine (HT2.out _ T1).mono ?_; rintro e w2 ⟨rfl, S2⟩))
        clear T1 HT2
        have T2 : Good w w2.drew := Below.drew S2
        go_wp2
        go_region_held3 (fun u => Good w u ∧ u.cell? ⟨b, off + j * 4 + 3, none⟩ = some (.string (mk (k0 + j * 4 + 3))))
          (first | exact ⟨S3, (HK.out _ S3).2.2.2⟩ | exact ⟨T2, (HK.out _ T2).2.2.2⟩)
          ((go_at_call 50; refine (HT3.out _ T2).mono ?_; rintro e w3 ⟨rfl, S3⟩))
        clear T2 HT3
        clear HK
        go_wp2
        exact ⟨⟨j + 1, by omega, by go_num, by go_num, S3⟩, by simp [intOf]; omega⟩
    · obtain rfl : j = n := by omega
      go_wp2
      go_ret
      exact ⟨rfl, hb⟩
end Go.Proofs.YthnibebljbljdaaGreatDoor.F
namespace Go.Proofs.YthnibebljbljdaaGreatDoor
open Go.RowKit Vt

/-- the answer: acts that are ours, in blocks from lo on, or none -/
structure OA (u : World) (lo hi : Nat) (a : Option Addr) (m : Nat) (xs : List F.ActV) : Prop where
  len : xs.length = m
  own : m = 0 ∨ ∃ g, a = some ⟨g, 0, none⟩ ∧ g < hi ∧ u.ownsRow lo 83 4 (.slice (some ⟨g, 0, none⟩) m m) m (F.acells xs)
theorem OA.as {u : World} {lo hi : Nat} {a : Option Addr} {m : Nat} {xs : List F.ActV} (h : OA u lo hi a m xs) : F.As u u.heap.size a m xs := by
  rcases h.own with h0 | ⟨g, rfl, hg, ho⟩
  · exact ⟨h.len, .inl h0⟩
  · exact F.As_of_own ho
theorem OA.trn {u v : World} {lo hi : Nat} {a : Option Addr} {m : Nat} {xs : List F.ActV} {P : Nat → Prop} (h : OA u lo hi a m xs) (ht : Trn P u v) (hP : ∀ g, lo ≤ g → g < hi → ¬ P g) : OA v lo hi a m xs := by
  refine ⟨h.len, h.own.imp id ?_⟩
  rintro ⟨g, rfl, hh, ho⟩
  exact ⟨g, rfl, hh, own_trnL ho ht (fun g' hg => by
    simp [Value.ownBlock] at hg
    subst hg
    exact hP g (ho.lt g rfl).1 hh)⟩
theorem OA.up {u v : World} {lo hi : Nat} {a : Option Addr} {m : Nat} {xs : List F.ActV} (h : OA u lo hi a m xs) (hb : Below u.heap.size u v) : OA v lo hi a m xs := h.trn (trn_belowL hb) (fun _ _ _ h => h)
theorem OA.low {u : World} {lo lo' hi : Nat} {a : Option Addr} {m : Nat} {xs : List F.ActV} (h : OA u lo hi a m xs) (hl : lo' ≤ lo) : OA u lo' hi a m xs :=
  ⟨h.len, h.own.imp id fun ⟨g, e, hh, ho⟩ => ⟨g, e, hh, own_mono ho hl⟩⟩
/-- the two acts that add a frame to the log and keep it -/
def lgX (f : ByteArray) : List F.ActV := [⟨1, logS, f, ⟨#[]⟩⟩, ⟨2, logS, ⟨#[]⟩, ⟨#[]⟩⟩]
theorem lgX_cells (f : ByteArray) : F.acells (lgX f) = lgC f := rfl
set_option maxRecDepth 100000 in
theorem markActS_zero15 (a : Option Addr) (c : Nat) (k : Int) (w : World) : Calls Tryz.prog 21 #[.slice a 0 c, .int .i64 k] w fun e w' => e = .returned (.int .i64 k) ∧ w' = w := by
  go_enter Tryz.func21, Tryz.ntmps21
  go_wp2
  go_loopw [1, 5] (fun p q wr => p = .int .i64 k ∧ q = .int .i64 0 ∧ wr = w) (fun _ _ _ => 0)
  case atStart => exact ⟨rfl, rfl, rfl⟩
  case round =>
    obtain ⟨rfl, rfl, rfl⟩ := hrel
    go_wp2
    go_ret
    exact ⟨rfl, rfl⟩
theorem OA.mark {u : World} {lo hi : Nat} {a : Option Addr} {m : Nat} {xs : List F.ActV} (h : OA u lo hi a m xs) (hm : m ≤ 1048576) :
    Calls Tryz.prog 21 #[.slice a m m, .int .i64 1] u fun e v => e = .returned (.int .i64 ((1 : Int) + (m : Int) * 4)) ∧ OA v lo hi a m (F.amarks 1 m) ∧ Trn (fun k => lo ≤ k ∧ k < hi) u v := by
  rcases h.own with h0 | ⟨g, rfl, hg, ho⟩
  · subst h0
    refine (markActS_zero15 a 0 1 u).mono ?_
    rintro e v ⟨rfl, rfl⟩
    exact ⟨by simp, ⟨by simp [F.amarks], .inl rfl⟩, ⟨rfl, rfl, rfl, Nat.le_refl _, fun _ _ _ => rfl⟩⟩
  · refine (F.markActS_marks lo g m m 1 _ hm (by omega) (by omega) u ho).mono ?_
    rintro e v ⟨rfl, ho', hgr⟩
    exact ⟨by simp, ⟨F.amarks_length _ _, .inr ⟨g, rfl, hg, ho'⟩⟩, trn_impL (Trn.of_grown hgr) (fun k hk => by
      simp at hk
      subst hk
      exact ⟨(ho.lt g rfl).1, hg⟩)⟩
theorem OA.held {u : World} {lo hi : Nat} {a : Option Addr} {m : Nat} (h : OA u lo hi a m (F.amarks 1 m)) (hm : m ≤ 1048576) :
    Calls Tryz.prog 22 #[.slice a m m, .int .i64 1] u fun e v => e = .returned (.int .i64 ((1 : Int) + (m : Int) * 4)) ∧ Below u.heap.size u v := by
  have := F.heldActS_any m 1 a m hm (by omega) (by omega) u h.as
  simpa using this
theorem OA.eq {u : World} {lo lo' hi hi' : Nat} {a a' : Option Addr} {m : Nat} {xs : List F.ActV} (h : OA u lo hi a m xs) (h' : OA u lo' hi' a' m xs) (hm : m ≤ 1048576) :
    Calls Tryz.prog 16 #[.slice a m m, .slice a' m m] u fun e v => e = .returned (.bool true) ∧ Below u.heap.size u v := F.eqActS_same xs m a a' m m hm u h.as h'.as
end Go.Proofs.YthnibebljbljdaaGreatDoor
