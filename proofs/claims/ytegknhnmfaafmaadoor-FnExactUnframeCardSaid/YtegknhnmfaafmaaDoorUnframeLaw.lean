/- The walk of FnExactUnframe, where the program's table stands. -/
import Derived.Test.YtegknhnmfaafmaaDoorSUnframe
import Derived.Test.YtegknhnmfaafmaaDoorMarks
import Derived.OpenShut
namespace Go.Proofs.YtegknhnmfaafmaaDoor
open Go.RowKit

theorem sUnframe_any (s : ByteArray) (hs : s.size ≤ maxLen) (w : World) : Calls Tryd.prog 13 #[.string s] w (UnOut s w) := by
  by_cases h : s.size ≤ 20000
  · exact sUnframe_short s h w
  · exact sUnframe_long s (by omega) hs w

theorem iUnframe_any (s : ByteArray) (hs : s.size ≤ maxLen) (w : World) (ht : Tab w) : Calls Tryd.prog 10 #[.string s] w (UnOut s w) := by
  by_cases h : s.size ≤ 20000
  · exact iUnframe_short s h w ht
  · exact iUnframe_long s (by omega) hs w

/-- a row of no text -/
def OutZ (bf : Int) (w : World) (e : Ending) (w' : World) : Prop := ∃ a c, e = .returned (.tuple #[.slice a 0 c, .int .i64 bf]) ∧ Below w.heap.size w w'
/-- a row of n texts -/
def OutP (bf : Int) (n : Nat) (ss : List ByteArray) (w : World) (e : Ending) (w' : World) : Prop :=
  ∃ g c, e = .returned (.tuple #[.slice (some ⟨g, 0, none⟩) n c, .int .i64 bf]) ∧ w'.ownsRow w.heap.size 9 1 (.slice (some ⟨g, 0, none⟩) n c) n (ss.map Value.string) ∧ Below w.heap.size w w'

theorem outZ {s : ByteArray} {w : World} {e : Ending} {w' : World} (h : UnOut s w e w') (hz : (un s).1 = []) : OutZ ((un s).2 : Int) w e w' := by
  obtain ⟨v, he, ho, hb⟩ := h
  rw [hz] at ho
  rcases ho.2 with ⟨rfl, _⟩ | ⟨g, cap, cur, rfl, _⟩
  · exact ⟨_, _, he, hb⟩
  · exact ⟨_, _, he, hb⟩

theorem outP {s : ByteArray} {w : World} {e : Ending} {w' : World} (h : UnOut s w e w') (hz : 0 < (un s).1.length) :
    OutP ((un s).2 : Int) (un s).1.length (un s).1 w e w' := by
  obtain ⟨v, he, ho, hb⟩ := h
  have ho' := ho
  rcases ho.2 with ⟨_, h0⟩ | ⟨g, cap, cur, rfl, _⟩
  · omega
  · exact ⟨g, cap, he, ho', hb⟩

theorem law_zero (s : ByteArray) (hs : s.size ≤ 1048576) (bf : Int) (w : World) (hS : ∀ w, Calls Tryd.prog 13 #[.string s] w (OutZ bf w))
    (hI : ∀ w1, Below w.heap.size w w1 → Calls Tryd.prog 10 #[.string s] w1 (OutZ bf w1)) :
    Calls Tryd.prog 5 #[.string s] w fun e w' => e = .returned (.bool true) ∧ Below w.heap.size w w' := by
  have HS : Hid _ := hS
  have HI : Hid _ := hI
  clear hS hI
  go_enter Tryd.func5, Tryd.ntmps5
  go_wp2_with (go_at_call 13; refine (HS.out _).mono ?_; rintro e w1 ⟨a0, c0, rfl, hb1⟩; refine Hid.out ?_)
  refine (show ∀ {p : Prop}, p → Hid p from fun h => h) ?_
  go_wp2_with (go_at_call 10; refine (HI.out w1 hb1).mono ?_; rintro e w2 ⟨a1, c1, rfl, hb2⟩; refine Hid.out ?_)
  refine (show ∀ {p : Prop}, p → Hid p from fun h => h) ?_
  have k2 := hb1.trans (hb2.mono hb1.size)
  clear hb1 hb2
  go_wp2_with (go_at_call 14; refine (eqS_zero _ _ _ _ _).mono ?_; rintro e w3 ⟨rfl, hb3⟩; refine Hid.out ?_)
  refine (show ∀ {p : Prop}, p → Hid p from fun h => h) ?_
  have k3 := k2.trans (hb3.mono k2.size)
  clear k2 hb3
  go_wp2_with (go_at_call 15; refine (markS_zero _ _ _ _).mono ?_; rintro e w4 ⟨rfl, hw4⟩; subst hw4; refine Hid.out ?_)
  refine (show ∀ {p : Prop}, p → Hid p from fun h => h) ?_
  go_wp2_with (go_at_call 16; refine (heldS_zero _ _ _ _).mono ?_; rintro e w5 ⟨rfl, hw5⟩; subst hw5; refine Hid.out ?_)
  refine (show ∀ {p : Prop}, p → Hid p from fun h => h) ?_
  go_wp2_with (go_at_call 10; refine (HI.out _ k3).mono ?_; rintro e w6 ⟨a2, c2, rfl, hb6⟩; refine Hid.out ?_)
  refine (show ∀ {p : Prop}, p → Hid p from fun h => h) ?_
  have k6 := k3.trans (hb6.mono k3.size)
  clear k3 hb6
  go_wp2_with (go_at_call 14; refine (eqS_zero _ _ _ _ _).mono ?_; rintro e w7 ⟨rfl, hb7⟩; refine Hid.out ?_)
  refine (show ∀ {p : Prop}, p → Hid p from fun h => h) ?_
  have k7 := k6.trans (hb7.mono k6.size)
  clear k6 hb7
  go_wp2_with (go_at_call 16; refine (heldS_zero _ _ _ _).mono ?_; rintro e w8 ⟨rfl, hw8⟩; subst hw8)
  go_ret
  exact ⟨rfl, k7⟩

theorem cells_of {w : World} {base g c n : Nat} {ss : List ByteArray} (hl : ss.length = n) (h : w.ownsRow base 9 1 (.slice (some ⟨g, 0, none⟩) n c) n (ss.map Value.string)) :
    ∀ j (hj : j < ss.length), w.cell? ⟨g, j, none⟩ = some (.string (ss[j])) := by
  intro j hj
  rw [h.cellAt j (by omega)]
  simp [hj]

theorem row_below {w w' : World} {base g c n : Nat} {xs : List Value} (h : w.ownsRow base 9 1 (.slice (some ⟨g, 0, none⟩) n c) n xs) (hb : Below w.heap.size w w') :
    w'.ownsRow base 9 1 (.slice (some ⟨g, 0, none⟩) n c) n xs :=
  h.kept (grown_of_below hb none) (.inr (by simp [Value.ownBlock]))

theorem hidIt {p : Prop} (h : p) : Hid p := h

set_option maxRecDepth 100000 in
set_option maxHeartbeats 2000000 in
theorem law_pos (s : ByteArray) (hs : s.size ≤ 1048576) (bf : Int) (n : Nat) (ss : List ByteArray) (hl : ss.length = n) (hn : n ≤ 4000) (w : World) (hS : ∀ w, Calls Tryd.prog 13 #[.string s] w (OutP bf n ss w))
    (hI : ∀ w1, Below w.heap.size w w1 → Calls Tryd.prog 10 #[.string s] w1 (OutP bf n ss w1)) :
    Calls Tryd.prog 5 #[.string s] w fun e w' => e = .returned (.bool true) ∧ Below w.heap.size w w' := by
  have HS := hidIt (hS)
  have HI := hidIt (hI)
  have HL := hidIt (hl)
  clear hS hI hl
  go_enter Tryd.func5, Tryd.ntmps5
  go_wp2_with (go_at_call 13; refine (HS.out _).mono ?_; rintro e w1 ⟨g0, c0, rfl, o0, hb1⟩; refine Hid.out ?_)
  refine (show ∀ {p : Prop}, p → Hid p from fun h => h) ?_
  go_wp2_with (go_at_call 10; refine (HI.out w1 hb1).mono ?_; rintro e w2 ⟨g1, c1, rfl, o1, hb2⟩; refine Hid.out ?_)
  refine (show ∀ {p : Prop}, p → Hid p from fun h => h) ?_
  have l0 := o0.lt g0 rfl
  have l1 := o1.lt g1 rfl
  have hne : g0 ≠ g1 := by omega
  have p0 := row_below o0 hb2
  have k2 := hb1.trans (hb2.mono hb1.size)
  have s1 := hb1.size
  have E1 := hidIt (eqS_same g1 g0 c1 c0 n ss HL.out (by omega) w2 (cells_of HL.out o1) (cells_of HL.out p0))
  have P0 := hidIt (p0)
  have O1 := hidIt (o1)
  clear o0 o1 p0 hb1 hb2
  go_wp2_with (go_at_call 14; refine E1.out.mono ?_; rintro e w3 ⟨rfl, hb3⟩; refine Hid.out ?_)
  refine (show ∀ {p : Prop}, p → Hid p from fun h => h) ?_
  have M1 := hidIt (markS_any w1.heap.size g1 c1 n 1 ss HL.out (by omega) (by omega) (by omega) w3 (row_below O1.out hb3))
  have Q0 := hidIt (row_below P0.out hb3)
  have k3 := k2.trans (hb3.mono k2.size)
  have s3 := k3.size
  clear k2 hb3 E1 P0 O1
  go_wp2_with (go_at_call 15; refine M1.out.mono ?_; rintro e w4 ⟨rfl, ⟨ms, hml, hmk, o4⟩, hg4⟩; refine Hid.out ?_)
  refine (show ∀ {p : Prop}, p → Hid p from fun h => h) ?_
  have q0 := World.ownsRow.kept Q0.out hg4 (.inr (by simp [Value.ownBlock]; exact hne))
  have k4 : Below w.heap.size w w4 := k3.grown hg4 (by omega) (fun k hk => by cases hk; omega)
  have D1 := hidIt (heldS_any w1.heap.size g1 c1 n 1 ms hml (by omega) (by omega) (by omega) hmk w4 o4)
  have O4 := hidIt (o4)
  have R0 := hidIt (q0)
  have HML := hidIt (hml)
  have HMK := hidIt (hmk)
  clear q0 o4 k3 hg4 Q0 M1 hml hmk
  go_wp2_with (go_at_call 16; refine D1.out.mono ?_; rintro e w5 ⟨rfl, hb5⟩; refine Hid.out ?_)
  refine (show ∀ {p : Prop}, p → Hid p from fun h => h) ?_
  have O5 := hidIt (row_below O4.out hb5)
  have R5 := hidIt (row_below R0.out hb5)
  have k5 := k4.trans (hb5.mono k4.size)
  have s5 := k5.size
  clear k4 hb5 O4 R0 D1
  go_wp2_with (go_at_call 10; refine (HI.out _ k5).mono ?_; rintro e w6 ⟨g2, c2, rfl, o2, hb6⟩; refine Hid.out ?_)
  refine (show ∀ {p : Prop}, p → Hid p from fun h => h) ?_
  have O6 := hidIt (row_below O5.out hb6)
  have R6 := row_below R5.out hb6
  have k6 := k5.trans (hb6.mono k5.size)
  have E2 := hidIt (eqS_same g2 g0 c2 c0 n ss HL.out (by omega) w6 (cells_of HL.out o2) (cells_of HL.out R6))
  clear k5 hb6 O5 R5 R6 o2
  go_wp2_with (go_at_call 14; refine E2.out.mono ?_; rintro e w7 ⟨rfl, hb7⟩; refine Hid.out ?_)
  refine (show ∀ {p : Prop}, p → Hid p from fun h => h) ?_
  have D2 := hidIt (heldS_any w1.heap.size g1 c1 n 1 ms HML.out (by omega) (by omega) (by omega) HMK.out w7 (row_below O6.out hb7))
  have k7 := k6.trans (hb7.mono k6.size)
  clear k6 hb7 O6 E2
  go_wp2_with (go_at_call 16; refine D2.out.mono ?_; rintro e w8 ⟨rfl, hb8⟩)
  go_ret
  exact ⟨rfl, k7.trans (hb8.mono k7.size)⟩

theorem fnExactUnframe.walk (s : ByteArray) (hs : s.size ≤ maxLen) (w : World) (ht : Tab w) :
    Calls Tryd.prog 5 #[.string s] w fun e w' => e = .returned (.bool true) ∧ Below w.heap.size w w' := by
  by_cases hb : s.size ≤ 1048576
  · cases hz : (un s).1 with
    | nil => exact law_zero s hb _ w (fun w => (sUnframe_any s hs w).mono fun _ _ h => outZ h hz) (fun w1 hb1 => (iUnframe_any s hs w1 (ht.below hb1 (Nat.le_refl _))).mono fun _ _ h => outZ h hz)
    | cons a r =>
      have hp : 0 < (un s).1.length := by rw [hz]; simp
      exact law_pos s hb _ _ _ rfl (un_few s).1 w (fun w => (sUnframe_any s hs w).mono fun _ _ h => outP h hp) (fun w1 hb1 => (iUnframe_any s hs w1 (ht.below hb1 (Nat.le_refl _))).mono fun _ _ h => outP h hp)
  · clear ht
    unfold maxLen at hs
    go_enter Tryd.func5, Tryd.ntmps5
    go_wp2
    go_ret
    exact ⟨rfl, Below.refl _ _⟩

end Go.Proofs.YtegknhnmfaafmaaDoor
