/- The program's reader of records: its parts. What the specification's l01Var and l01In answer. What the specification's ReadVar answers, at every text and place: the number 'rv' and the place behind it, or nothing. The specification's reader of parts. The specification's reader of edges. Boxes of any cells; a drawn region walked state by state; one old block alone is turned. -/
import Derived.Test.YtcieanhbipbhgaaGreatDoorKRp14
import Derived.Test.YtcieanhbipbhgaaGreatDoorKIntsO10
import Derived.WalkLawsBesides
import Derived.Deep.RegionHeld3
import Derived.Test.YtcieanhbipbhgaaGreatDoorKMem
import Derived.Test.YtcieanhbipbhgaaGreatDoorKOr10
import Derived.WalkSmall
import Derived.Lib.Strings
namespace Go.Proofs.YtcieanhbipbhgaaGreatDoor
open Go.RowKit Vt

/-- what a reader of records panics with -/
def PV : List PanicEntry := [{ v := .iface 93 (.agg #[]), recovered := false }]
/-- the reader stands in block G at the place p of the text -/
def RrAt (w : World) (G : Nat) (n : Int) (s : ByteArray) (p : Nat) : Prop := w.heap[G]? = some (.cells #[.int .i64 n, .string s, .int .i64 (p : Int)] 73 (0, 0)) ∧ p ≤ s.size
section
variable {w w' : World} {G : Nat} {n : Int} {s : ByteArray} {p : Nat}
theorem RrAt.lt (h : RrAt w G n s p) : G < w.heap.size := (Array.getElem?_eq_some_iff.1 h.1).1
theorem RrAt.c0 (h : RrAt w G n s p) : w.cell? ⟨G, 0, none⟩ = some (.int .i64 n) := by rw [cell_of_row w G 0 _ _ _ h.1]; rfl
theorem RrAt.c1 (h : RrAt w G n s p) : w.cell? ⟨G, 1, none⟩ = some (.string s) := by rw [cell_of_row w G 1 _ _ _ h.1]; rfl
theorem RrAt.c2 (h : RrAt w G n s p) : w.cell? ⟨G, 2, none⟩ = some (.int .i64 (p : Int)) := by rw [cell_of_row w G 2 _ _ _ h.1]; rfl
theorem RrAt.fz (h : RrAt w G n s p) (j : Nat) : w.frozen? ⟨G, j, none⟩ = false := frozen_of_row w G j _ _ h.1
theorem RrAt.set (h : RrAt w G n s p) (q : Nat) (hq : q ≤ s.size) : RrAt (w.setCell ⟨G, 2, none⟩ (.int .i64 (q : Int))) G n s q := ⟨st2 h.1, hq⟩
theorem RrAt.grown {row : Option Nat} (h : RrAt w G n s p) (hg : w.grownBy w' row) (hne : row ≠ some G) : RrAt w' G n s p := ⟨by rw [hg.block G h.lt (fun e => hne e.symm)]; exact h.1, h.2⟩
end
theorem need_yes (G : Nat) (w : World) : Calls Tryz.prog 64 #[.pointer (some ⟨G, 0, none⟩), .bool true] w fun e w' => e = .returned (.tuple #[]) ∧ w' = w := by
  go_enter Tryz.func64, Tryz.ntmps64
  go_wp2
  refine bodyPost_end (v := .tuple #[]) ?_ rfl ?_
  · simp [results, Tryz.results64, go_sem]
  exact ⟨rfl, rfl⟩
theorem need_no (G : Nat) (w : World) : Calls Tryz.prog 64 #[.pointer (some ⟨G, 0, none⟩), .bool false] w fun e w' => e = .panicked PV ∧ w' = w := by
  go_enter Tryz.func64, Tryz.ntmps64
  go_wp2
  exact ⟨rfl, rfl, rfl⟩
set_option maxHeartbeats 1000000 in
theorem kind_yes (n : Int) (s : ByteArray) (hs : s.size ≤ 1048576) (p : Nat) (hp : p < s.size) (G : Nat) (w : World) (h : RrAt w G n s p) :
    Calls Tryz.prog 59 #[.pointer (some ⟨G, 0, none⟩)] w fun e w' => e = .returned (.int .i64 ((s[p]).toNat : Int)) ∧ RrAt w' G n s (p + 1) ∧ w.grownBy w' (some G) := by
  have c1 := h.c1
  have c2 := h.c2
  have f2 := h.fz 2
  have e1 : decide ((p : Int) < (s.size : Int)) = true := by simp; omega
  have b1 : (0 : Int) ≤ (p : Int) := by omega
  have b2 : (p : Int) < (s.size : Int) := by omega
  have wp1 : IntKind.i64.wrap ((p : Int) + 1) = (p : Int) + 1 := by rw [IntKind.wrap_i64]; omega
  have wp2 : IntKind.i64.wrap ((p : Int) + 1 - 1) = (p : Int) := by rw [IntKind.wrap_i64]; omega
  have HN := hideIt (need_yes G)
  have HH := hideIt h
  clear h
  go_enter Tryz.func59, Tryz.ntmps59
  go_wp2
  go_region_held3 (fun u => u.cell? ⟨G, 1, none⟩ = some (.string s) ∧ u.cell? ⟨G, 2, none⟩ = some (.int .i64 (p : Int))) (exact ⟨c1, c2⟩)
    ((go_at_call 64; refine (HN.out _).mono ?_; rintro e w1 ⟨rfl, rfl⟩))
  go_wp2
  go_quiet (fail)
  go_wp2
  go_ret
  refine ⟨?_, ⟨st2 HH.out.1, by omega⟩, gr_trans (gr_trans (gr_drew _ _) (gr_set _ _ _ _)) (gr_drews _ _ _)⟩
  have h8 := UInt8.toNat_lt s[p]
  have hw : wrap64 ((s[p]).toNat : Int) = ((s[p]).toNat : Int) := by unfold wrap64; omega
  exact congrArg (fun z => Ending.returned (.int .i64 z)) hw
theorem kind_no (n : Int) (s : ByteArray) (_hs : s.size ≤ 1048576) (G : Nat) (w : World) (h : RrAt w G n s s.size) :
    Calls Tryz.prog 59 #[.pointer (some ⟨G, 0, none⟩)] w fun e w' => e = .panicked PV ∧ w.grownBy w' (some G) := by
  have c1 := h.c1
  have c2 := h.c2
  have HN := hideIt (need_no G)
  clear h
  go_enter Tryz.func59, Tryz.ntmps59
  go_wp2
  refine wp_region_held_drew (S := (fun u => u.cell? ⟨G, 1, none⟩ = some (.string s) ∧ u.cell? ⟨G, 2, none⟩ = some (.int .i64 (s.size : Int)))) (by kernel_rfl) ⟨c1, c2⟩ (fun hHeld => ?_)
  refine wpAnyH_take (i := 0) (v := ?_) rfl (by kernel_rfl) (by kernel_rfl) (by kernel_rfl) (fun _ _ _ h => h) (Or.inl ⟨by rfl, ?_⟩) (by assumption) ?_
  rotate_left
  · intro w hSw; (try dsimp only at hSw); go_simp; try with_reducible rfl
  try simp only [Act.put, List.getElem_toArray, List.getElem_cons_zero, List.setIfInBounds_toArray, List.set_cons_zero, List.set_cons_succ]
  refine wpAnyH_take (i := 1) (v := ?_) rfl (by kernel_rfl) (by kernel_rfl) (by kernel_rfl) (fun _ _ _ h => h) (Or.inl ⟨by rfl, ?_⟩) (by assumption) ?_
  rotate_left
  · intro w hSw; (try dsimp only at hSw); go_simp; try with_reducible rfl
  try simp only [Act.put, List.getElem_toArray, List.getElem_cons_succ, List.getElem_cons_zero, List.setIfInBounds_toArray, List.set_cons_zero, List.set_cons_succ]
  refine wpAnyH_take (i := 2) (v := ?_) rfl (by kernel_rfl) (by kernel_rfl) (by kernel_rfl) (fun _ _ _ h => h) (Or.inl ⟨by rfl, ?_⟩) (by assumption) ?_
  rotate_left
  · intro w hSw; (try dsimp only at hSw); go_simp; try with_reducible rfl
  try simp only [Act.put, List.getElem_toArray, List.getElem_cons_succ, List.getElem_cons_zero, List.setIfInBounds_toArray, List.set_cons_zero, List.set_cons_succ]
  refine wpAnyH_take (i := 3) (v := ?_) rfl (by kernel_rfl) (by kernel_rfl) (by kernel_rfl) (fun _ _ _ h => h) (Or.inl ⟨by rfl, ?_⟩) (by assumption) ?_
  rotate_left
  · intro w hSw; (try dsimp only at hSw); go_simp; try with_reducible rfl
  try simp only [Act.put, List.getElem_toArray, List.getElem_cons_succ, List.getElem_cons_zero, List.setIfInBounds_toArray, List.set_cons_zero, List.set_cons_succ]
  refine wpAnyH_take (i := 4) (v := ?_) rfl (by kernel_rfl) (by kernel_rfl) (by kernel_rfl) (fun _ _ _ h => h) (Or.inl ⟨by rfl, ?_⟩) (by assumption) ?_
  rotate_left
  · intro w hSw; (try dsimp only at hSw); go_simp; try with_reducible rfl
  try simp only [Act.put, List.getElem_toArray, List.getElem_cons_succ, List.getElem_cons_zero, List.setIfInBounds_toArray, List.set_cons_zero, List.set_cons_succ]
  refine wpAnyH_take (i := 5) (v := ?_) rfl (by kernel_rfl) (by kernel_rfl) (by kernel_rfl) (fun _ _ _ h => h) (Or.inl ⟨by rfl, ?_⟩) (by assumption) ?_
  rotate_left
  · intro w hSw; (try dsimp only at hSw); go_simp; try with_reducible rfl
  try simp only [Act.put, List.getElem_toArray, List.getElem_cons_succ, List.getElem_cons_zero, List.setIfInBounds_toArray, List.set_cons_zero, List.set_cons_succ]
  refine wpAnyH_take (i := 6) (v := ?_) rfl (by kernel_rfl) (by kernel_rfl) (by kernel_rfl) (fun _ _ _ h => h) (Or.inl ⟨by rfl, ?_⟩) (by assumption) ?_
  rotate_left
  · intro w hSw; (try dsimp only at hSw); go_simp; try with_reducible rfl
  try simp only [Act.put, List.getElem_toArray, List.getElem_cons_succ, List.getElem_cons_zero, List.setIfInBounds_toArray, List.set_cons_zero, List.set_cons_succ]
  refine wpAnyH_take (i := 7) (v := ?_) rfl (by kernel_rfl) (by kernel_rfl) (by kernel_rfl) (fun _ _ _ h => h) (Or.inl ⟨by rfl, ?_⟩) (by assumption) ?_
  rotate_left
  · intro w hSw; (try dsimp only at hSw); go_simp; try with_reducible rfl
  try simp only [Act.put, List.getElem_toArray, List.getElem_cons_succ, List.getElem_cons_zero, List.setIfInBounds_toArray, List.set_cons_zero, List.set_cons_succ]
  refine wpAnyH_take (i := 8) (v := ?_) rfl (by kernel_rfl) (by kernel_rfl) (by kernel_rfl) (fun _ _ _ h => h) (Or.inl ⟨by rfl, ?_⟩) (by assumption) ?_
  rotate_left
  · intro w hSw; (try dsimp only at hSw); go_simp; try with_reducible rfl
  try simp only [Act.put, List.getElem_toArray, List.getElem_cons_succ, List.getElem_cons_zero, List.setIfInBounds_toArray, List.set_cons_zero, List.set_cons_succ]
  refine wpAnyH_take (i := 9) (v := ?_) rfl (by kernel_rfl) (by kernel_rfl) (by kernel_rfl) (fun _ _ _ h => h) (Or.inl ⟨by rfl, ?_⟩) (by assumption) ?_
  rotate_left
  · intro w hSw; (try dsimp only at hSw); go_simp; try with_reducible rfl
  try simp only [Act.put, List.getElem_toArray, List.getElem_cons_succ, List.getElem_cons_zero, List.setIfInBounds_toArray, List.set_cons_zero, List.set_cons_succ]
  refine wpAnyH_take (i := 10) (v := ?_) rfl (by kernel_rfl) (by kernel_rfl) (by kernel_rfl) (fun _ _ _ h => h) (Or.inl ⟨by rfl, ?_⟩) (by assumption) ?_
  rotate_left
  · intro w hSw; (try dsimp only at hSw); go_simp; try with_reducible rfl
  try simp only [Act.put, List.getElem_toArray, List.getElem_cons_succ, List.getElem_cons_zero, List.setIfInBounds_toArray, List.set_cons_zero, List.set_cons_succ]
  refine wpAnyH_ready (rs := [11]) (by kernel_rfl) (by simp) ?_
  refine AllReadyH.cons rfl (fun K hK => ?_) AllReadyH.nil
  rw [if_pos]
  rotate_left
  · kernel_rfl
  go_wp2_with (go_at_call 64; refine (HN.out _).mono ?_; rintro e w1 ⟨rfl, rfl⟩; refine Hid.out ?_)
  refine (show ∀ {p : Prop}, p → Hid p from fun h => h) ?_
  exact ⟨rfl, rfl, gr_drew _ _⟩
/-- a number of a record is read at p: k, and behind it j -/
def NumOk (s : ByteArray) (p k j : Nat) : Prop := nx pN (some (from_ s p)) = (k, some (from_ s j)) ∧ k ≤ 100000 ∧ j ≤ s.size
/-- no such number stands there -/
def NumBad (s : ByteArray) (p : Nat) : Prop := (nx pN (some (from_ s p))).2 = none ∨ 100000 < (nx pN (some (from_ s p))).1
theorem num_cases (s : ByteArray) (p : Nat) (hp : p ≤ s.size) : (∃ k j, NumOk s p k j ∧ rv p (from_ s p) = some (k, j)) ∨ NumBad s p ∧ (rv p (from_ s p) = none ∨ ∃ k j, rv p (from_ s p) = some (k, j) ∧ 100000 < k) := by
  cases hr : rv p (from_ s p) with
  | none => exact .inr ⟨.inl (by rw [nx_rv_none hr]), .inl rfl⟩
  | some x =>
    obtain ⟨k, j⟩ := x
    obtain ⟨h1, h2, _⟩ := nx_rv_some hp hr
    by_cases hk : k ≤ 100000
    · exact .inl ⟨k, j, ⟨h1, hk, h2⟩, rfl⟩
    · exact .inr ⟨.inr (by rw [h1]; show 100000 < k; omega), .inr ⟨k, j, rfl, by omega⟩⟩
set_option maxHeartbeats 1000000 in
theorem number_yes (n : Int) (s : ByteArray) (hs : s.size ≤ 1048576) (p k j : Nat) (hr : rv p (from_ s p) = some (k, j)) (hk : k ≤ 100000) (hj : j ≤ s.size) (G : Nat) (w : World) (h : RrAt w G n s p) :
    Calls Tryz.prog 61 #[.pointer (some ⟨G, 0, none⟩)] w fun e w' => e = .returned (.int .i64 (k : Int)) ∧ RrAt w' G n s j ∧ w.grownBy w' (some G) := by
  have c1 := h.c1
  have c2 := h.c2
  have f2 := h.fz 2
  have HV := hideIt (iReadVar_in s hs p h.2)
  rw [hr] at HV
  unfold rvV at HV
  have d1 : decide ((k : Int) ≤ 100000) = true := decide_eq_true (by omega)
  have HN := hideIt (need_yes G)
  have HH := hideIt h
  have HJ := hideIt hj
  clear h hr hj
  go_enter Tryz.func61, Tryz.ntmps61
  go_wp2
  go_region_held3 (fun u => u.cell? ⟨G, 1, none⟩ = some (.string s) ∧ u.cell? ⟨G, 2, none⟩ = some (.int .i64 (p : Int))) (exact ⟨c1, c2⟩)
    ((go_at_call 43; refine (HV.out _).mono ?_; rintro e w1 ⟨rfl, rfl⟩))
  go_wp2_with (go_at_call 64; refine (HN.out _).mono ?_; rintro e w1 ⟨rfl, hw1⟩; subst hw1)
  go_ret
  exact ⟨rfl, ⟨st2 HH.out.1, HJ.out⟩, gr_trans (gr_drew _ _) (gr_set _ _ _ _)⟩
set_option maxHeartbeats 1000000 in
theorem number_no (n : Int) (s : ByteArray) (hs : s.size ≤ 1048576) (p : Nat) (hr : rv p (from_ s p) = none ∨ ∃ k j, rv p (from_ s p) = some (k, j) ∧ 100000 < k) (G : Nat) (w : World) (h : RrAt w G n s p) :
    Calls Tryz.prog 61 #[.pointer (some ⟨G, 0, none⟩)] w fun e w' => e = .panicked PV ∧ w.grownBy w' (some G) := by
  have c1 := h.c1
  have c2 := h.c2
  have HV := hideIt (iReadVar_in s hs p h.2)
  have HN := hideIt (need_no G)
  clear h
  rcases hr with hr | ⟨k, j, hr, hk⟩
  · rw [hr] at HV
    unfold rvV at HV
    clear hr
    go_enter Tryz.func61, Tryz.ntmps61
    go_wp2
    go_region_held3 (fun u => u.cell? ⟨G, 1, none⟩ = some (.string s) ∧ u.cell? ⟨G, 2, none⟩ = some (.int .i64 (p : Int))) (exact ⟨c1, c2⟩)
      ((go_at_call 43; refine (HV.out _).mono ?_; rintro e w1 ⟨rfl, rfl⟩))
    go_wp2_with (go_at_call 64; refine (HN.out _).mono ?_; rintro e w1 ⟨rfl, hw1⟩; subst hw1)
    exact ⟨rfl, rfl, gr_drew _ _⟩
  · rw [hr] at HV
    unfold rvV at HV
    clear hr
    have d1 : decide ((k : Int) ≤ 100000) = false := decide_eq_false (by omega)
    go_enter Tryz.func61, Tryz.ntmps61
    go_wp2
    go_region_held3 (fun u => u.cell? ⟨G, 1, none⟩ = some (.string s) ∧ u.cell? ⟨G, 2, none⟩ = some (.int .i64 (p : Int))) (exact ⟨c1, c2⟩)
      ((go_at_call 43; refine (HV.out _).mono ?_; rintro e w1 ⟨rfl, rfl⟩))
    go_wp2_with (go_at_call 64; refine (HN.out _).mono ?_; rintro e w1 ⟨rfl, hw1⟩; subst hw1)
    exact ⟨rfl, rfl, gr_drew _ _⟩
end Go.Proofs.YtcieanhbipbhgaaGreatDoor
namespace Go.Proofs.YtcieanhbipbhgaaGreatDoor
open Go.RowKit Vt

set_option maxRecDepth 100000 in
set_option maxHeartbeats 1000000 in
theorem l01Var_any (N : Nat) (hN : N ≤ 1000000000) (w : World) :
    Calls Tryz.prog 27 #[.int .i64 (N : Int)] w fun e w' => e = .returned (.string ⟨(vt N).toArray⟩) ∧ Below w.heap.size w w' := by
  obtain ⟨i0, hi, hz0, hz1, hz2⟩ := info_parts info5
  have hlen := vt_length N N (Nat.le_refl _)
  go_enter Tryz.func27, Tryz.ntmps27
  go_wp2
  go_loopw [0, 3] (fun n out wr => ∃ (m : Nat) (pre : List UInt8), m ≤ N ∧ n = .int .i64 m ∧ Hid (pre ++ vt m = vt N) ∧ wr.ownsRow w.heap.size 5 1 out pre.length (bv pre) ∧ Below w.heap.size w wr)
    (fun n _ _ => (intOf n).toNat)
  case atStart => exact ⟨N, [], Nat.le_refl _, rfl, rfl, World.ownsRow_made _ _ _ (Nat.le_refl _) (by unfold maxLen; omega) rfl, (Below.refl _ _).alloc (Nat.le_refl _) _⟩
  case round =>
    obtain ⟨m, pre, hm, rfl, hv, hown, hb⟩ := hrel
    have hl : pre.length + (vt m).length = (vt N).length := by rw [← hv.out]; simp
    have hp := vt_pos m
    have hsz := hb.size
    by_cases hlt : m < 128
    · go_wp2_with (at_builtin; refine wpList_append_own _ rfl _ _ 86 rfl w.heap.size 5 i0 (.int .u8 0) 1 1 Tryz.underlying86 hi hz0 hz1 hz2 rfl (by decide) _ _ _ rfl (hown.alloc _) ⟨wr.heap.size, 0, none⟩ 1 1 [Value.int .u8 (m : Int)] rfl rfl (one_new _ _ _) (by intro u hu; simp at hu; subst hu; rfl) (by unfold maxLen; omega) (by omega) (by simp; omega) ?_)
      intro v1 w1 hown1 hg1 hn1
      have hb1 := below_app hb (Nat.le_refl _) hown hg1
      rw [bv_snoc pre (UInt8.ofNat m) m (by simp; omega)] at hown1
      have HV : pre ++ [UInt8.ofNat m] = vt N := by rw [← vt_small m hlt]; exact hv.out
      rw [HV] at hown1
      obtain ⟨g, cap, hv1, hcv⟩ := conv_own hown1 hn1
      clear HV
      rw [hv1]
      clear hown1 hg1 hown hv1 hn1
      go_wp2
      go_ret
      exact ⟨rfl, hb1⟩
    · go_wp2_with (at_builtin; refine wpList_append_own _ rfl _ _ 86 rfl w.heap.size 5 i0 (.int .u8 0) 1 1 Tryz.underlying86 hi hz0 hz1 hz2 rfl (by decide) _ _ _ rfl (hown.alloc _) ⟨wr.heap.size, 0, none⟩ 1 1 [Value.int .u8 ((m : Int) % 128 + 128)] rfl rfl (one_new _ _ _) (by intro u hu; simp at hu; subst hu; rfl) (by unfold maxLen; omega) (by omega) (by simp; omega) ?_)
      intro v1 w1 hown1 hg1 _
      have hb1 := below_app hb (Nat.le_refl _) hown hg1
      rw [bv_snoc pre (UInt8.ofNat (m % 128 + 128)) _ (by simp; omega)] at hown1
      have HV : Hid ((pre ++ [UInt8.ofNat (m % 128 + 128)]) ++ vt (m / 128) = vt N) := by
        show _ = _
        rw [List.append_assoc, List.singleton_append, ← vt_big m hlt]; exact hv.out
      clear hg1 hown hv
      go_wp2
      go_roundw
      case rel => exact ⟨m / 128, pre ++ [UInt8.ofNat (m % 128 + 128)], by omega, by go_num, HV, by simpa using hown1, hb1⟩
      case measure => simp [intOf]; omega

theorem l01In_yes (x a b : Int) (h1 : a ≤ x) (h2 : x ≤ b) (w : World) :
    Calls Tryz.prog 26 #[.int .i64 x, .int .i64 a, .int .i64 b] w fun e w' => e = .returned (.bool true) ∧ w' = w := by
  have d1 : decide (a ≤ x) = true := by simp [h1]
  have d2 : decide (x ≤ b) = true := by simp [h2]
  go_enter Tryz.func26, Tryz.ntmps26
  go_wp2
  go_ret
  exact ⟨by simp, rfl⟩

theorem l01In_no (x a b : Int) (h : x < a ∨ b < x) (w : World) :
    Calls Tryz.prog 26 #[.int .i64 x, .int .i64 a, .int .i64 b] w fun e w' => e = .returned (.bool false) ∧ w' = w := by
  by_cases h1 : a ≤ x
  · have d1 : decide (a ≤ x) = true := by simp [h1]
    have h2 : ¬ x ≤ b := by omega
    have d2 : decide (x ≤ b) = false := by simp [h2]
    go_enter Tryz.func26, Tryz.ntmps26
    go_wp2
    go_ret
    exact ⟨by simp, rfl⟩
  · have d1 : decide (a ≤ x) = false := by simp [h1]
    go_enter Tryz.func26, Tryz.ntmps26
    go_wp2
    go_ret
    exact ⟨by simp, rfl⟩

end Go.Proofs.YtcieanhbipbhgaaGreatDoor
namespace Go.Proofs.YtcieanhbipbhgaaGreatDoor
open Go.RowKit Vt

theorem l01Var_at (x : Int) (N : Nat) (hx : (N : Int) = x) (hN : N ≤ 1000000000) (w : World) :
    Calls Tryz.prog 27 #[.int .i64 x] w fun e w' => e = .returned (.string ⟨(vt N).toArray⟩) ∧ Below w.heap.size w w' := by
  subst hx
  exact l01Var_any N hN w

theorem Rd.cut {s : ByteArray} {a k u m : Nat} (h : Rd s a k u m) (hk : a + k < s.size) :
    (s.extract a ((a : Int) + (k : Int) + 1).toNat).toList = (from_ s a).take k ++ [s[a + k]] ∧ val ((from_ s a).take k ++ [s[a + k]]) = m + (s[a + k]).toNat % 128 * u := by
  have hl : ((from_ s a).take k).length = k := by simp [from_length]; omega
  have e : ((a : Int) + (k : Int) + 1).toNat = a + (k + 1) := by omega
  constructor
  · rw [Lib.toList_data, Lib.extract_data, e, Nat.add_sub_cancel_left, ← from_snoc s a k hk]
    rfl
  · rw [val_snoc, hl, ← h.unit, ← h.num]

theorem Rd.last_neq {s : ByteArray} {a k u m : Nat} (h : Rd s a k u m) (hk : a + k < s.size) (h5 : k < 5) (hb : (s[a + k]).toNat < 128)
    (ht : (!vt (m + (s[a + k]).toNat % 128 * u) == (s.extract a ((a : Int) + (k : Int) + 1).toNat).toList) = true) : rv a (from_ s a) = none := by
  have hl : ((from_ s a).take k).length = k := by simp [from_length]; omega
  have hc := h.cut hk
  rw [hc.1, ← hc.2] at ht
  have hv := vt_val _ h.bigs (s[a + k]) (by simp [big]; omega)
  refine h.last_none hk h5 hb (.inl ?_)
  rw [hl] at hv
  have hne : ¬ vt (val ((from_ s a).take k ++ [s[a + k]])) = (from_ s a).take k ++ [s[a + k]] := by simpa using ht
  exact Decidable.of_not_not (fun hx => hne (hv.2 hx))

theorem Rd.last_eq {s : ByteArray} {a k u m : Nat} (h : Rd s a k u m) (hk : a + k < s.size) (h5 : k < 5) (hb : (s[a + k]).toNat < 128) (hn : m + (s[a + k]).toNat % 128 * u ≤ 1000000000)
    (ht : (!vt (m + (s[a + k]).toNat % 128 * u) == (s.extract a ((a : Int) + (k : Int) + 1).toNat).toList) = false) : rv a (from_ s a) = some (m + (s[a + k]).toNat % 128 * u, a + k + 1) := by
  have hl : ((from_ s a).take k).length = k := by simp [from_length]; omega
  have hc := h.cut hk
  rw [hc.1, ← hc.2] at ht
  have hv := vt_val _ h.bigs (s[a + k]) (by simp [big]; omega)
  refine h.last_some hk h5 hb ?_ hn
  rw [hl] at hv
  have heq : vt (val ((from_ s a).take k ++ [s[a + k]])) = (from_ s a).take k ++ [s[a + k]] := by simpa using ht
  exact hv.1 heq

theorem sReadVar_out (s : ByteArray) (_hs : s.size ≤ 1048576) (a : Int) (h : a < 0 ∨ s.size < a) (w : World) :
    Calls Tryz.prog 19 #[.string s, .int .i64 a] w fun e w' => e = .returned (rvV none) ∧ w' = w := by
  unfold rvV
  go_enter Tryz.func19, Tryz.ntmps19
  go_wp2_with (go_at_call 26; refine (l01In_no _ _ _ (by omega) _).mono ?_; rintro e w' ⟨rfl, rfl⟩)
  go_ret3
  exact ⟨rfl, rfl⟩

set_option maxHeartbeats 1000000 in
set_option maxRecDepth 100000 in
theorem sReadVar_in (s : ByteArray) (hs : s.size ≤ 1048576) (a : Nat) (h : a ≤ s.size) (w : World) :
    Calls Tryz.prog 19 #[.string s, .int .i64 (a : Int)] w fun e w' => e = .returned (rvV (rv a (from_ s a))) ∧ Below w.heap.size w w' := by
  go_enter Tryz.func19, Tryz.ntmps19
  go_wp2_with (go_at_call 26; refine (l01In_yes _ _ _ (by omega) (by omega) _).mono ?_; rintro e w' ⟨rfl, rfl⟩)
  go_loop [7, 8, 9] (fun n u i => ∃ k U m : Nat, n = .int .i64 m ∧ i = .int .i64 ((a + k : Nat) : Int) ∧ u = .int .i64 U ∧ Rd s a k U m)
    (fun _ _ i => s.size - (intOf i).toNat)
  case atStart => exact ⟨0, 1, 0, rfl, rfl, rfl, Rd.start s a h⟩
  case round =>
    obtain ⟨k, U, m, rfl, rfl, rfl, hr⟩ := hrel
    have hbd := hr.bounds
    have hk5 := hr.k5
    have hle := hr.le
    have hmU : m < U := hbd.2.2.2.2
    by_cases hlt : a + k < s.size
    · by_cases h5 : k < 5
      · have hU : U ≤ 268435456 := hbd.2.2.1 h5
        have hq := mul_bounds (s[a + k]).toNat U hU
        have hc := UInt8.toNat_lt (s[a + k])
        clear hbd
        by_cases hb : (s[a + k]).toNat < 128
        · by_cases hn : (m : Int) + ((s[a + k]).toNat : Int) % 128 * (U : Int) ≤ 1000000000
          · have d3 : decide ((1000000000 : Int) < (m : Int) + ((s[a + k]).toNat : Int) % 128 * (U : Int)) = false := by simp; omega
            have i1 : (0 : Int) ≤ (a : Int) := by omega
            have i2 : (a : Int) ≤ (a : Int) + (k : Int) + 1 := by omega
            have i3 : (a : Int) + (k : Int) + 1 ≤ (s.size : Int) := by omega
            have i4 : IntKind.i64.wrap ((a : Int) + (k : Int) + 1) = (a : Int) + (k : Int) + 1 := by rw [IntKind.wrap_i64]; omega
            have hN : m + (s[a + k]).toNat % 128 * U ≤ 1000000000 := by rw [← int_num] at hn; omega
            go_wp2
            go_region_held3 (fun _ => True) (trivial) ((go_at_call 27; refine (l01Var_at _ (m + (s[a + k]).toNat % 128 * U) (int_num _ _ _) hN _).mono ?_; rintro e w1 ⟨rfl, hb1⟩))
            go_wp2
            · have HO := hr.last_neq hlt h5 hb ‹_›
              go_ret3
              exact ⟨by rw [HO]; rfl, (Below.refl _ _).drew.trans hb1⟩
            · have HO := hr.last_eq hlt h5 hb hN ‹_›
              go_ret3
              exact ⟨by rw [HO]; simp [rvV], (Below.refl _ _).drew.trans hb1⟩
          · have d3 : decide ((1000000000 : Int) < (m : Int) + ((s[a + k]).toNat : Int) % 128 * (U : Int)) = true := by simp; omega
            have HO : Hid _ := hr.last_none hlt h5 hb (.inr (by rw [← int_num] at hn; omega))
            go_wp2
            go_quiet (fail)
            go_wp2
            go_ret3
            exact ⟨by rw [HO.out]; rfl, below_drewN (Below.refl _ _) _⟩
        · have HR := hr.step hlt h5 (by omega)
          go_wp2
          go_round
          case rel => exact ⟨k + 1, U * 128, m + (s[a + k]).toNat % 128 * U, by simp, by go_num, by simp, HR⟩
          case measure => simp [intOf]; omega
      · have HO : Hid _ := hr.out (by omega)
        clear hbd
        go_wp2
        go_ret3
        exact ⟨by rw [HO.out]; rfl, Below.refl _ _⟩
    · have HO : Hid _ := hr.out (by omega)
      clear hbd
      go_wp2
      go_ret3
      exact ⟨by rw [HO.out]; rfl, Below.refl _ _⟩
end Go.Proofs.YtcieanhbipbhgaaGreatDoor
namespace Go.Proofs.YtcieanhbipbhgaaGreatDoor
open Go.RowKit Vt

theorem RdAt.below {e : Prop} {t : TypeId} {w w' : World} {G : Nat} {s : ByteArray} {st : Option (List UInt8)} (h : RdAt e t w G s st) (hb : Below w.heap.size w w') : RdAt e t w' G s st := by
  have hl := h.lt
  obtain ⟨p, f, hG, rest⟩ := h
  exact ⟨p, f, by rw [hb.block G hl]; exact hG, rest⟩

set_option maxRecDepth 100000 in
set_option maxHeartbeats 4000000 in
theorem l09Var_any (s : ByteArray) (hs : s.size ≤ 1048576) (w : World) (G : Nat) (st : Option (List UInt8)) (h : RdAt False 55 w G s st) :
    Calls Tryz.prog 21 #[.pointer (some ⟨G, 0, none⟩)] w fun e w' => e = .returned (.int .i64 (((nx pN st).1 : Nat) : Int)) ∧ RdAt False 55 w' G s (nx pN st).2 ∧ w.grownBy w' (some G) := by
  have hGl := h.lt
  obtain ⟨p, f, hG, hp, hf⟩ := h
  have c0 : w.cell? ⟨G, 0, none⟩ = some (.string s) := by rw [cell_of_row w G 0 _ _ _ hG]; rfl
  have c1 : w.cell? ⟨G, 1, none⟩ = some (.int .i64 (p : Int)) := by rw [cell_of_row w G 1 _ _ _ hG]; rfl
  have HV : Hid (Calls Tryz.prog 19 #[.string s, .int .i64 (p : Int)] w.drew fun e w' => e = .returned (rvV (rv p (from_ s p))) ∧ w'.heap[G]? = some (.cells #[.string s, .int .i64 (p : Int), .bool f] 55 (0, 0)) ∧ w.grownBy w' (some G) ∧
      w'.cell? ⟨G, 0, none⟩ = some (.string s) ∧ w'.cell? ⟨G, 1, none⟩ = some (.int .i64 (p : Int)) ∧ w'.cell? ⟨G, 2, none⟩ = some (.bool f) ∧ w'.frozen? ⟨G, 1, none⟩ = false ∧ w'.frozen? ⟨G, 2, none⟩ = false) :=
    (sReadVar_in s hs p hp w.drew).mono fun _ w' ⟨he, hb⟩ => by
      have hG' : w'.heap[G]? = some (.cells #[.string s, .int .i64 (p : Int), .bool f] 55 (0, 0)) := by rw [hb.block G hGl]; exact hG
      exact ⟨he, hG', gr_trans (gr_drew w _) (gr_below hb _), by rw [cell_of_row w' G 0 _ _ _ hG']; rfl, by rw [cell_of_row w' G 1 _ _ _ hG']; rfl, by rw [cell_of_row w' G 2 _ _ _ hG']; rfl, frozen_of_row w' G 1 _ _ hG', frozen_of_row w' G 2 _ _ hG'⟩
  clear hG
  cases hff : f with
  | true =>
    rw [hff] at HV
    have HS : Hid (nx pN st = (0, none)) := by
      show _ = _
      rcases hf with ⟨h1, _⟩ | ⟨_, h2, _⟩
      · rw [hff] at h1; cases h1
      · rw [h2]; rfl
    have HP := hideIt hp
    generalize hrv : rvV (rv p (from_ s p)) = RV at HV
    have HT : Hid (∃ x y b, RV = .tuple #[.int .i64 x, .int .i64 y, .bool b]) := by
      rw [← hrv]
      cases rv p (from_ s p) with
      | none => exact ⟨_, _, _, rfl⟩
      | some q => exact ⟨_, _, _, rfl⟩
    obtain ⟨x, y, b, rfl⟩ := HT.out
    clear hf hrv HT
    go_enter Tryz.func21, Tryz.ntmps21
    go_wp2
    go_region_held3 (fun u => u.cell? ⟨G, 0, none⟩ = some (.string s) ∧ u.cell? ⟨G, 1, none⟩ = some (.int .i64 (p : Int))) (first | exact ⟨d0, d1⟩ | exact ⟨c0, c1⟩)
      ((go_at_call 19; refine HV.out.mono ?_; rintro e w1 ⟨rfl, hg1, hr1, d0, d1, d2, f1, f2⟩))
    go_wp2
    go_ret
    rw [HS.out]
    exact ⟨rfl, ⟨p, true, st2 hg1, HP.out, .inr ⟨rfl, rfl, fun h => h.elim⟩⟩, gr_trans hr1 (gr_set _ _ _ _)⟩
  | false =>
    rw [hff] at HV
    have hst : st = some (from_ s p) := by
      rcases hf with ⟨_, h2⟩ | ⟨h1, _, _⟩
      · exact h2
      · rw [hff] at h1; cases h1
    subst hst
    have HP := hideIt hp
    clear hf
    cases hr : rv p (from_ s p) with
    | none =>
      rw [hr] at HV
      have HS := hideIt (nx_rv_none hr)
      unfold rvV at HV
      clear hr
      go_enter Tryz.func21, Tryz.ntmps21
      go_wp2
      go_region_held3 (fun u => u.cell? ⟨G, 0, none⟩ = some (.string s) ∧ u.cell? ⟨G, 1, none⟩ = some (.int .i64 (p : Int))) (first | exact ⟨d0, d1⟩ | exact ⟨c0, c1⟩)
        ((go_at_call 19; refine HV.out.mono ?_; rintro e w1 ⟨rfl, hg1, hr1, d0, d1, d2, f1, f2⟩))
      go_wp2
      go_ret
      rw [HS.out]
      exact ⟨rfl, ⟨p, true, st2 hg1, HP.out, .inr ⟨rfl, rfl, fun h => h.elim⟩⟩, gr_trans hr1 (gr_set _ _ _ _)⟩
    | some q =>
      obtain ⟨m, j⟩ := q
      rw [hr] at HV
      have HS := hideIt (nx_rv_some hp hr)
      unfold rvV at HV
      clear hr
      go_enter Tryz.func21, Tryz.ntmps21
      go_wp2
      go_region_held3 (fun u => u.cell? ⟨G, 0, none⟩ = some (.string s) ∧ u.cell? ⟨G, 1, none⟩ = some (.int .i64 (p : Int))) (first | exact ⟨d0, d1⟩ | exact ⟨c0, c1⟩)
        ((go_at_call 19; refine HV.out.mono ?_; rintro e w1 ⟨rfl, hg1, hr1, d0, d1, d2, f1, f2⟩))
      go_wp2
      go_ret
      rw [HS.out.1]
      exact ⟨rfl, ⟨j, false, st1 hg1, HS.out.2.1, .inl ⟨rfl, rfl⟩⟩, gr_trans hr1 (gr_set _ _ _ _)⟩

/-- the text of one byte -/
def oneAt (s : ByteArray) (p : Nat) : ByteArray := s.extract p (p + 1)
theorem oneAt_size (s : ByteArray) (p : Nat) (h : p < s.size) : (oneAt s p).size = 1 := by unfold oneAt; rw [ByteArray.size_extract]; omega
theorem oneAt_is (s : ByteArray) (p : Nat) (h : p < s.size) (h1 : 0 < (oneAt s p).size) : (oneAt s p)[0] = s[p] := by
  have h2 : 0 < (s.extract p (p + 1)).size := h1
  have h3 : (s.extract p (p + 1))[0] = s[p] := by rw [ByteArray.getElem_extract]; simp
  exact h3

set_option maxRecDepth 100000 in
set_option maxHeartbeats 4000000 in
theorem l09Take_any (s : ByteArray) (hs : s.size ≤ 1048576) (w : World) (G : Nat) (st : Option (List UInt8)) (h : RdAt False 55 w G s st) :
    Calls Tryz.prog 23 #[.pointer (some ⟨G, 0, none⟩), .int .i64 1] w fun e w' => ∃ S : ByteArray, e = .returned (.string S) ∧ ((nx pO st).2 ≠ none → S.size = 1 ∧ ∀ h : 0 < S.size, (S[0]).toNat = (nx pO st).1) ∧ RdAt False 55 w' G s (nx pO st).2 ∧ w.grownBy w' (some G) := by
  obtain ⟨p, f, hG, hp, hf⟩ := h
  have c0 : w.cell? ⟨G, 0, none⟩ = some (.string s) := by rw [cell_of_row w G 0 _ _ _ hG]; rfl
  have c1 : w.cell? ⟨G, 1, none⟩ = some (.int .i64 (p : Int)) := by rw [cell_of_row w G 1 _ _ _ hG]; rfl
  have c2 : w.cell? ⟨G, 2, none⟩ = some (.bool f) := by rw [cell_of_row w G 2 _ _ _ hG]; rfl
  have f1 : w.frozen? ⟨G, 1, none⟩ = false := frozen_of_row w G 1 _ _ hG
  have f2 : w.frozen? ⟨G, 2, none⟩ = false := frozen_of_row w G 2 _ _ hG
  have HG := hideIt hG
  have HP := hideIt hp
  clear hG
  cases hff : f with
  | true =>
    rw [hff] at c2 HG
    have HS : Hid (nx pO st = (0, none)) := by
      show _ = _
      rcases hf with ⟨h1, _⟩ | ⟨_, h2, _⟩
      · rw [hff] at h1; cases h1
      · rw [h2]; rfl
    clear hf
    go_enter Tryz.func23, Tryz.ntmps23
    go_wp2
    go_quiet (fail)
    go_wp2
    go_ret
    rw [HS.out]
    exact ⟨_, rfl, fun h => absurd rfl h, ⟨p, true, st2 HG.out, HP.out, .inr ⟨rfl, rfl, fun h => h.elim⟩⟩, gr_trans (gr_drews _ _ _) (gr_set _ _ _ _)⟩
  | false =>
    rw [hff] at c2 HG
    have hst : st = some (from_ s p) := by
      rcases hf with ⟨_, h2⟩ | ⟨h1, _, _⟩
      · exact h2
      · rw [hff] at h1; cases h1
    subst hst
    clear hf
    by_cases hlt : p < s.size
    · have HS := hideIt (nx_oct hlt)
      have d1 : decide ((s.size : Int) - (p : Int) < 1) = false := by simp; omega
      have w1 : IntKind.i64.wrap ((s.size : Int) - (p : Int)) = (s.size : Int) - (p : Int) := by rw [IntKind.wrap_i64]; omega
      have w2 : IntKind.i64.wrap ((p : Int) + 1) = (p : Int) + 1 := by rw [IntKind.wrap_i64]; omega
      have w3 : IntKind.i64.wrap ((p : Int) + 1 - 1) = (p : Int) := by rw [IntKind.wrap_i64]; omega
      have i1 : (0 : Int) ≤ (p : Int) := by omega
      have i2 : (p : Int) ≤ (p : Int) + 1 := by omega
      have i3 : (p : Int) + 1 ≤ (s.size : Int) := by omega
      have HX : Hid (s.extract p ((p : Int) + 1).toNat = oneAt s p) := by show _ = _; unfold oneAt; congr 1
      have HZ := hideIt (oneAt_size s p hlt)
      have HY := hideIt (oneAt_is s p hlt)
      go_enter Tryz.func23, Tryz.ntmps23
      go_wp2
      go_quiet (fail)
      go_wp2
      go_quiet (fail)
      go_wp2
      go_ret
      rw [HS.out]
      refine ⟨oneAt s p, ?_, fun _ => ⟨HZ.out, fun h => by rw [HY.out h]⟩, ⟨p + 1, false, ?_, by omega, .inl ⟨rfl, rfl⟩⟩, ?_⟩
      · rw [← HX.out]; rfl
      · exact st1 HG.out
      · exact gr_trans (gr_trans (gr_drews _ _ _) (gr_set _ _ _ _)) (gr_drews _ _ _)
    · obtain rfl : p = s.size := by omega
      have HS := hideIt (nx_oct_end s)
      have d1 : decide ((s.size : Int) - (s.size : Int) < 1) = true := by simp
      have w1 : IntKind.i64.wrap ((s.size : Int) - (s.size : Int)) = (s.size : Int) - (s.size : Int) := by rw [IntKind.wrap_i64]; omega
      go_enter Tryz.func23, Tryz.ntmps23
      go_wp2
      go_quiet (fail)
      go_wp2
      go_ret
      rw [HS.out]
      exact ⟨_, rfl, fun h => absurd rfl h, ⟨s.size, true, st2 HG.out, HP.out, .inr ⟨rfl, rfl, fun h => h.elim⟩⟩, gr_trans (gr_drews _ _ _) (gr_set _ _ _ _)⟩

set_option maxRecDepth 100000 in
set_option maxHeartbeats 4000000 in
theorem l09One_any (s : ByteArray) (hs : s.size ≤ 1048576) (w : World) (G : Nat) (st : Option (List UInt8)) (h : RdAt False 55 w G s st) :
    Calls Tryz.prog 20 #[.pointer (some ⟨G, 0, none⟩)] w fun e w' => e = .returned (.int .i64 (((nx pO st).1 : Nat) : Int)) ∧ RdAt False 55 w' G s (nx pO st).2 ∧ w.grownBy w' (some G) := by
  have HT := hideIt (l09Take_any s hs w G st h)
  clear h
  cases hn : (nx pO st).2 with
  | none =>
    have h0 : Hid ((((nx pO st).1 : Nat) : Int) = 0) := by
      show _ = _
      unfold nx at hn ⊢
      split at hn
      · rfl
      · split at hn
        · rfl
        · cases hn
    rw [hn] at HT
    clear hn
    go_enter Tryz.func20, Tryz.ntmps20
    go_wp2_with (go_at_call 23; refine HT.out.mono ?_; rintro e w1 ⟨S, rfl, _, ⟨p, f, hG, hp, hf⟩, hg⟩; refine Hid.out ?_)
    refine (show ∀ {p : Prop}, p → Hid p from fun h => h) ?_
    obtain rfl : f = true := by
      rcases hf with ⟨_, h2⟩ | ⟨h1, _, _⟩
      · cases h2
      · exact h1
    have c2 : w1.cell? ⟨G, 2, none⟩ = some (.bool true) := by rw [cell_of_row w1 G 2 _ _ _ hG]; rfl
    have HR : Hid (RdAt False 55 w1 G s none) := ⟨p, true, hG, hp, .inr ⟨rfl, rfl, fun h => h.elim⟩⟩
    clear hG hp hf
    go_wp2
    go_ret
    exact ⟨by rw [h0.out]; rfl, HR.out, hg⟩
  | some L =>
    rw [hn] at HT
    have h8 := nx_pO_le st
    clear hn
    go_enter Tryz.func20, Tryz.ntmps20
    go_wp2_with (go_at_call 23; refine HT.out.mono ?_; rintro e w1 ⟨S, rfl, hS, ⟨p, f, hG, hp, hf⟩, hg⟩; refine Hid.out ?_)
    refine (show ∀ {p : Prop}, p → Hid p from fun h => h) ?_
    obtain ⟨hS1, hS2⟩ := hS (by simp)
    obtain rfl : f = false := by
      rcases hf with ⟨h1, _⟩ | ⟨_, h2, _⟩
      · exact h1
      · cases h2
    have hst : some L = some (from_ s p) := by
      rcases hf with ⟨_, h2⟩ | ⟨_, h2, _⟩
      · exact h2
      · cases h2
    have c2 : w1.cell? ⟨G, 2, none⟩ = some (.bool false) := by rw [cell_of_row w1 G 2 _ _ _ hG]; rfl
    have HR : Hid (RdAt False 55 w1 G s (some L)) := ⟨p, false, hG, hp, .inl ⟨rfl, hst⟩⟩
    have hS0 : 0 < S.size := by omega
    have i1 : (0 : Int) < (S.size : Int) := by omega
    have HV := hideIt (hS2 hS0)
    clear hG hp hf hS hS2 hS1 hst
    go_wp2
    go_ret
    refine ⟨?_, HR.out, hg⟩
    have h9 := UInt8.toNat_lt S[0]
    have hw : wrap64 ((S[0]).toNat : Int) = (((nx pO st).1 : Nat) : Int) := by rw [← HV.out]; unfold wrap64; omega
    exact congrArg (fun z => Ending.returned (.int .i64 z)) hw
end Go.Proofs.YtcieanhbipbhgaaGreatDoor
namespace Go.Proofs.YtcieanhbipbhgaaGreatDoor
open Go.RowKit Vt

theorem own_ne {w : World} {B T S n G : Nat} {v : Value} {xs : List Value} (h : w.ownsRow B T S v n xs) (hG : G < B) : v.ownBlock = none ∨ v.ownBlock ≠ some G := by
  right
  intro hq
  have := h.lt G hq
  omega
theorem RdAt.row {e : Prop} {t : TypeId} {w w' : World} {G : Nat} {s : ByteArray} {st : Option (List UInt8)} {row : Option Nat} (h : RdAt e t w G s st) (hg : w.grownBy w' row) (hne : row ≠ some G) : RdAt e t w' G s st := by
  obtain ⟨p, f, hG, rest⟩ := h
  refine ⟨p, f, ?_, rest⟩
  rw [hg.block G (Array.getElem?_eq_some_iff.1 hG).1 (Ne.symm hne)]
  exact hG
theorem gr_own {w wr w1 : World} {G : Nat} {row : Option Nat} (h : w.grownBy wr (some G)) (hg : wr.grownBy w1 row) (hr : ∀ q, row = some q → w.heap.size ≤ q) : w.grownBy w1 (some G) := by
  refine ⟨hg.os.trans h.os, hg.tape.trans h.tape, hg.output.trans h.output, Nat.le_trans h.size hg.size, fun i hi hn => ?_⟩
  rw [hg.block i (Nat.lt_of_lt_of_le hi h.size) (fun e => by have := hr i e.symm; omega)]
  exact h.block i hi hn
theorem own_form {w : World} {B e s n : Nat} {v : Value} {xs : List Value} (h : w.ownsRow B e s v n xs) : ∃ a c, v = .slice a n c := by
  rcases h.2 with ⟨hv, h0⟩ | ⟨g, cap, cur, hv, _⟩
  · subst h0; exact ⟨none, 0, hv⟩
  · exact ⟨_, cap, hv⟩
theorem RdAt.flag {e : Prop} {t : TypeId} {w : World} {G : Nat} {s : ByteArray} {st : Option (List UInt8)} (h : RdAt e t w G s st) : w.cell? ⟨G, 2, none⟩ = some (.bool st.isNone) := by
  obtain ⟨p, f, hG, _, hf⟩ := h
  rw [cell_of_row w G 2 _ _ _ hG]
  rcases hf with ⟨rfl, rfl⟩ | ⟨rfl, rfl, _⟩ <;> rfl
theorem two_newE (w : World) (x y : Int) (t : TypeId) : ∀ j u, (ecells [(x, y)])[j]? = some u → (w.alloc (.cells #[.int .i64 x, .int .i64 y] t)).cell? ((⟨w.heap.size, 0, none⟩ : Addr).add j) = some u := by
  intro j u hj
  match j, hj with
  | 0, hj => simp [ecells, ecell] at hj; subst hj; simp [Addr.add]
  | 1, hj => simp [ecells, ecell] at hj; subst hj; simp [Addr.add]

/-- the end of the specification's loop -/
theorem ER_end {st : Option (List UInt8)} {L : List UInt8} {k i : Nat} {es : List EdgeV} {st' : Option (List UInt8)} (hn : nx pN st = (k, some L)) (hi : i ≤ k) (h : EdSt L i es st') (he : st' = none ∨ k ≤ i ∨ 100 ≤ i) : ER st es st' := by
  unfold ER
  rw [hn]
  dsimp only
  obtain ⟨h1, _, h3⟩ := h
  rcases he with rfl | he | he
  · have hl : L.length < 2 * i := by
      split at h3
      · assumption
      · simp at h3
    split
    · exact .inl rfl
    · rw [if_pos (by omega)]
  · obtain rfl : i = k := by omega
    split
    · right; omega
    · exact h3
  · rw [if_pos (by omega)]
    right; omega

set_option maxRecDepth 100000 in
set_option maxHeartbeats 4000000 in
theorem l09ReadEdges_any (s : ByteArray) (hs : s.size ≤ 1048576) (w : World) (G : Nat) (st : Option (List UInt8)) (h : RdAt False 55 w G s st) :
    Calls Tryz.prog 36 #[.pointer (some ⟨G, 0, none⟩)] w fun e w' => ∃ v, e = .returned v ∧ EdAns False 55 w w' G s st v 100 := by
  obtain ⟨i0, hi, hz0, hz1, hz2⟩ := info_parts infoIE
  have hGl := h.lt
  have HN := hideIt (l09Var_any s hs (w.alloc (.cells #[] 79)) G st (h.alloc _))
  have hle := nx_pN_le st
  cases hn : nx pN st with
  | mk k s1 =>
    rw [hn] at HN hle
    dsimp only at hle HN
    clear h
    have HO : Hid (∀ W st, RdAt False 55 W G s st → Calls Tryz.prog 20 #[.pointer (some ⟨G, 0, none⟩)] W fun e w' => e = .returned (.int .i64 (((nx pO st).1 : Nat) : Int)) ∧ RdAt False 55 w' G s (nx pO st).2 ∧ W.grownBy w' (some G)) := fun W st hW => l09One_any s hs W G st hW
    have HH := hideIt hn
    have HK : Hid (s1 = none → k = 0) := fun h => by
      subst h
      unfold nx at hn
      split at hn
      · simp at hn; omega
      · split at hn
        · simp at hn; omega
        · simp at hn
    clear hn
    go_enter Tryz.func36, Tryz.ntmps36
    go_wp2_with (go_at_call 21; refine HN.out.mono ?_; rintro e w1 ⟨rfl, hR, hg1⟩; refine Hid.out ?_)
    refine (show ∀ {p : Prop}, p → Hid p from fun h => h) ?_
    have hgw : w.grownBy w1 (some G) := gr_trans (World.grownBy_alloc w _ (some G)) hg1
    have hown1 : w1.ownsRow w.heap.size 79 2 (.slice (some ⟨w.heap.size, 0, none⟩) 0 0) 0 (ecells []) :=
      World.ownsRow.kept (World.ownsRow_made (base := w.heap.size) (e := 79) (size := 2) w #[] 0 (Nat.le_refl _) (by unfold maxLen; omega) rfl) hg1 (.inr (by simp [Value.ownBlock]; omega))
    have HOw := hideIt hown1
    have HR := hideIt hR
    have HGw := hideIt hgw
    clear HN hR hg1 hown1 hgw
    go_wp2
    go_loopw [3, 5] (fun v i wr => ∃ (j : Nat) (es : List EdgeV) (st : Option (List UInt8)), j ≤ k ∧ j ≤ 100 ∧ i = .int .i64 (j : Int) ∧ Hid (s1 = none ∧ es = [] ∧ st = none ∨ ∃ L, s1 = some L ∧ EdSt L j es st) ∧ wr.ownsRow w.heap.size 79 2 v j (ecells es) ∧ RdAt False 55 wr G s st ∧ w.grownBy wr (some G)) (fun _ i _ => k - (intOf i).toNat)
    case atStart =>
      refine ⟨0, [], s1, by omega, by omega, rfl, ?_, HOw.out, HR.out, HGw.out⟩
      show _ ∨ _
      cases s1 with
      | none => exact .inl ⟨rfl, rfl, rfl⟩
      | some L => exact .inr ⟨L, rfl, EdSt.start L⟩
    case round =>
      obtain ⟨j, es, st1, hj, hj2, rfl, hE, hown, hR, hg⟩ := hrel
      have c2 := hR.flag
      have hgz := hg.size
      have fin : Hid (st1 = none ∨ k ≤ j ∨ 100 ≤ j → ER st es st1 ∧ EB8 es) := fun he => by
        rcases hE.out with ⟨rfl, rfl, rfl⟩ | ⟨L, rfl, h2⟩
        · refine ⟨?_, fun e he => (by cases he)⟩
          unfold ER
          rw [HH.out]
        · exact ⟨ER_end HH.out hj h2 he, h2.2.1⟩
      by_cases hlt : j < k
      · have e1 : decide ((j : Int) < (k : Int)) = true := by simp; omega
        by_cases h100 : j < 100
        · have e2 : decide ((j : Int) < 100) = true := by simp; omega
          cases hst : st1 with
          | none =>
            rw [hst] at c2
            have HX := fin.out (.inl hst)
            have HX1 := hideIt HX
            have HOw1 := hideIt hown
            have HR1 := hideIt hR
            have HG1 := hideIt hg
            clear fin HX hown hR hg hE
            go_wp2
            go_ret
            obtain ⟨a, c, rfl⟩ := own_form HOw1.out
            exact ⟨_, rfl, ⟨⟨a, j, c, es, st1, rfl, hj2, HX1.out.2, HOw1.out, HX1.out.1, HR1.out⟩, HG1.out⟩⟩
          | some M =>
            rw [hst] at c2
            have HE2 : Hid (∃ L, s1 = some L ∧ EdSt L j es st1) := by
              show ∃ _, _
              rcases hE.out with ⟨h1, _, _⟩ | h2
              · have := HK.out h1
                omega
              · exact h2
            clear fin hE hst
            go_wp2_with (go_at_call 20; refine (HO.out _ st1 hR).mono ?_; rintro e w3 ⟨rfl, hR3, hg3⟩; refine Hid.out ?_)
            refine (show ∀ {p : Prop}, p → Hid p from fun h => h) ?_
            have hown3 := World.ownsRow.kept hown hg3 (own_ne hown hGl)
            have hG3 := gr_trans hg hg3
            have hz3 := hG3.size
            have hR4 := hR3.alloc (.cells #[.int .i64 (((nx pO st1).1 : Nat) : Int), .int .i64 0] 79)
            have hown4 := hown3.alloc (.cells #[.int .i64 (((nx pO st1).1 : Nat) : Int), .int .i64 0] 79)
            have hg4 := gr_alloc hG3 (.cells #[.int .i64 (((nx pO st1).1 : Nat) : Int), .int .i64 0] 79)
            have hlt3 : ∀ q, u3.ownBlock = some q → q < w3.heap.size := fun q hq => (hown3.lt q hq).2
            clear hown hR hg hg3 hR3 hown3 hG3 c2
            go_wp2_with (go_at_call 20; refine (HO.out _ _ hR4).mono ?_; rintro e w5 ⟨rfl, hR5, hg5⟩; refine Hid.out ?_)
            refine (show ∀ {p : Prop}, p → Hid p from fun h => h) ?_
            have hgg5 := gr_trans hg4 hg5
            have hz5 := hg5.size
            simp at hz5
            have hb5 : w5.heap[w3.heap.size]? = some (.cells #[.int .i64 (((nx pO st1).1 : Nat) : Int), .int .i64 0] 79 (0, 0)) := by
              rw [hg5.block w3.heap.size (by simp) (by simp; omega)]
              exact heap_alloc_new w3 _
            have d0 : w5.cell? ⟨w3.heap.size, 0, none⟩ = some (.int .i64 (((nx pO st1).1 : Nat) : Int)) := by rw [cell_of_row w5 _ 0 _ _ _ hb5]; rfl
            have d1 : w5.cell? ⟨w3.heap.size, 1, none⟩ = some (.int .i64 0) := by rw [cell_of_row w5 _ 1 _ _ _ hb5]; rfl
            have f1 : w5.frozen? ⟨w3.heap.size, 1, none⟩ = false := frozen_of_row w5 _ 1 _ _ hb5
            have hown5 := World.ownsRow.kept hown4 hg5 (own_ne hown4 hGl)
            have hown6 := World.ownsRow.kept hown5 (gr_set w5 w3.heap.size 1 (.int .i64 (((nx pO (nx pO st1).2).1 : Nat) : Int))) (.inr (fun hq => by have := hlt3 _ hq; omega))
            have hR6 := hR5.other (gr_set w5 w3.heap.size 1 (.int .i64 (((nx pO (nx pO st1).2).1 : Nat) : Int))) (show G ≠ w3.heap.size by omega)
            have hg6 := gr_set_new (j := 1) (u := .int .i64 (((nx pO (nx pO st1).2).1 : Nat) : Int)) hgg5 hz3
            have hown7 := hown6.alloc (.cells #[.int .i64 (((nx pO st1).1 : Nat) : Int), .int .i64 (((nx pO (nx pO st1).2).1 : Nat) : Int)] 79)
            have HR7 := hideIt (hR6.alloc (.cells #[.int .i64 (((nx pO st1).1 : Nat) : Int), .int .i64 (((nx pO (nx pO st1).2).1 : Nat) : Int)] 79))
            have HG7 := hideIt (gr_alloc hg6 (.cells #[.int .i64 (((nx pO st1).1 : Nat) : Int), .int .i64 (((nx pO (nx pO st1).2).1 : Nat) : Int)] 79))
            have hnew := two_newE (w5.setCell ⟨w3.heap.size, 1, none⟩ (.int .i64 (((nx pO (nx pO st1).2).1 : Nat) : Int))) (((nx pO st1).1 : Nat) : Int) (((nx pO (nx pO st1).2).1 : Nat) : Int) 79
            have HNew := hideIt hnew
            have HS : Hid (∃ L, s1 = some L ∧ EdSt L (j + 1) (es ++ [((((nx pO st1).1 : Nat) : Int), (((nx pO (nx pO st1).2).1 : Nat) : Int))]) (nx pO (nx pO st1).2).2) := by
              obtain ⟨L, h1, h2⟩ := HE2.out
              exact ⟨L, h1, h2.step⟩
            have HOw7 := hideIt hown7
            clear hown4 hown5 hown6 hown7 hR4 hR5 hR6 hg4 hg5 hg6 hgg5 hnew hb5 HE2
            generalize (((nx pO st1).1 : Nat) : Int) = x at *
            generalize (((nx pO (nx pO st1).2).1 : Nat) : Int) = y at *
            go_wp2_with (at_builtin; refine wpList_append_own _ rfl _ _ 33 rfl w.heap.size 79 i0 _ 2 16 Tryz.underlying33 hi hz0 hz1 hz2 rfl (by decide) _ _ _ rfl HOw7.out ⟨w5.heap.size, 0, none⟩ 1 1 (ecells [(x, y)]) rfl rfl ?_ (by intro u hu; simp [ecells, ecell] at hu; rcases hu with rfl | rfl <;> rfl) (by unfold maxLen; omega) (by omega) (by simp; omega) ?_)
            · have := HNew.out
              simpa using this
            · intro v1 w8 hown8 hg8 _
              have hne8 : u3.ownBlock ≠ some G := by
                rcases own_ne HOw7.out hGl with h | h
                · rw [h]; simp
                · exact h
              have HR8 := hideIt (HR7.out.row hg8 hne8)
              have HG8 := hideIt (gr_own HG7.out hg8 (fun q hq => (HOw7.out.lt q hq).1))
              have HO8 : Hid (w8.ownsRow w.heap.size 79 2 v1 (j + 1) (ecells (es ++ [(x, y)]))) := by
                show World.ownsRow _ _ _ _ _ _ _
                rw [ecells_append]
                exact hown8
              clear hown8 hg8 HOw7 HR7 HG7
              go_wp2
              go_roundw
              case rel => exact ⟨j + 1, es ++ [(x, y)], _, by omega, by omega, by go_num, .inr HS.out, HO8.out, HR8.out, HG8.out⟩
              case measure => simp [intOf]; omega
        · have e2 : decide ((j : Int) < 100) = false := by simp; omega
          have HX := fin.out (.inr (.inr (by omega)))
          have HX1 := hideIt HX
          have HOw1 := hideIt hown
          have HR1 := hideIt hR
          have HG1 := hideIt hg
          clear fin HX hown hR hg hE
          go_wp2
          go_ret
          obtain ⟨a, c, rfl⟩ := own_form HOw1.out
          exact ⟨_, rfl, ⟨⟨a, j, c, es, st1, rfl, hj2, HX1.out.2, HOw1.out, HX1.out.1, HR1.out⟩, HG1.out⟩⟩
      · have e1 : decide ((j : Int) < (k : Int)) = false := by simp; omega
        have HX := fin.out (.inr (.inl (by omega)))
        have HX1 := hideIt HX
        have HOw1 := hideIt hown
        have HR1 := hideIt hR
        have HG1 := hideIt hg
        clear fin HX hown hR hg hE
        go_wp2
        go_ret
        obtain ⟨a, c, rfl⟩ := own_form HOw1.out
        exact ⟨_, rfl, ⟨⟨a, j, c, es, st1, rfl, hj2, HX1.out.2, HOw1.out, HX1.out.1, HR1.out⟩, HG1.out⟩⟩
end Go.Proofs.YtcieanhbipbhgaaGreatDoor
namespace Go.Proofs.YtcieanhbipbhgaaGreatDoor
open Go.RowKit

structure Bx (T : Prop) : Prop where
  out : T
theorem viaT {T G : Prop} (main : Bx T → G) (p : T) : G := main ⟨p⟩
theorem hidp {p : Prop} (h : p) : Hid p := h
theorem lstH {P : Program} {md : Region.Mode} {ops : Array Oper} {Q : Exit → Go.Act → World → Prop} {S : World → Prop} {fuel : Nat} {l l' : Array Bool} {a : Go.Act} {w : World} (h : l = l') (H : wpAnyH P md ops Q S fuel l' a w) : wpAnyH P md ops Q S fuel l a w := h ▸ H
/-- a box of any cells -/
def BxQ (w : World) (b : Nat) (t : TypeId) (vs : Array Value) : Prop := w.heap[b]? = some (.cells vs t (0, 0))
/-- cells k, k + 1 .. of block b are set -/
def setQ (w : World) (b : Nat) : Nat → List Value → World
  | _, [] => w
  | k, v :: vs => setQ (w.setCell ⟨b, k, none⟩ v) b (k + 1) vs
def setL (cs : List Value) : Nat → List Value → List Value
  | _, [] => cs
  | k, v :: vs => setL (cs.set k v) (k + 1) vs
section
variable {w u : World} {b : Nat} {t : TypeId} {vs : Array Value}
theorem BxQ.new (w : World) (t : TypeId) (vs : Array Value) : BxQ (w.alloc (.cells vs t)) w.heap.size t vs := heap_alloc_new w _
theorem BxQ.lt (h : BxQ w b t vs) : b < w.heap.size := (Array.getElem?_eq_some_iff.1 h).1
theorem BxQ.gr {r : Option Nat} (h : BxQ w b t vs) (hg : w.grownBy u r) (hne : r ≠ some b) : BxQ u b t vs := by unfold BxQ; rw [hg.block b h.lt (fun e => hne e.symm)]; exact h
theorem BxQ.set (h : BxQ w b t vs) (i : Nat) (v : Value) : BxQ (w.setCell ⟨b, i, none⟩ v) b t (vs.setIfInBounds i v) := heap_setCell_same w b i _ t v h
theorem BxQ.frozen (h : BxQ w b t vs) (j : Nat) : w.frozen? ⟨b, j, none⟩ = false := frozen_of_row w b j _ _ h
theorem BxQ.at {l : List Value} (h : BxQ w b t l.toArray) (i : Nat) {v : Value} (hv : l[i]? = some v) : w.cell? ⟨b, i, none⟩ = some v := by rw [cell_of_row w b i _ _ _ h, List.getElem?_toArray]; exact hv
theorem BxQ.setQ {l : List Value} (h : BxQ w b t l.toArray) (k : Nat) (vs : List Value) : BxQ (Go.Proofs.YtcieanhbipbhgaaGreatDoor.setQ w b k vs) b t (setL l k vs).toArray := by
  induction vs generalizing w l k with
  | nil => exact h
  | cons v vs ih => exact ih (by have := h.set k v; rw [List.setIfInBounds_toArray] at this; exact this) (k + 1)
theorem BxQ.setO {G j : Nat} (h : BxQ w b t vs) (v : Value) (hG : b ≠ G) : BxQ (w.setCell ⟨G, j, none⟩ v) b t vs := by
  unfold BxQ
  rw [heap_setCell_other w ⟨G, j, none⟩ b v hG]
  exact h
theorem BxQ.setQO {G : Nat} {cs : Array Value} (h : BxQ w b t cs) (k : Nat) (vs : List Value) (hG : b ≠ G) : BxQ (Go.Proofs.YtcieanhbipbhgaaGreatDoor.setQ w G k vs) b t cs := by
  induction vs generalizing w k with
  | nil => exact h
  | cons v vs ih => exact ih (h.setO v hG) (k + 1)
theorem size_setQ (k : Nat) (vs : List Value) : (Go.Proofs.YtcieanhbipbhgaaGreatDoor.setQ w b k vs).heap.size = w.heap.size := by
  induction vs generalizing w k with
  | nil => rfl
  | cons v vs ih => unfold Go.Proofs.YtcieanhbipbhgaaGreatDoor.setQ; rw [ih]; simp [World.setCell]
theorem gr_setQ (k : Nat) (vs : List Value) : w.grownBy (Go.Proofs.YtcieanhbipbhgaaGreatDoor.setQ w b k vs) (some b) := by
  induction vs generalizing w k with
  | nil => exact gr_refl _ _
  | cons v vs ih => exact gr_trans (gr_set w b k v) (ih (k + 1))
/-- new blocks may turn, and the old one G -/
theorem gr_new {W y z : World} {G b : Nat} (h : W.grownBy y (some G)) (hg : y.grownBy z (some b)) (hb : W.heap.size ≤ b) : W.grownBy z (some G) :=
  gr_own h hg (fun q hq => by simp at hq; omega)
theorem own_gr {B e s n G : Nat} {v : Value} {xs : List Value} (h : w.ownsRow B e s v n xs) (hg : w.grownBy u (some G)) (hG : G < B) : u.ownsRow B e s v n xs :=
  h.kept hg (by
    rcases own_ne h hG with e | e
    · exact .inl e
    · exact .inr e)
end
theorem own_kinds {u : World} {lo b j n t e s : Nat} {v x : Value} {xs : List Value} {cs : Array Value} {fr : Nat × Nat} (h : u.ownsRow lo e s v n xs) (hb : u.heap[b]? = some (.cells cs t fr)) (hte : t ≠ e) : (u.setCell ⟨b, j, none⟩ x).ownsRow lo e s v n xs := by
  refine ⟨h.1, ?_⟩
  rcases h.2 with h3 | ⟨g, cap, cur, hv, hg, hcur, hrest⟩
  · exact .inl h3
  · refine .inr ⟨g, cap, cur, hv, hg, ?_, hrest⟩
    rw [heap_setCell_other u ⟨b, j, none⟩ g x (fun e2 => by
      have e2 : g = b := e2
      subst e2
      rw [hcur] at hb
      simp at hb
      exact hte hb.2.1.symm)]
    exact hcur
theorem own_kQ {u : World} {lo b n e s : Nat} {t : TypeId} {v : Value} {xs cs : List Value} (h : u.ownsRow lo e s v n xs) (hb : BxQ u b t cs.toArray) (hte : t ≠ e) (k : Nat) (vs : List Value) : (setQ u b k vs).ownsRow lo e s v n xs := by
  induction vs generalizing u cs k with
  | nil => exact h
  | cons x vs ih => exact ih (own_kinds h hb hte) (by have := hb.set k x; rw [List.setIfInBounds_toArray] at this; exact this) (k + 1)
theorem bdr {w w1 : World} (h : Below w.drew.heap.size w.drew w1) : Below w.heap.size w w1 := ((Below.refl _ _).drew).trans h
/-- new blocks may turn, and the old one G, of which the first cell stays -/
structure GS (G : Nat) (n : Int) (W y : World) : Prop where
  g : W.grownBy y (some G)
  c : y.cell? ⟨G, 0, none⟩ = some (.int .i64 n)
  l : G < y.heap.size
section
variable {G : Nat} {n : Int} {W y z : World}
theorem GS.size (h : GS G n W y) : W.heap.size ≤ y.heap.size := h.g.size
theorem GS.up (h : GS G n W y) (k : GS G n y z) : GS G n W z := ⟨gr_trans h.g k.g, k.c, k.l⟩
theorem GS.self (h : GS G n W y) : GS G n y y := ⟨gr_refl _ _, h.c, h.l⟩
theorem GS.below (h : GS G n W y) (hb : Below y.heap.size y z) : GS G n y z := ⟨gr_below hb _, by rw [hb.cell h.l]; exact h.c, Nat.lt_of_lt_of_le h.l hb.size⟩
theorem GS.alloc (h : GS G n W y) (o : Obj) : GS G n W (y.alloc o) := h.up (h.below ((Below.refl _ _).alloc (Nat.le_refl _) o))
end
end Go.Proofs.YtcieanhbipbhgaaGreatDoor
