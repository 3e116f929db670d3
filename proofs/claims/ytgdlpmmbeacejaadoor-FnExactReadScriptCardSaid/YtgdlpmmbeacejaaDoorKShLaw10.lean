/- ShardNew on both sides, and the walk of FnExactShardNew. -/
import Derived.Test.YtgdlpmmbeacejaaDoorKFind6
import Derived.Deep.DeepCutAuto
namespace Go.Proofs.YtgdlpmmbeacejaaDoor
open Go.RowKit

theorem vertsOk_any (x : Int) (w : World) : Calls Tryd.prog 61 #[.int .i64 x] w fun e w' => e = .returned (.bool (decide (1 ≤ x ∧ x ≤ 12))) ∧ w' = w := by
  by_cases h1 : 1 ≤ x
  · by_cases h2 : x ≤ 12
    · have d1 : decide (1 ≤ x) = true := by simpa using h1
      have d2 : decide (x ≤ 12) = true := by simpa using h2
      go_enter Tryd.func61, Tryd.ntmps61
      go_wp2
      go_ret
      exact ⟨by simp [h1, h2], rfl⟩
    · have d1 : decide (1 ≤ x) = true := by simpa using h1
      have d2 : decide (x ≤ 12) = false := by simpa using h2
      go_enter Tryd.func61, Tryd.ntmps61
      go_wp2
      go_ret
      exact ⟨by simp, rfl⟩
  · have d1 : decide (1 ≤ x) = false := by simpa using h1
    go_enter Tryd.func61, Tryd.ntmps61
    go_wp2
    go_ret
    exact ⟨by simp, rfl⟩

theorem shardIdOk_any (x : Int) (w : World) : Calls Tryd.prog 58 #[.int .i64 x] w fun e w' => e = .returned (.bool (decide (1 ≤ x ∧ x ≤ 3))) ∧ w' = w := by
  by_cases h1 : 1 ≤ x
  · by_cases h2 : x ≤ 3
    · have d1 : decide (1 ≤ x) = true := by simpa using h1
      have d2 : decide (x ≤ 3) = true := by simpa using h2
      go_enter Tryd.func58, Tryd.ntmps58
      go_wp2
      go_ret
      exact ⟨by simp [h1, h2], rfl⟩
    · have d1 : decide (1 ≤ x) = true := by simpa using h1
      have d2 : decide (x ≤ 3) = false := by simpa using h2
      go_enter Tryd.func58, Tryd.ntmps58
      go_wp2
      go_ret
      exact ⟨by simp, rfl⟩
  · have d1 : decide (1 ≤ x) = false := by simpa using h1
    go_enter Tryd.func58, Tryd.ntmps58
    go_wp2
    go_ret
    exact ⟨by simp, rfl⟩

/-- what WebNew answers -/
def wnM (n : Int) : Int := if 1 ≤ n ∧ n ≤ 12 then n else 0
def wnB (n : Int) : Bool := decide (1 ≤ n ∧ n ≤ 12)
theorem sWebNew_any (n : Int) (w : World) : Calls Tryd.prog 37 #[.int .i64 n] w fun e w' => e = .returned (.tuple #[.agg #[.int .i64 (wnM n), .slice none 0 0], .bool (wnB n)]) ∧ Below w.heap.size w w' := by
  by_cases h : 1 ≤ n ∧ n ≤ 12
  · have e1 : wnM n = n := by unfold wnM; rw [if_pos h]
    have e2 : wnB n = true := decide_eq_true h
    rw [e1, e2]
    have HI : Hid (∀ u, Calls Tryd.prog 35 #[.int .i64 n, .int .i64 1, .int .i64 12] u fun e w' => e = .returned (.bool true) ∧ w' = u) := fun u => by
      have := l01In_any n 1 12 u
      rw [decide_eq_true h] at this
      exact this
    clear e1 e2
    go_enter Tryd.func37, Tryd.ntmps37
    go_wp2_with (go_at_call 35; refine (HI.out _).mono ?_; rintro e w1 ⟨rfl, rfl⟩)
    exact bodyPost_ret (v := .tuple #[.agg #[.int .i64 n, .slice none 0 0], .bool true]) (by simp [results, Tryd.results37, go_sem]) rfl ⟨rfl, (Below.refl _ _).alloc (Nat.le_refl _) _⟩
  · have e1 : wnM n = 0 := by unfold wnM; rw [if_neg h]
    have e2 : wnB n = false := decide_eq_false h
    rw [e1, e2]
    have HI : Hid (∀ u, Calls Tryd.prog 35 #[.int .i64 n, .int .i64 1, .int .i64 12] u fun e w' => e = .returned (.bool false) ∧ w' = u) := fun u => by
      have := l01In_any n 1 12 u
      rw [decide_eq_false h] at this
      exact this
    clear e1 e2
    go_enter Tryd.func37, Tryd.ntmps37
    go_wp2_with (go_at_call 35; refine (HI.out _).mono ?_; rintro e w1 ⟨rfl, rfl⟩)
    exact bodyPost_ret (v := .tuple #[.agg #[.int .i64 0, .slice none 0 0], .bool false]) (by simp [results, Tryd.results37, go_sem]) rfl ⟨rfl, (Below.refl _ _).alloc (Nat.le_refl _) _⟩
theorem iWebNew_any (n : Int) (w : World) : Calls Tryd.prog 63 #[.int .i64 n] w fun e w' => e = .returned (.tuple #[.agg #[.int .i64 (wnM n), .slice none 0 0], .bool (wnB n)]) ∧ Below w.heap.size w w' := by
  by_cases h : 1 ≤ n ∧ n ≤ 12
  · have e1 : wnM n = n := by unfold wnM; rw [if_pos h]
    have e2 : wnB n = true := decide_eq_true h
    rw [e1, e2]
    have HI : Hid (∀ u, Calls Tryd.prog 61 #[.int .i64 n] u fun e w' => e = .returned (.bool true) ∧ w' = u) := fun u => by
      have := vertsOk_any n u
      rw [decide_eq_true h] at this
      exact this
    clear e1 e2
    go_enter Tryd.func63, Tryd.ntmps63
    go_wp2_with (go_at_call 61; refine (HI.out _).mono ?_; rintro e w1 ⟨rfl, rfl⟩)
    exact bodyPost_ret (v := .tuple #[.agg #[.int .i64 n, .slice none 0 0], .bool true]) (by simp [results, Tryd.results63, go_sem]) rfl ⟨rfl, (Below.refl _ _).alloc (Nat.le_refl _) _⟩
  · have e1 : wnM n = 0 := by unfold wnM; rw [if_neg h]
    have e2 : wnB n = false := decide_eq_false h
    rw [e1, e2]
    have HI : Hid (∀ u, Calls Tryd.prog 61 #[.int .i64 n] u fun e w' => e = .returned (.bool false) ∧ w' = u) := fun u => by
      have := vertsOk_any n u
      rw [decide_eq_false h] at this
      exact this
    clear e1 e2
    go_enter Tryd.func63, Tryd.ntmps63
    go_wp2_with (go_at_call 61; refine (HI.out _).mono ?_; rintro e w1 ⟨rfl, rfl⟩)
    exact bodyPost_ret (v := .tuple #[.agg #[.int .i64 0, .slice none 0 0], .bool false]) (by simp [results, Tryd.results63, go_sem]) rfl ⟨rfl, (Below.refl _ _).alloc (Nat.le_refl _) _⟩

/-- what ShardNew answers -/
def snB (i n : Int) : Bool := decide ((1 ≤ n ∧ n ≤ 12) ∧ 1 ≤ i ∧ i ≤ 3)
def snI (i n : Int) : Int := if snB i n then i else 0
def snN (i n : Int) : Int := if snB i n then n else 0
set_option maxRecDepth 100000 in
theorem iShardNew_any (i n : Int) (w : World) : Calls Tryd.prog 57 #[.int .i64 i, .int .i64 n] w fun e w' => e = .returned (.tuple #[sv (snI i n) (snN i n), .bool (snB i n)]) ∧ Below w.heap.size w w' := by
  have HWn := hideIt (fun u => iWebNew_any n u)
  by_cases hn : 1 ≤ n ∧ n ≤ 12
  · have q1 : wnM n = n := by unfold wnM; rw [if_pos hn]
    have q2 : wnB n = true := decide_eq_true hn
    rw [q1, q2] at HWn
    by_cases hi : 1 ≤ i ∧ i ≤ 3
    · have e0 : snB i n = true := decide_eq_true ⟨hn, hi⟩
      have e1 : snI i n = i := by unfold snI; rw [if_pos e0]
      have e2 : snN i n = n := by unfold snN; rw [if_pos e0]
      have HI : Hid (∀ u, Calls Tryd.prog 58 #[.int .i64 i] u fun e w' => e = .returned (.bool true) ∧ w' = u) := fun u => by
        have := shardIdOk_any i u
        rw [decide_eq_true hi] at this
        exact this
      rw [e0, e1, e2]
      clear e0 e1 e2 q1 q2 hn hi
      go_enter Tryd.func57, Tryd.ntmps57
      go_wp2_with (go_at_call 63; refine (HWn.out _).mono ?_; rintro e w1 ⟨rfl, hb1⟩; refine Hid.out ?_)
      refine (show ∀ {p : Prop}, p → Hid p from fun h => h) ?_
      have g1 : Below w.heap.size w w1 := ((Below.refl _ w).alloc (Nat.le_refl _) _).trans (hb1.mono (by simp))
      have B7 : Bk7 w1 w.heap.size 0 0 := (Bk7.new w 0 0 _ rfl).up hb1
      obtain ⟨c0, c1, c2, c3, c4, c5, c6⟩ := B7.cells
      have f0 := B7.frozen 0
      have f1 := B7.frozen 1
      have f2 := B7.frozen 2
      have f3 := B7.frozen 3
      have f4 := B7.frozen 4
      have f5 := B7.frozen 5
      have f6 := B7.frozen 6
      have lt1 := B7.lt
      obtain ⟨t0, t1, t2, t3, t4, t5, t6⟩ := ((B7.set7 (i) (n)).alloc (.cells #[.int .i64 (n), .slice none 0 0] 72)).cells
      have HZ := hideIt ((s7_below (i := i) (n := n) g1 (Nat.le_refl _)).alloc (by simp [s7]; omega) (.cells #[.int .i64 (n), .slice none 0 0] 72))
      unfold s7 at t0 t1 t2 t3 t4 t5 t6 HZ
      clear hb1 HWn B7 g1
      go_wp2_with (go_at_call 58; refine (HI.out _).mono ?_; rintro e w2 ⟨rfl, hw2⟩; have hw2' := hw2.symm; subst hw2')
      exact bodyPost_ret (v := .tuple #[sv (i) (n), .bool true]) (by simp [results, Tryd.results57, go_sem, t0, t1, t2, t3, t4, t5, t6]) rfl ⟨rfl, HZ.out⟩
    · have e0 : snB i n = false := decide_eq_false fun h => hi h.2
      have e1 : snI i n = 0 := by unfold snI; rw [if_neg (by rw [e0]; simp)]
      have e2 : snN i n = 0 := by unfold snN; rw [if_neg (by rw [e0]; simp)]
      have HI : Hid (∀ u, Calls Tryd.prog 58 #[.int .i64 i] u fun e w' => e = .returned (.bool false) ∧ w' = u) := fun u => by
        have := shardIdOk_any i u
        rw [decide_eq_false hi] at this
        exact this
      rw [e0, e1, e2]
      clear e0 e1 e2 q1 q2 hn hi
      go_enter Tryd.func57, Tryd.ntmps57
      go_wp2_with (go_at_call 63; refine (HWn.out _).mono ?_; rintro e w1 ⟨rfl, hb1⟩; refine Hid.out ?_)
      refine (show ∀ {p : Prop}, p → Hid p from fun h => h) ?_
      have g1 : Below w.heap.size w w1 := ((Below.refl _ w).alloc (Nat.le_refl _) _).trans (hb1.mono (by simp))
      have B7 : Bk7 w1 w.heap.size 0 0 := (Bk7.new w 0 0 _ rfl).up hb1
      obtain ⟨c0, c1, c2, c3, c4, c5, c6⟩ := B7.cells
      have f0 := B7.frozen 0
      have f1 := B7.frozen 1
      have f2 := B7.frozen 2
      have f3 := B7.frozen 3
      have f4 := B7.frozen 4
      have f5 := B7.frozen 5
      have f6 := B7.frozen 6
      have lt1 := B7.lt
      obtain ⟨t0, t1, t2, t3, t4, t5, t6⟩ := ((B7.set7 (0) (0)).alloc (.cells #[.int .i64 (n), .slice none 0 0] 72)).cells
      have HZ := hideIt ((s7_below (i := 0) (n := 0) g1 (Nat.le_refl _)).alloc (by simp [s7]; omega) (.cells #[.int .i64 (n), .slice none 0 0] 72))
      unfold s7 at t0 t1 t2 t3 t4 t5 t6 HZ
      clear hb1 HWn B7 g1
      go_wp2_with (go_at_call 58; refine (HI.out _).mono ?_; rintro e w2 ⟨rfl, hw2⟩; have hw2' := hw2.symm; subst hw2')
      exact bodyPost_ret (v := .tuple #[sv (0) (0), .bool false]) (by simp [results, Tryd.results57, go_sem, t0, t1, t2, t3, t4, t5, t6]) rfl ⟨rfl, HZ.out⟩
  · have q1 : wnM n = 0 := by unfold wnM; rw [if_neg hn]
    have q2 : wnB n = false := decide_eq_false hn
    rw [q1, q2] at HWn
    have e0 : snB i n = false := decide_eq_false fun h => hn h.1
    have e1 : snI i n = 0 := by unfold snI; rw [if_neg (by rw [e0]; simp)]
    have e2 : snN i n = 0 := by unfold snN; rw [if_neg (by rw [e0]; simp)]
    rw [e0, e1, e2]
    clear e0 e1 e2 q1 q2 hn
    go_enter Tryd.func57, Tryd.ntmps57
    go_wp2_with (go_at_call 63; refine (HWn.out _).mono ?_; rintro e w1 ⟨rfl, hb1⟩; refine Hid.out ?_)
    refine (show ∀ {p : Prop}, p → Hid p from fun h => h) ?_
    have g1 : Below w.heap.size w w1 := ((Below.refl _ w).alloc (Nat.le_refl _) _).trans (hb1.mono (by simp))
    have B7 : Bk7 w1 w.heap.size 0 0 := (Bk7.new w 0 0 _ rfl).up hb1
    obtain ⟨c0, c1, c2, c3, c4, c5, c6⟩ := B7.cells
    have f0 := B7.frozen 0
    have f1 := B7.frozen 1
    have f2 := B7.frozen 2
    have f3 := B7.frozen 3
    have f4 := B7.frozen 4
    have f5 := B7.frozen 5
    have f6 := B7.frozen 6
    have lt1 := B7.lt
    obtain ⟨t0, t1, t2, t3, t4, t5, t6⟩ := ((B7.set7 (0) (0)).alloc (.cells #[.int .i64 (0), .slice none 0 0] 72)).cells
    have HZ := hideIt ((s7_below (i := 0) (n := 0) g1 (Nat.le_refl _)).alloc (by simp [s7]; omega) (.cells #[.int .i64 (0), .slice none 0 0] 72))
    unfold s7 at t0 t1 t2 t3 t4 t5 t6 HZ
    clear hb1 HWn B7 g1
    go_wp2
    exact bodyPost_ret (v := .tuple #[sv (0) (0), .bool false]) (by simp [results, Tryd.results57, go_sem, t0, t1, t2, t3, t4, t5, t6]) rfl ⟨rfl, HZ.out⟩
set_option maxRecDepth 100000 in
theorem sShardNew_any (i n : Int) (w : World) : Calls Tryd.prog 22 #[.int .i64 i, .int .i64 n] w fun e w' => e = .returned (.tuple #[sv (snI i n) (snN i n), .bool (snB i n)]) ∧ Below w.heap.size w w' := by
  have HWn := hideIt (fun u => sWebNew_any n u)
  by_cases hn : 1 ≤ n ∧ n ≤ 12
  · have q1 : wnM n = n := by unfold wnM; rw [if_pos hn]
    have q2 : wnB n = true := decide_eq_true hn
    rw [q1, q2] at HWn
    by_cases hi : 1 ≤ i ∧ i ≤ 3
    · have e0 : snB i n = true := decide_eq_true ⟨hn, hi⟩
      have e1 : snI i n = i := by unfold snI; rw [if_pos e0]
      have e2 : snN i n = n := by unfold snN; rw [if_pos e0]
      have HI : Hid (∀ u, Calls Tryd.prog 35 #[.int .i64 i, .int .i64 1, .int .i64 3] u fun e w' => e = .returned (.bool true) ∧ w' = u) := fun u => by
        have := l01In_any i 1 3 u
        rw [decide_eq_true hi] at this
        exact this
      rw [e0, e1, e2]
      clear e0 e1 e2 q1 q2 hn hi
      go_enter Tryd.func22, Tryd.ntmps22
      go_wp2_with (go_at_call 37; refine (HWn.out _).mono ?_; rintro e w1 ⟨rfl, hb1⟩; refine Hid.out ?_)
      refine (show ∀ {p : Prop}, p → Hid p from fun h => h) ?_
      have g1 : Below w.heap.size w w1 := ((Below.refl _ w).alloc (Nat.le_refl _) _).trans (hb1.mono (by simp))
      have B7 : Bk7 w1 w.heap.size 0 0 := (Bk7.new w 0 0 _ rfl).up hb1
      obtain ⟨c0, c1, c2, c3, c4, c5, c6⟩ := B7.cells
      have f0 := B7.frozen 0
      have f1 := B7.frozen 1
      have f2 := B7.frozen 2
      have f3 := B7.frozen 3
      have f4 := B7.frozen 4
      have f5 := B7.frozen 5
      have f6 := B7.frozen 6
      have lt1 := B7.lt
      obtain ⟨t0, t1, t2, t3, t4, t5, t6⟩ := ((B7.set7 (i) (n)).alloc (.cells #[.int .i64 (n), .slice none 0 0] 72)).cells
      have HZ := hideIt ((s7_below (i := i) (n := n) g1 (Nat.le_refl _)).alloc (by simp [s7]; omega) (.cells #[.int .i64 (n), .slice none 0 0] 72))
      unfold s7 at t0 t1 t2 t3 t4 t5 t6 HZ
      clear hb1 HWn B7 g1
      go_wp2_with (go_at_call 35; refine (HI.out _).mono ?_; rintro e w2 ⟨rfl, hw2⟩; have hw2' := hw2.symm; subst hw2')
      exact bodyPost_ret (v := .tuple #[sv (i) (n), .bool true]) (by simp [results, Tryd.results22, go_sem, t0, t1, t2, t3, t4, t5, t6]) rfl ⟨rfl, HZ.out⟩
    · have e0 : snB i n = false := decide_eq_false fun h => hi h.2
      have e1 : snI i n = 0 := by unfold snI; rw [if_neg (by rw [e0]; simp)]
      have e2 : snN i n = 0 := by unfold snN; rw [if_neg (by rw [e0]; simp)]
      have HI : Hid (∀ u, Calls Tryd.prog 35 #[.int .i64 i, .int .i64 1, .int .i64 3] u fun e w' => e = .returned (.bool false) ∧ w' = u) := fun u => by
        have := l01In_any i 1 3 u
        rw [decide_eq_false hi] at this
        exact this
      rw [e0, e1, e2]
      clear e0 e1 e2 q1 q2 hn hi
      go_enter Tryd.func22, Tryd.ntmps22
      go_wp2_with (go_at_call 37; refine (HWn.out _).mono ?_; rintro e w1 ⟨rfl, hb1⟩; refine Hid.out ?_)
      refine (show ∀ {p : Prop}, p → Hid p from fun h => h) ?_
      have g1 : Below w.heap.size w w1 := ((Below.refl _ w).alloc (Nat.le_refl _) _).trans (hb1.mono (by simp))
      have B7 : Bk7 w1 w.heap.size 0 0 := (Bk7.new w 0 0 _ rfl).up hb1
      obtain ⟨c0, c1, c2, c3, c4, c5, c6⟩ := B7.cells
      have f0 := B7.frozen 0
      have f1 := B7.frozen 1
      have f2 := B7.frozen 2
      have f3 := B7.frozen 3
      have f4 := B7.frozen 4
      have f5 := B7.frozen 5
      have f6 := B7.frozen 6
      have lt1 := B7.lt
      obtain ⟨t0, t1, t2, t3, t4, t5, t6⟩ := ((B7.set7 (0) (0)).alloc (.cells #[.int .i64 (n), .slice none 0 0] 72)).cells
      have HZ := hideIt ((s7_below (i := 0) (n := 0) g1 (Nat.le_refl _)).alloc (by simp [s7]; omega) (.cells #[.int .i64 (n), .slice none 0 0] 72))
      unfold s7 at t0 t1 t2 t3 t4 t5 t6 HZ
      clear hb1 HWn B7 g1
      go_wp2_with (go_at_call 35; refine (HI.out _).mono ?_; rintro e w2 ⟨rfl, hw2⟩; have hw2' := hw2.symm; subst hw2')
      exact bodyPost_ret (v := .tuple #[sv (0) (0), .bool false]) (by simp [results, Tryd.results22, go_sem, t0, t1, t2, t3, t4, t5, t6]) rfl ⟨rfl, HZ.out⟩
  · have q1 : wnM n = 0 := by unfold wnM; rw [if_neg hn]
    have q2 : wnB n = false := decide_eq_false hn
    rw [q1, q2] at HWn
    have e0 : snB i n = false := decide_eq_false fun h => hn h.1
    have e1 : snI i n = 0 := by unfold snI; rw [if_neg (by rw [e0]; simp)]
    have e2 : snN i n = 0 := by unfold snN; rw [if_neg (by rw [e0]; simp)]
    rw [e0, e1, e2]
    clear e0 e1 e2 q1 q2 hn
    go_enter Tryd.func22, Tryd.ntmps22
    go_wp2_with (go_at_call 37; refine (HWn.out _).mono ?_; rintro e w1 ⟨rfl, hb1⟩; refine Hid.out ?_)
    refine (show ∀ {p : Prop}, p → Hid p from fun h => h) ?_
    have g1 : Below w.heap.size w w1 := ((Below.refl _ w).alloc (Nat.le_refl _) _).trans (hb1.mono (by simp))
    have B7 : Bk7 w1 w.heap.size 0 0 := (Bk7.new w 0 0 _ rfl).up hb1
    obtain ⟨c0, c1, c2, c3, c4, c5, c6⟩ := B7.cells
    have f0 := B7.frozen 0
    have f1 := B7.frozen 1
    have f2 := B7.frozen 2
    have f3 := B7.frozen 3
    have f4 := B7.frozen 4
    have f5 := B7.frozen 5
    have f6 := B7.frozen 6
    have lt1 := B7.lt
    obtain ⟨t0, t1, t2, t3, t4, t5, t6⟩ := ((B7.set7 (0) (0)).alloc (.cells #[.int .i64 (0), .slice none 0 0] 72)).cells
    have HZ := hideIt ((s7_below (i := 0) (n := 0) g1 (Nat.le_refl _)).alloc (by simp [s7]; omega) (.cells #[.int .i64 (0), .slice none 0 0] 72))
    unfold s7 at t0 t1 t2 t3 t4 t5 t6 HZ
    clear hb1 HWn B7 g1
    go_wp2
    exact bodyPost_ret (v := .tuple #[sv (0) (0), .bool false]) (by simp [results, Tryd.results22, go_sem, t0, t1, t2, t3, t4, t5, t6]) rfl ⟨rfl, HZ.out⟩
end Go.Proofs.YtgdlpmmbeacejaaDoor
