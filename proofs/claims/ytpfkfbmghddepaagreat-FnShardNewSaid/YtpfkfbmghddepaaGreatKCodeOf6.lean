/- Draws for forests. ShardNew on both sides; a new shard is right and has nothing; its draw. A slice of bytes that comes in, as the walks over drawn inputs want it. -/
import Derived.Test.YtpfkfbmghddepaaGreatKDraw6
import Derived.Test.YtpfkfbmghddepaaGreatKLd9
import Derived.Test.YtpfkfbmghddepaaGreatKSWalk
import Derived.Test.YtpfkfbmghddepaaGreatKInG6
import Derived.Deep.DeepCutAuto
import Derived.WalkKit
import Derived.ProofKit
import Derived.OpenShut
import Derived.ChangeOld
import Derived.Below
namespace Go.Proofs.YtpfkfbmghddepaaGreat
open Go.RowKit

theorem Cur.up7 {u v : World} {G : Nat} {a : Option Addr} {len cap : Nat} (h : Cur u G a len cap) (hb : Below u.heap.size u v) : Cur v G a len cap := by
  obtain ⟨p, q, h1, h⟩ := h
  exact ⟨p, q, h1, by rw [hb.block G (Array.getElem?_eq_some_iff.1 h).1]; exact h⟩
theorem Code.up7 {u v : World} {G : Nat} {a : Option Addr} {len : Nat} (h : Code u G a len) (hb : Below u.heap.size u v) : Code v G a len :=
  h.kept ⟨hb.os, hb.tape, hb.output, hb.size, fun k hk _ => hb.block k hk⟩
theorem big7_any (w : World) (a : Option Addr) (len cap : Nat) : Calls Tryz.prog 11 #[.slice a len cap] w fun e w' => e = .returned (.bool (decide ((1048576 : Int) < (len : Int)))) ∧ w' = w := by
  go_enter Tryz.func11, Tryz.ntmps11
  go_wp2
  go_ret
  exact ⟨rfl, rfl⟩
theorem five_cells7 (w : World) (z0 z1 z2 z3 z4 : Int) (t : TypeId) : ∀ j, j < 5 → ∃ z : Int, (w.alloc (.cells #[.int .i64 z0, .int .i64 z1, .int .i64 z2, .int .i64 z3, .int .i64 z4] t)).cell? ⟨w.heap.size, j, none⟩ = some (.int .i64 z) := by
  intro j hj
  rw [cell_of_row _ w.heap.size j _ t (0, 0) (heap_alloc_new w _)]
  rcases (show j = 0 ∨ j = 1 ∨ j = 2 ∨ j = 3 ∨ j = 4 from by omega) with rfl | rfl | rfl | rfl | rfl <;> exact ⟨_, rfl⟩
theorem Drawn.from7 {w w' : World} {o : Obj} {G : Nat} {a : Option Addr} {len cap : Nat} (h : Drawn (w.alloc o) w' G a len cap) : Drawn w w' G a len cap := ⟨h.cur, h.code, grownT (World.grownBy_alloc w o (some G)) h.grown⟩
theorem Cur.lt7 {u : World} {G : Nat} {a : Option Addr} {len cap : Nat} (h : Cur u G a len cap) : G < u.heap.size := by
  obtain ⟨p, q, _, h⟩ := h
  exact (Array.getElem?_eq_some_iff.1 h).1
set_option maxRecDepth 100000 in
set_option maxHeartbeats 8000000 in
theorem l01Place7_any (n : Int) (h0 : 0 < n) (h1 : n ≤ 1000000) (w : World) (G : Nat) (a : Option Addr) (len cap : Nat) (hl : len ≤ 1048576) (hcur : Cur w G a len cap) (hcode : Code w G a len) :
    Calls Tryz.prog 112 #[.pointer (some ⟨G, 0, none⟩), .int .i64 n] w fun e w' => ∃ x : Int, e = .returned (.int .i64 x) ∧ Drawn w w' G a len cap := by
  have hG := hcur.lt7
  have HO := hideIt (l01Once_any 15 (by omega) (by omega) w G a len cap hl hcur hcode)
  clear hcur hcode
  have hw : IntKind.i64.wrap (n + 1) = n + 1 := by rw [IntKind.wrap_i64]; omega
  go_enter Tryz.func112, Tryz.ntmps112
  go_wp2_with (go_at_call 63; refine HO.out.mono ?_; rintro e w1 ⟨b, rfl, hd⟩; refine Hid.out ?_)
  refine (show ∀ {p : Prop}, p → Hid p from fun h => h) ?_
  have hs1 := hd.grown.size
  have HD := hideIt hd
  clear hd HO
  cases b with
  | true =>
    have HP := hideIt (l01PickInt_any w1.heap.size 5 5 (by omega) (by omega) _ G a len cap hl (HD.out.cur.up7 ((Below.refl _ _).alloc (Nat.le_refl _) (.cells #[.int .i64 (-1), .int .i64 n, .int .i64 (n + 1), .int .i64 9223372036854775807, .int .i64 (-9223372036854775808)] 3))) (HD.out.code.up7 ((Below.refl _ _).alloc (Nat.le_refl _) _)) (by simp) (by omega) (five_cells7 w1 _ _ _ _ _ 3))
    go_wp2_with (go_at_call 159; refine HP.out.mono ?_; rintro e w2 ⟨y, rfl, hd2⟩)
    go_ret
    exact ⟨_, rfl, HD.out.trans hd2.from7⟩
  | false =>
    have HP := hideIt (l01Below_any n h0 (by omega) w1 G a len cap hl HD.out.cur HD.out.code)
    go_wp2_with (go_at_call 64; refine HP.out.mono ?_; rintro e w2 ⟨y, hy, rfl, hd2⟩)
    go_ret
    exact ⟨_, rfl, HD.out.trans hd2⟩
end Go.Proofs.YtpfkfbmghddepaaGreat
namespace Go.Proofs.YtpfkfbmghddepaaGreat
open Go.RowKit

def wnM (n : Int) : Int := if 1 ≤ n ∧ n ≤ 12 then n else 0
def wnB (n : Int) : Bool := decide (1 ≤ n ∧ n ≤ 12)
theorem sWebNew_any (n : Int) (w : World) : Calls Tryz.prog 113 #[.int .i64 n] w fun e w' => e = .returned (.tuple #[.agg #[.int .i64 (wnM n), .slice none 0 0], .bool (wnB n)]) ∧ Below w.heap.size w w' := by
  by_cases h : 1 ≤ n ∧ n ≤ 12
  · have e1 : wnM n = n := by unfold wnM; rw [if_pos h]
    have e2 : wnB n = true := decide_eq_true h
    rw [e1, e2]
    have HI : Hid (∀ u, Calls Tryz.prog 80 #[.int .i64 n, .int .i64 1, .int .i64 12] u fun e w' => e = .returned (.bool true) ∧ w' = u) := fun u => by
      have := l01In_any n 1 12 u
      rw [decide_eq_true h] at this
      exact this
    clear e1 e2
    go_enter Tryz.func113, Tryz.ntmps113
    go_wp2_with (go_at_call 80; refine (HI.out _).mono ?_; rintro e w1 ⟨rfl, rfl⟩)
    exact bodyPost_ret (v := .tuple #[.agg #[.int .i64 n, .slice none 0 0], .bool true]) (by simp [results, Tryz.results113, go_sem]) rfl ⟨rfl, (Below.refl _ _).alloc (Nat.le_refl _) _⟩
  · have e1 : wnM n = 0 := by unfold wnM; rw [if_neg h]
    have e2 : wnB n = false := decide_eq_false h
    rw [e1, e2]
    have HI : Hid (∀ u, Calls Tryz.prog 80 #[.int .i64 n, .int .i64 1, .int .i64 12] u fun e w' => e = .returned (.bool false) ∧ w' = u) := fun u => by
      have := l01In_any n 1 12 u
      rw [decide_eq_false h] at this
      exact this
    clear e1 e2
    go_enter Tryz.func113, Tryz.ntmps113
    go_wp2_with (go_at_call 80; refine (HI.out _).mono ?_; rintro e w1 ⟨rfl, rfl⟩)
    exact bodyPost_ret (v := .tuple #[.agg #[.int .i64 0, .slice none 0 0], .bool false]) (by simp [results, Tryz.results113, go_sem]) rfl ⟨rfl, (Below.refl _ _).alloc (Nat.le_refl _) _⟩
theorem iWebNew_any (n : Int) (w : World) : Calls Tryz.prog 36 #[.int .i64 n] w fun e w' => e = .returned (.tuple #[.agg #[.int .i64 (wnM n), .slice none 0 0], .bool (wnB n)]) ∧ Below w.heap.size w w' := by
  by_cases h : 1 ≤ n ∧ n ≤ 12
  · have e1 : wnM n = n := by unfold wnM; rw [if_pos h]
    have e2 : wnB n = true := decide_eq_true h
    rw [e1, e2]
    have HI : Hid (∀ u, Calls Tryz.prog 95 #[.int .i64 n] u fun e w' => e = .returned (.bool true) ∧ w' = u) := fun u => by
      have := vertsOk_any n u
      rw [decide_eq_true h] at this
      exact this
    clear e1 e2
    go_enter Tryz.func36, Tryz.ntmps36
    go_wp2_with (go_at_call 95; refine (HI.out _).mono ?_; rintro e w1 ⟨rfl, rfl⟩)
    exact bodyPost_ret (v := .tuple #[.agg #[.int .i64 n, .slice none 0 0], .bool true]) (by simp [results, Tryz.results36, go_sem]) rfl ⟨rfl, (Below.refl _ _).alloc (Nat.le_refl _) _⟩
  · have e1 : wnM n = 0 := by unfold wnM; rw [if_neg h]
    have e2 : wnB n = false := decide_eq_false h
    rw [e1, e2]
    have HI : Hid (∀ u, Calls Tryz.prog 95 #[.int .i64 n] u fun e w' => e = .returned (.bool false) ∧ w' = u) := fun u => by
      have := vertsOk_any n u
      rw [decide_eq_false h] at this
      exact this
    clear e1 e2
    go_enter Tryz.func36, Tryz.ntmps36
    go_wp2_with (go_at_call 95; refine (HI.out _).mono ?_; rintro e w1 ⟨rfl, rfl⟩)
    exact bodyPost_ret (v := .tuple #[.agg #[.int .i64 0, .slice none 0 0], .bool false]) (by simp [results, Tryz.results36, go_sem]) rfl ⟨rfl, (Below.refl _ _).alloc (Nat.le_refl _) _⟩

/-- what ShardNew answers -/
def snB (i n : Int) : Bool := decide ((1 ≤ n ∧ n ≤ 12) ∧ 1 ≤ i ∧ i ≤ 3)
def snI (i n : Int) : Int := if snB i n then i else 0
def snN (i n : Int) : Int := if snB i n then n else 0
set_option maxRecDepth 100000 in
theorem iShardNew_any (i n : Int) (w : World) : Calls Tryz.prog 46 #[.int .i64 i, .int .i64 n] w fun e w' => e = .returned (.tuple #[sv (snI i n) (snN i n), .bool (snB i n)]) ∧ Below w.heap.size w w' := by
  have HWn := hideIt (fun u => iWebNew_any n u)
  by_cases hn : 1 ≤ n ∧ n ≤ 12
  · have q1 : wnM n = n := by unfold wnM; rw [if_pos hn]
    have q2 : wnB n = true := decide_eq_true hn
    rw [q1, q2] at HWn
    by_cases hi : 1 ≤ i ∧ i ≤ 3
    · have e0 : snB i n = true := decide_eq_true ⟨hn, hi⟩
      have e1 : snI i n = i := by unfold snI; rw [if_pos e0]
      have e2 : snN i n = n := by unfold snN; rw [if_pos e0]
      have HI : Hid (∀ u, Calls Tryz.prog 105 #[.int .i64 i] u fun e w' => e = .returned (.bool true) ∧ w' = u) := fun u => by
        have := shardIdOk_any i u
        rw [decide_eq_true hi] at this
        exact this
      rw [e0, e1, e2]
      clear e0 e1 e2 q1 q2 hn hi
      go_enter Tryz.func46, Tryz.ntmps46
      go_wp2_with (go_at_call 36; refine (HWn.out _).mono ?_; rintro e w1 ⟨rfl, hb1⟩; refine Hid.out ?_)
      refine (show ∀ {p : Prop}, p → Hid p from fun h => h) ?_
      have g1 : Below w.heap.size w w1 := ((Below.refl _ w).alloc (Nat.le_refl _) _).trans (hb1.mono (by simp))
      have B7 : Bk7 w1 w.heap.size 0 0 := (Bk7.new w 0 0 _ rfl).up hb1
      obtain ⟨c0, c1, c2, c3, c4, c5, c6⟩ := B7.cells
      have f0 := B7.frozen 0
      have f1 := B7.frozen 1
      have f2 := B7.frozen 2
      have f3 := B7.frozen 3
      have f4 := B7.frozen 4
      have f5 := B7.frozen 5
      have f6 := B7.frozen 6
      have lt1 := B7.lt
      obtain ⟨t0, t1, t2, t3, t4, t5, t6⟩ := ((B7.set7 (i) (n)).alloc (.cells #[.int .i64 (n), .slice none 0 0] 26)).cells
      have HZ := hideIt ((s7_below (i := i) (n := n) g1 (Nat.le_refl _)).alloc (by simp [s7]; omega) (.cells #[.int .i64 (n), .slice none 0 0] 26))
      unfold s7 at t0 t1 t2 t3 t4 t5 t6 HZ
      clear hb1 HWn B7 g1
      go_wp2_with (go_at_call 105; refine (HI.out _).mono ?_; rintro e w2 ⟨rfl, hw2⟩; have hw2' := hw2.symm; subst hw2')
      exact bodyPost_ret (v := .tuple #[sv (i) (n), .bool true]) (by simp [results, Tryz.results46, go_sem, t0, t1, t2, t3, t4, t5, t6]) rfl ⟨rfl, HZ.out⟩
    · have e0 : snB i n = false := decide_eq_false fun h => hi h.2
      have e1 : snI i n = 0 := by unfold snI; rw [if_neg (by rw [e0]; simp)]
      have e2 : snN i n = 0 := by unfold snN; rw [if_neg (by rw [e0]; simp)]
      have HI : Hid (∀ u, Calls Tryz.prog 105 #[.int .i64 i] u fun e w' => e = .returned (.bool false) ∧ w' = u) := fun u => by
        have := shardIdOk_any i u
        rw [decide_eq_false hi] at this
        exact this
      rw [e0, e1, e2]
      clear e0 e1 e2 q1 q2 hn hi
      go_enter Tryz.func46, Tryz.ntmps46
      go_wp2_with (go_at_call 36; refine (HWn.out _).mono ?_; rintro e w1 ⟨rfl, hb1⟩; refine Hid.out ?_)
      refine (show ∀ {p : Prop}, p → Hid p from fun h => h) ?_
      have g1 : Below w.heap.size w w1 := ((Below.refl _ w).alloc (Nat.le_refl _) _).trans (hb1.mono (by simp))
      have B7 : Bk7 w1 w.heap.size 0 0 := (Bk7.new w 0 0 _ rfl).up hb1
      obtain ⟨c0, c1, c2, c3, c4, c5, c6⟩ := B7.cells
      have f0 := B7.frozen 0
      have f1 := B7.frozen 1
      have f2 := B7.frozen 2
      have f3 := B7.frozen 3
      have f4 := B7.frozen 4
      have f5 := B7.frozen 5
      have f6 := B7.frozen 6
      have lt1 := B7.lt
      obtain ⟨t0, t1, t2, t3, t4, t5, t6⟩ := ((B7.set7 (0) (0)).alloc (.cells #[.int .i64 (n), .slice none 0 0] 26)).cells
      have HZ := hideIt ((s7_below (i := 0) (n := 0) g1 (Nat.le_refl _)).alloc (by simp [s7]; omega) (.cells #[.int .i64 (n), .slice none 0 0] 26))
      unfold s7 at t0 t1 t2 t3 t4 t5 t6 HZ
      clear hb1 HWn B7 g1
      go_wp2_with (go_at_call 105; refine (HI.out _).mono ?_; rintro e w2 ⟨rfl, hw2⟩; have hw2' := hw2.symm; subst hw2')
      exact bodyPost_ret (v := .tuple #[sv (0) (0), .bool false]) (by simp [results, Tryz.results46, go_sem, t0, t1, t2, t3, t4, t5, t6]) rfl ⟨rfl, HZ.out⟩
  · have q1 : wnM n = 0 := by unfold wnM; rw [if_neg hn]
    have q2 : wnB n = false := decide_eq_false hn
    rw [q1, q2] at HWn
    have e0 : snB i n = false := decide_eq_false fun h => hn h.1
    have e1 : snI i n = 0 := by unfold snI; rw [if_neg (by rw [e0]; simp)]
    have e2 : snN i n = 0 := by unfold snN; rw [if_neg (by rw [e0]; simp)]
    rw [e0, e1, e2]
    clear e0 e1 e2 q1 q2 hn
    go_enter Tryz.func46, Tryz.ntmps46
    go_wp2_with (go_at_call 36; refine (HWn.out _).mono ?_; rintro e w1 ⟨rfl, hb1⟩; refine Hid.out ?_)
    refine (show ∀ {p : Prop}, p → Hid p from fun h => h) ?_
    have g1 : Below w.heap.size w w1 := ((Below.refl _ w).alloc (Nat.le_refl _) _).trans (hb1.mono (by simp))
    have B7 : Bk7 w1 w.heap.size 0 0 := (Bk7.new w 0 0 _ rfl).up hb1
    obtain ⟨c0, c1, c2, c3, c4, c5, c6⟩ := B7.cells
    have f0 := B7.frozen 0
    have f1 := B7.frozen 1
    have f2 := B7.frozen 2
    have f3 := B7.frozen 3
    have f4 := B7.frozen 4
    have f5 := B7.frozen 5
    have f6 := B7.frozen 6
    have lt1 := B7.lt
    obtain ⟨t0, t1, t2, t3, t4, t5, t6⟩ := ((B7.set7 (0) (0)).alloc (.cells #[.int .i64 (0), .slice none 0 0] 26)).cells
    have HZ := hideIt ((s7_below (i := 0) (n := 0) g1 (Nat.le_refl _)).alloc (by simp [s7]; omega) (.cells #[.int .i64 (0), .slice none 0 0] 26))
    unfold s7 at t0 t1 t2 t3 t4 t5 t6 HZ
    clear hb1 HWn B7 g1
    go_wp2
    exact bodyPost_ret (v := .tuple #[sv (0) (0), .bool false]) (by simp [results, Tryz.results46, go_sem, t0, t1, t2, t3, t4, t5, t6]) rfl ⟨rfl, HZ.out⟩
set_option maxRecDepth 100000 in
theorem sShardNew_any (i n : Int) (w : World) : Calls Tryz.prog 47 #[.int .i64 i, .int .i64 n] w fun e w' => e = .returned (.tuple #[sv (snI i n) (snN i n), .bool (snB i n)]) ∧ Below w.heap.size w w' := by
  have HWn := hideIt (fun u => sWebNew_any n u)
  by_cases hn : 1 ≤ n ∧ n ≤ 12
  · have q1 : wnM n = n := by unfold wnM; rw [if_pos hn]
    have q2 : wnB n = true := decide_eq_true hn
    rw [q1, q2] at HWn
    by_cases hi : 1 ≤ i ∧ i ≤ 3
    · have e0 : snB i n = true := decide_eq_true ⟨hn, hi⟩
      have e1 : snI i n = i := by unfold snI; rw [if_pos e0]
      have e2 : snN i n = n := by unfold snN; rw [if_pos e0]
      have HI : Hid (∀ u, Calls Tryz.prog 80 #[.int .i64 i, .int .i64 1, .int .i64 3] u fun e w' => e = .returned (.bool true) ∧ w' = u) := fun u => by
        have := l01In_any i 1 3 u
        rw [decide_eq_true hi] at this
        exact this
      rw [e0, e1, e2]
      clear e0 e1 e2 q1 q2 hn hi
      go_enter Tryz.func47, Tryz.ntmps47
      go_wp2_with (go_at_call 113; refine (HWn.out _).mono ?_; rintro e w1 ⟨rfl, hb1⟩; refine Hid.out ?_)
      refine (show ∀ {p : Prop}, p → Hid p from fun h => h) ?_
      have g1 : Below w.heap.size w w1 := ((Below.refl _ w).alloc (Nat.le_refl _) _).trans (hb1.mono (by simp))
      have B7 : Bk7 w1 w.heap.size 0 0 := (Bk7.new w 0 0 _ rfl).up hb1
      obtain ⟨c0, c1, c2, c3, c4, c5, c6⟩ := B7.cells
      have f0 := B7.frozen 0
      have f1 := B7.frozen 1
      have f2 := B7.frozen 2
      have f3 := B7.frozen 3
      have f4 := B7.frozen 4
      have f5 := B7.frozen 5
      have f6 := B7.frozen 6
      have lt1 := B7.lt
      obtain ⟨t0, t1, t2, t3, t4, t5, t6⟩ := ((B7.set7 (i) (n)).alloc (.cells #[.int .i64 (n), .slice none 0 0] 26)).cells
      have HZ := hideIt ((s7_below (i := i) (n := n) g1 (Nat.le_refl _)).alloc (by simp [s7]; omega) (.cells #[.int .i64 (n), .slice none 0 0] 26))
      unfold s7 at t0 t1 t2 t3 t4 t5 t6 HZ
      clear hb1 HWn B7 g1
      go_wp2_with (go_at_call 80; refine (HI.out _).mono ?_; rintro e w2 ⟨rfl, hw2⟩; have hw2' := hw2.symm; subst hw2')
      exact bodyPost_ret (v := .tuple #[sv (i) (n), .bool true]) (by simp [results, Tryz.results47, go_sem, t0, t1, t2, t3, t4, t5, t6]) rfl ⟨rfl, HZ.out⟩
    · have e0 : snB i n = false := decide_eq_false fun h => hi h.2
      have e1 : snI i n = 0 := by unfold snI; rw [if_neg (by rw [e0]; simp)]
      have e2 : snN i n = 0 := by unfold snN; rw [if_neg (by rw [e0]; simp)]
      have HI : Hid (∀ u, Calls Tryz.prog 80 #[.int .i64 i, .int .i64 1, .int .i64 3] u fun e w' => e = .returned (.bool false) ∧ w' = u) := fun u => by
        have := l01In_any i 1 3 u
        rw [decide_eq_false hi] at this
        exact this
      rw [e0, e1, e2]
      clear e0 e1 e2 q1 q2 hn hi
      go_enter Tryz.func47, Tryz.ntmps47
      go_wp2_with (go_at_call 113; refine (HWn.out _).mono ?_; rintro e w1 ⟨rfl, hb1⟩; refine Hid.out ?_)
      refine (show ∀ {p : Prop}, p → Hid p from fun h => h) ?_
      have g1 : Below w.heap.size w w1 := ((Below.refl _ w).alloc (Nat.le_refl _) _).trans (hb1.mono (by simp))
      have B7 : Bk7 w1 w.heap.size 0 0 := (Bk7.new w 0 0 _ rfl).up hb1
      obtain ⟨c0, c1, c2, c3, c4, c5, c6⟩ := B7.cells
      have f0 := B7.frozen 0
      have f1 := B7.frozen 1
      have f2 := B7.frozen 2
      have f3 := B7.frozen 3
      have f4 := B7.frozen 4
      have f5 := B7.frozen 5
      have f6 := B7.frozen 6
      have lt1 := B7.lt
      obtain ⟨t0, t1, t2, t3, t4, t5, t6⟩ := ((B7.set7 (0) (0)).alloc (.cells #[.int .i64 (n), .slice none 0 0] 26)).cells
      have HZ := hideIt ((s7_below (i := 0) (n := 0) g1 (Nat.le_refl _)).alloc (by simp [s7]; omega) (.cells #[.int .i64 (n), .slice none 0 0] 26))
      unfold s7 at t0 t1 t2 t3 t4 t5 t6 HZ
      clear hb1 HWn B7 g1
      go_wp2_with (go_at_call 80; refine (HI.out _).mono ?_; rintro e w2 ⟨rfl, hw2⟩; have hw2' := hw2.symm; subst hw2')
      exact bodyPost_ret (v := .tuple #[sv (0) (0), .bool false]) (by simp [results, Tryz.results47, go_sem, t0, t1, t2, t3, t4, t5, t6]) rfl ⟨rfl, HZ.out⟩
  · have q1 : wnM n = 0 := by unfold wnM; rw [if_neg hn]
    have q2 : wnB n = false := decide_eq_false hn
    rw [q1, q2] at HWn
    have e0 : snB i n = false := decide_eq_false fun h => hn h.1
    have e1 : snI i n = 0 := by unfold snI; rw [if_neg (by rw [e0]; simp)]
    have e2 : snN i n = 0 := by unfold snN; rw [if_neg (by rw [e0]; simp)]
    rw [e0, e1, e2]
    clear e0 e1 e2 q1 q2 hn
    go_enter Tryz.func47, Tryz.ntmps47
    go_wp2_with (go_at_call 113; refine (HWn.out _).mono ?_; rintro e w1 ⟨rfl, hb1⟩; refine Hid.out ?_)
    refine (show ∀ {p : Prop}, p → Hid p from fun h => h) ?_
    have g1 : Below w.heap.size w w1 := ((Below.refl _ w).alloc (Nat.le_refl _) _).trans (hb1.mono (by simp))
    have B7 : Bk7 w1 w.heap.size 0 0 := (Bk7.new w 0 0 _ rfl).up hb1
    obtain ⟨c0, c1, c2, c3, c4, c5, c6⟩ := B7.cells
    have f0 := B7.frozen 0
    have f1 := B7.frozen 1
    have f2 := B7.frozen 2
    have f3 := B7.frozen 3
    have f4 := B7.frozen 4
    have f5 := B7.frozen 5
    have f6 := B7.frozen 6
    have lt1 := B7.lt
    obtain ⟨t0, t1, t2, t3, t4, t5, t6⟩ := ((B7.set7 (0) (0)).alloc (.cells #[.int .i64 (0), .slice none 0 0] 26)).cells
    have HZ := hideIt ((s7_below (i := 0) (n := 0) g1 (Nat.le_refl _)).alloc (by simp [s7]; omega) (.cells #[.int .i64 (0), .slice none 0 0] 26))
    unfold s7 at t0 t1 t2 t3 t4 t5 t6 HZ
    clear hb1 HWn B7 g1
    go_wp2
    exact bodyPost_ret (v := .tuple #[sv (0) (0), .bool false]) (by simp [results, Tryz.results47, go_sem, t0, t1, t2, t3, t4, t5, t6]) rfl ⟨rfl, HZ.out⟩

theorem conn_nil {u v : Int} (h : Conn [] u v) : v = u := h (fun x => x = u) (fun e he => by cases he) rfl
theorem WOk_nil {n : Nat} (h1 : 1 ≤ n) (h12 : n ≤ 12) : WOk (n : Int) [] := by
  refine ⟨?_, (fun x hx => by cases hx), fun i hi => ?_⟩
  · unfold gB
    rw [decide_eq_true (show (1 : Int) ≤ (n : Int) ∧ (n : Int) ≤ 12 by omega)]
    rfl
  · rw [Int.toNat_natCast]
    have hE : ∀ e ∈ fE [] (i : Int), 0 ≤ e.1 ∧ e.1 < e.2 ∧ e.2 < (n : Int) := fun e he => by simp [fE] at he
    obtain ⟨ts, hts⟩ := (ft_iff hE h1 h12).2 (fun e he => by simp [fE] at he)
    have hA := ft_all hE h1 h12 hts
    refine ⟨ts, hts, fun t ht hl => ?_, (fun x hx => by cases hx)⟩
    exfalso
    have e0 : fE [] (i : Int) = [] := by simp [fE]
    rw [e0] at hA
    have hp := vsK_asc t 12
    have hq := hp
    have hll : 1 < (vsK t 12).length := hl
    have m0 : (vsK t 12)[0] ∈ vsL t := List.getElem_mem _
    have m1 : (vsK t 12)[1] ∈ vsL t := List.getElem_mem _
    have hlt := List.pairwise_iff_getElem.1 hq 0 1 (by omega) (by omega) (by omega)
    have t0 := ((vsL_mem t _).1 m0).2
    have t1 := ((vsL_mem t _).1 m1).2
    have := conn_nil ((hA.conn t ht _ t0 _).1 t1)
    omega
theorem shB_new {i n : Int} (h : snB i n = true) : shB i n [] 0 false [] [] = true := by
  have h2 : (1 ≤ n ∧ n ≤ 12) ∧ 1 ≤ i ∧ i ≤ 3 := of_decide_eq_true h
  obtain ⟨k, rfl⟩ : ∃ k : Nat, n = (k : Int) := ⟨n.toNat, by omega⟩
  unfold shB
  rw [decide_eq_true h2.2, wB_yes (WOk_nil (by omega) (by omega))]
  rfl

set_option maxRecDepth 100000 in
theorem compE_nil (a : Option Addr) (c : Nat) (w : World) : Calls Tryz.prog 108 #[.slice a 0 c] w fun e w' => e = .returned (.slice a 0 c) ∧ w' = w := by
  go_enter Tryz.func108, Tryz.ntmps108
  go_wp2
  go_ret
  exact ⟨rfl, rfl⟩
set_option maxRecDepth 100000 in
set_option maxHeartbeats 2000000 in
theorem iOwned_nil (i n : Int) (w : World) : Calls Tryz.prog 44 #[sv i n] w fun e w' => ∃ a c, e = .returned (.slice a 0 c) ∧ Below w.heap.size w w' := by
  obtain ⟨W1, hW1⟩ : ∃ W1, W1 = w.alloc (.cells #[.int .i64 i, .int .i64 n, .slice none 0 0, .int .i64 0, .bool false, .slice none 0 0, .slice none 0 0] 67) := ⟨_, rfl⟩
  have bW : Below w.heap.size w W1 := by rw [hW1]; exact (Below.refl _ _).alloc (Nat.le_refl _) _
  have B1 : Bk7 W1 w.heap.size i n := by rw [hW1]; exact Bk7.new w i n _ rfl
  obtain ⟨x0, x1, x2, x3, x4, x5, x6⟩ := B1.cells
  have HG := hideIt (iGraphOf_any n [] 0 none 0 (by omega) W1 ⟨rfl, .inl rfl⟩)
  have hfd : ∀ (u : World) (g : Nat), (Instr.field 33 (.agg #[.int .i64 n, .slice (some ⟨g, 0, none⟩) 0 0]) 1).run Tryz.prog u = .ok (.slice (some ⟨g, 0, none⟩) 0 0) u := fun u g => by kernel_rfl
  have HC := hideIt compE_nil
  have HB := hideIt bW
  clear bW
  go_enter Tryz.func44, Tryz.ntmps44
  go_upto_region 1 with fail
  rw [← hW1]
  clear hW1
  go_wp2_with (go_at_call 13; refine HG.out.mono ?_; rintro e w2 ⟨g, rfl, o2, b2⟩; refine Hid.out ?_)
  refine (show ∀ {p : Prop}, p → Hid p from fun h => h) ?_
  have B2 := HB.out.trans (b2.mono HB.out.size)
  have HV := hideIt (valuesE_any (some ⟨g, 0, none⟩) 0 0 w2)
  have HS := hideIt (sortedFE_any [] 0 (some ⟨g, 0, none⟩) 0 w2.heap.size (by omega) (w2.alloc (.cells #[.slice (some ⟨g, 0, none⟩) 0 0] 31)) (by simp) (by simp [go_sem]) ⟨rfl, .inl rfl⟩)
  clear HG o2 b2 x0 x1 x2 x3 x4 x5 x6 B1
  go_wp2_with (first | (go_at_call 110; refine HV.out.mono ?_; rintro e w3 ⟨rfl, rfl⟩) | (go_at_call 109; refine HS.out.mono ?_; rintro e w4 ⟨a4, c4, rfl, _, b4⟩) | (go_at_call 108; refine (HC.out _ _ _).mono ?_; rintro e w5 ⟨rfl, rfl⟩))
  go_ret
  exact ⟨a4, c4, rfl, (B2.alloc B2.size _).trans (b4.mono (by have := B2.size; simp; omega))⟩

theorem drawShardNew_any (w : World) (a : Option Addr) (len cap : Nat) (hl : len ≤ 1048576) (hcode : Code w w.heap.size a len) :
    Calls Tryz.prog 45 #[.slice a len cap] w fun e w' => ∃ x y : Int, e = .returned (.tuple #[.int .i64 x, .int .i64 y]) ∧ Below w.heap.size w w' := by
  have HN := hideIt (l01New_any w a len cap hl hcode)
  clear hcode
  go_enter Tryz.func45, Tryz.ntmps45
  go_wp2_with (go_at_call 61; refine HN.out.mono ?_; rintro e w1 ⟨rfl, hc, hd, hb, hs⟩; refine Hid.out ?_)
  refine (show ∀ {p : Prop}, p → Hid p from fun h => h) ?_
  have HT := hideIt (l01Place7_any 4 (by omega) (by omega) w1 w.heap.size a len cap hl hc hd)
  clear HN hc hd
  go_wp2_with (go_at_call 112; refine HT.out.mono ?_; rintro e w2 ⟨x, rfl, d2⟩; refine Hid.out ?_)
  refine (show ∀ {p : Prop}, p → Hid p from fun h => h) ?_
  have HT2 := hideIt (l01Place7_any 13 (by omega) (by omega) w2 w.heap.size a len cap hl d2.cur d2.code)
  have s2 := d2.grown.size
  clear HT
  go_wp2_with (go_at_call 112; refine HT2.out.mono ?_; rintro e w3 ⟨y, rfl, d3⟩)
  exact bodyPost_ret (v := .tuple #[.int .i64 x, .int .i64 y]) (by simp [results, Tryz.results45, go_sem]) rfl ⟨x, y, rfl, hb.trans ((Below.refl w.heap.size w1).grown (d2.trans d3).grown (by omega) (fun j e => by cases e; exact Nat.le_refl _))⟩

set_option maxRecDepth 100000 in
set_option maxHeartbeats 8000000 in
theorem fnShardNew.walk (a : Option Addr) (len cap : Nat) (w : World) (hcode : Code w w.heap.size a len) :
    Calls Tryz.prog 8 #[.slice a len cap] w fun e w' => e = .returned (.bool true) ∧ Below w.heap.size w w' := by
  have HBig := hideIt (big7_any w a len cap)
  by_cases hl : len ≤ 1048576
  case neg =>
    have d0 : decide ((1048576 : Int) < (len : Int)) = true := decide_eq_true (by omega)
    clear hcode
    go_enter Tryz.func8, Tryz.ntmps8
    go_wp2_with (go_at_call 11; refine HBig.out.mono ?_; rintro e w1 ⟨rfl, rfl⟩)
    go_ret
    exact ⟨rfl, Below.refl _ _⟩
  case pos =>
    have d0 : decide ((1048576 : Int) < (len : Int)) = false := decide_eq_false (by omega)
    have H1 := hideIt (drawShardNew_any w a len cap hl hcode)
    clear hcode
    go_enter Tryz.func8, Tryz.ntmps8
    go_wp2_with (go_at_call 11; refine HBig.out.mono ?_; rintro e w0 ⟨rfl, hw⟩; have hw' := hw.symm; subst hw'; clear hw; refine Hid.out ?_)
    refine (show ∀ {p : Prop}, p → Hid p from fun h => h) ?_
    clear HBig
    go_wp2_with (go_at_call 45; refine H1.out.mono ?_; rintro e w1 ⟨i, n, rfl, b1⟩; refine Hid.out ?_)
    refine (show ∀ {p : Prop}, p → Hid p from fun h => h) ?_
    have H2 := hideIt (iShardNew_any i n w1)
    clear H1
    go_wp2_with (go_at_call 46; refine H2.out.mono ?_; rintro e w2 ⟨rfl, b2⟩; refine Hid.out ?_)
    refine (show ∀ {p : Prop}, p → Hid p from fun h => h) ?_
    obtain ⟨W2, hW2⟩ : ∃ W2, W2 = w2.alloc (.cells #[.int .i64 (snI i n), .int .i64 (snN i n), .slice none 0 0, .int .i64 0, .bool false, .slice none 0 0, .slice none 0 0] 67) := ⟨_, rfl⟩
    have bA : Below w2.heap.size w2 W2 := by rw [hW2]; exact (Below.refl _ _).alloc (Nat.le_refl _) _
    have X2 : Bk7 W2 w2.heap.size (snI i n) (snN i n) := by rw [hW2]; exact Bk7.new w2 _ _ _ rfl
    have B2 : Below w.heap.size w W2 := (b1.trans (b2.mono b1.size)).trans (bA.mono (by have := b1.size; have := b2.size; omega))
    have H3 := hideIt (sShardNew_any i n W2)
    clear H2 b1 b2 bA
    go_upto_region 5 with fail
    rw [← hW2]
    obtain ⟨b9, hb9⟩ : ∃ b9, b9 = w2.heap.size := ⟨_, rfl⟩
    rw [← hb9] at X2 ⊢
    clear hW2 hb9
    go_wp2_with (go_at_call 47; refine H3.out.mono ?_; rintro e w3 ⟨rfl, b3⟩; refine Hid.out ?_)
    refine (show ∀ {p : Prop}, p → Hid p from fun h => h) ?_
    obtain ⟨W3, hW3⟩ : ∃ W3, W3 = w3.alloc (.cells #[.int .i64 (snI i n), .int .i64 (snN i n), .slice none 0 0, .int .i64 0, .bool false, .slice none 0 0, .slice none 0 0] 67) := ⟨_, rfl⟩
    have bA : Below w3.heap.size w3 W3 := by rw [hW3]; exact (Below.refl _ _).alloc (Nat.le_refl _) _
    have X3 := (X2.up b3).up bA
    have B3 : Below w.heap.size w W3 := (B2.trans (b3.mono B2.size)).trans (bA.mono (by have := B2.size; have := b3.size; omega))
    have HSh := hideIt (fun (h : snB i n = true) => (iShardOk_any i n [] 0 none 0 0 false [] [] 0 none 0 0 none 0 (by omega) (by omega) (by omega) W3 ⟨rfl, .inl rfl⟩ ⟨rfl, .inl rfl⟩ ⟨rfl, .inl rfl⟩))
    have HOw := hideIt (fun u => iOwned_nil i n u)
    have hshb := hideIt (@shB_new i n)
    have hsI : snB i n = true → snI i n = i ∧ snN i n = n := fun h => ⟨by unfold snI; rw [if_pos h], by unfold snN; rw [if_pos h]⟩
    have hsN : snB i n = false → snI i n = 0 := fun h => by unfold snI; rw [h]; rfl
    clear H3 b3 bA X2 B2
    go_upto_region 6 with fail
    rw [← hW3]
    clear hW3
    cases hf : snB i n with
    | false =>
      rw [hsN hf] at X3 ⊢
      obtain ⟨x0, x1, x2, x3, x4, x5, x6⟩ := X3.cells
      clear hsI hsN hf HSh hshb
      go_wp2
      go_ret
      exact ⟨rfl, B3⟩
    | true =>
      obtain ⟨e1, e2⟩ := hsI hf
      rw [e1, e2] at X3
      rw [e1, e2]
      have H4 := hideIt (HSh.out hf)
      rw [hshb.out hf] at H4
      obtain ⟨x0, x1, x2, x3, x4, x5, x6⟩ := X3.cells
      clear hsI hsN hf HSh hshb e1 e2
      go_wp2_with (go_at_call 41; refine H4.out.mono ?_; rintro e w4 ⟨rfl, b4⟩; refine Hid.out ?_)
      refine (show ∀ {p : Prop}, p → Hid p from fun h => h) ?_
      have X4 := X3.up b4
      clear x0 x1 x2 x3 x4 x5 x6
      obtain ⟨x0, x1, x2, x3, x4, x5, x6⟩ := X4.cells
      go_wp2_with (go_at_call 44; refine (HOw.out _).mono ?_; rintro e w5 ⟨a5, c5, rfl, b5⟩; refine Hid.out ?_)
      refine (show ∀ {p : Prop}, p → Hid p from fun h => h) ?_
      have X5 := X4.up b5
      clear x0 x1 x2 x3 x4 x5 x6
      obtain ⟨x0, x1, x2, x3, x4, x5, x6⟩ := X5.cells
      have BF := (B3.trans (b4.mono B3.size)).trans (b5.mono (by have := B3.size; have := b4.size; omega))
      go_wp2
      go_ret
      exact ⟨by simp, BF⟩
end Go.Proofs.YtpfkfbmghddepaaGreat
namespace Go.Proofs.YtpfkfbmghddepaaGreat
open Go.ChangeShapes Go.WideShapes Go.ChangeAt Go.RowKit

/-- a slice of bytes that came in, as the walk wants it -/
theorem code_of {H : Type} {enc : TypeId × Value → H} {W : World} {a : Option Addr} {len cap fuel : Nat} {x : DataW H × List MemPlace}
    (hf : DataW.trod enc Tryz.prog W 0 (fun _ => true) true fuel 22 [.slice a len cap] = some x) : Code W W.heap.size a len := by
  rcases open_ints Tryz.underlying22 Tryz.underlying5 (by kernel_rfl) hf with ⟨hcs, _⟩ | ⟨x, l, c, zs, hcs, _, hl, hm, hz, _, hcell, hwz⟩
  · simp at hcs
    obtain ⟨rfl, rfl, rfl⟩ := hcs
    exact .inl rfl
  · simp at hcs
    obtain ⟨rfl, rfl, rfl⟩ := hcs
    by_cases h0 : len = 0
    · exact .inl h0
    · have hzl : zs.length = cap := by simpa using hz
      obtain ⟨b, off, rfl, hc⟩ := ints_at hcell (by omega)
      have hb : b < W.heap.size := World.block_lt_of_cell? W _ (hc 0 (by omega))
      refine .inr ⟨b, off, rfl, hb, by omega, fun j hj => ?_⟩
      have hw := hwz (zs.getD j 0) (by
        rw [List.getD_eq_getElem?_getD, List.getElem?_eq_getElem (by omega)]
        exact List.getElem_mem _)
      have hr : 0 ≤ zs.getD j 0 ∧ zs.getD j 0 ≤ 255 := by simpa [Lit.wf, IntKind.min, IntKind.max, IntKind.signed, IntKind.bits] using hw
      refine ⟨(zs.getD j 0).toNat, by omega, ?_⟩
      rw [hc j (by omega), Int.toNat_of_nonneg hr.1]

end Go.Proofs.YtpfkfbmghddepaaGreat
