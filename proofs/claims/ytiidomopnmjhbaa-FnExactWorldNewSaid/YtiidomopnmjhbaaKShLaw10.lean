/- WorldNew: its start, its end; what its loops keep. ShardNew on both sides, and the walk of FnExactShardNew. -/
import Derived.Test.YtiidomopnmjhbaaKWt17
import Derived.Test.YtiidomopnmjhbaaKFind6
import Derived.Deep.DeepCutAuto
namespace Go.Proofs.Ytiidomopnmjhbaa
open Go.RowKit

theorem own_setABx {u : World} {B e s n b : Nat} {t : TypeId} {v : Value} {xs : List Value} {l : List Value} (h : u.ownsRow B e s v n xs) (x : BxA u b t l.toArray) (hne : e ≠ t) (k : Nat) (vs : List Value) : (setA u b k vs).ownsRow B e s v n xs := by
  induction vs generalizing u l k with
  | nil => exact h
  | cons y ys ih => exact ih (l := l.set k y) (own_setBx h x hne k y) (by have := x.set k y; rw [List.setIfInBounds_toArray] at this; exact this) (k + 1)
theorem HK.lower {u : World} {lo lo' hi : Nat} {aO : Option Addr} {v cO : Nat} {aL : Option Addr} {k cL : Nat} {aN : Option Addr} {R : List Rw} {os ns : List Int} (h : HK u lo hi aO v cO aL k cL aN R os ns) (hl : lo' ≤ lo) : HK u lo' hi aO v cO aL k cL aN R os ns :=
  ⟨own_mono h.o hl, h.l.lo hl, own_mono h.n hl, h.oh, h.nh, h.s⟩
theorem HK.setA_low {u : World} {lo hi G : Nat} {aO : Option Addr} {v cO : Nat} {aL : Option Addr} {k cL : Nat} {aN : Option Addr} {R : List Rw} {os ns : List Int} (h : HK u lo hi aO v cO aL k cL aN R os ns) (hG : G < lo) (j : Nat) (vs : List Value) : HK (setA u G j vs) lo hi aO v cO aL k cL aN R os ns :=
  ⟨own_setA h.o hG j vs, fb_setA h.l hG j vs, own_setA h.n hG j vs, h.oh, h.nh, h.s⟩
theorem setA_size (u : World) (b k : Nat) (vs : List Value) : (setA u b k vs).heap.size = u.heap.size := by
  induction vs generalizing u k with
  | nil => rfl
  | cons v r ih => rw [setA, ih]; simp
theorem rng_low {u x : World} {B : Nat} (h : Below B u x) (hs : u.heap.size ≤ x.heap.size) : Rng B u.heap.size u x :=
  ⟨h.os, h.tape, h.output, hs, fun k hk ho => h.block k (by omega)⟩
theorem HK.below {u x : World} {lo hi : Nat} {aO : Option Addr} {v cO : Nat} {aL : Option Addr} {k cL : Nat} {aN : Option Addr} {R : List Rw} {os ns : List Int} (h : HK u lo hi aO v cO aL k cL aN R os ns) (hb : Below hi u x) : HK x lo hi aO v cO aL k cL aN R os ns :=
  h.rng (rng_low hb hb.size) (.inl (Nat.le_refl _))
theorem BxA.below {u x : World} {b B : Nat} {t : TypeId} {cs : Array Value} (h : BxA u b t cs) (hb : Below B u x) (hl : b < B) : BxA x b t cs := by
  unfold BxA; rw [hb.block b hl]; exact h
def tru (k m : Nat) : List Value := List.replicate k (.bool true) ++ List.replicate (m - k) (.bool false)
theorem tru_set (k m : Nat) (h : k < m) : (tru k m).set k (.bool true) = tru (k + 1) m := by
  unfold tru
  rw [List.set_append_right _ _ (by simp), List.length_replicate, Nat.sub_self]
  obtain ⟨d, hd⟩ : ∃ d, m - k = d + 1 := ⟨m - k - 1, by omega⟩
  rw [hd, show m - (k + 1) = d by omega, List.replicate_succ, List.set_cons_zero, List.replicate_succ' , List.append_assoc]
  rfl
theorem ns_one (i n : Int) : ∀ u ∈ nsC i n, u.oneCell' = true := by
  intro u hu
  simp only [nsC, List.mem_cons, List.not_mem_nil, or_false] at hu
  rcases hu with rfl | rfl | rfl | rfl | rfl | rfl | rfl <;> rfl
theorem tru_all (m : Nat) : tru m m = List.replicate m (.bool true) := by simp [tru]
theorem tru_none (m : Nat) : tru 0 m = List.replicate m (.bool false) := by simp [tru]
theorem wna_yes {w w' : World} {nn s : Nat} (hn : 1 ≤ nn ∧ nn ≤ 12) (hs : 1 ≤ s ∧ s ≤ 3) {aO : Option Addr} {v cO : Nat} {aL : Option Addr} {k cL : Nat} {aN : Option Addr} {R : List Rw} {aS : Option Addr} {cS : Nat} {aD : Option Addr} {cD : Nat} {aU : Option Addr} {cU hi b8 : Nat} {C : Array Value} {cs : List Value}
    (hk : HK w' w.heap.size hi aO v cO aL k cL aN R (hnH (nn : Int) (s : Int)).own (hnH (nn : Int) (s : Int)).nums) (hR : rts R = (hnH (nn : Int) (s : Int)).lab)
    (hw : WR hi w' b8 C aS s cS aD (s + 1) cD aU (s + 1) cU cs (List.replicate (s + 1) (.slice none 0 0)) (List.replicate (s + 1) (.bool true)))
    (he : ∀ t < s, El cs t (nsh (nn : Int) t)) (hl : w.heap.size ≤ hi) (hh : hi ≤ w'.heap.size) (hb : Below w.heap.size w w') :
    WnA w (nn : Int) (s : Int) (.returned (.tuple #[.agg (wvC (nn : Int) (hnH (nn : Int) (s : Int)).N aO v cO aL k cL aN aS s cS aD (s + 1) cD aU (s + 1) cU), .bool true])) w' := by
  have h1 : hnB (nn : Int) (s : Int) = true := by unfold hnB; simp; omega
  have e2 : wdS (nn : Int) (s : Int) = s := by unfold wdS; rw [if_pos h1]; simp
  have e3 : wdD (nn : Int) (s : Int) = s + 1 := by unfold wdD; rw [if_pos h1]; simp
  have e4 : wdM (nn : Int) (s : Int) = (nn : Int) := by unfold wdM; rw [if_pos h1]
  refine ⟨aO, v, cO, aL, k, cL, aN, R, aS, cS, aD, cD, aU, cU, hi, cs, ?_, ?_, hR, ?_, hb⟩
  · rw [e2, e3, e4, h1]
  · rw [e2, e3]
    exact ⟨hk, hw.s, hw.d, hw.b, fun g hg => (hw.s.lt g hg).2, fun g hg => (hw.d.lt g hg).2, fun g hg => (hw.b.lt g hg).2, hl, hh, Nat.le_refl _⟩
  · rw [e2]; exact he
end Go.Proofs.Ytiidomopnmjhbaa
namespace Go.Proofs.Ytiidomopnmjhbaa
open Go.RowKit

theorem vertsOk_any (x : Int) (w : World) : Calls Try.prog 20 #[.int .i64 x] w fun e w' => e = .returned (.bool (decide (1 ≤ x ∧ x ≤ 12))) ∧ w' = w := by
  by_cases h1 : 1 ≤ x
  · by_cases h2 : x ≤ 12
    · have d1 : decide (1 ≤ x) = true := by simpa using h1
      have d2 : decide (x ≤ 12) = true := by simpa using h2
      go_enter Try.func20, Try.ntmps20
      go_wp2
      go_ret
      exact ⟨by simp [h1, h2], rfl⟩
    · have d1 : decide (1 ≤ x) = true := by simpa using h1
      have d2 : decide (x ≤ 12) = false := by simpa using h2
      go_enter Try.func20, Try.ntmps20
      go_wp2
      go_ret
      exact ⟨by simp, rfl⟩
  · have d1 : decide (1 ≤ x) = false := by simpa using h1
    go_enter Try.func20, Try.ntmps20
    go_wp2
    go_ret
    exact ⟨by simp, rfl⟩

theorem shardIdOk_any (x : Int) (w : World) : Calls Try.prog 21 #[.int .i64 x] w fun e w' => e = .returned (.bool (decide (1 ≤ x ∧ x ≤ 3))) ∧ w' = w := by
  by_cases h1 : 1 ≤ x
  · by_cases h2 : x ≤ 3
    · have d1 : decide (1 ≤ x) = true := by simpa using h1
      have d2 : decide (x ≤ 3) = true := by simpa using h2
      go_enter Try.func21, Try.ntmps21
      go_wp2
      go_ret
      exact ⟨by simp [h1, h2], rfl⟩
    · have d1 : decide (1 ≤ x) = true := by simpa using h1
      have d2 : decide (x ≤ 3) = false := by simpa using h2
      go_enter Try.func21, Try.ntmps21
      go_wp2
      go_ret
      exact ⟨by simp, rfl⟩
  · have d1 : decide (1 ≤ x) = false := by simpa using h1
    go_enter Try.func21, Try.ntmps21
    go_wp2
    go_ret
    exact ⟨by simp, rfl⟩

/-- what WebNew answers -/
def wnM (n : Int) : Int := if 1 ≤ n ∧ n ≤ 12 then n else 0
def wnB (n : Int) : Bool := decide (1 ≤ n ∧ n ≤ 12)
theorem sWebNew_any (n : Int) (w : World) : Calls Try.prog 82 #[.int .i64 n] w fun e w' => e = .returned (.tuple #[.agg #[.int .i64 (wnM n), .slice none 0 0], .bool (wnB n)]) ∧ Below w.heap.size w w' := by
  by_cases h : 1 ≤ n ∧ n ≤ 12
  · have e1 : wnM n = n := by unfold wnM; rw [if_pos h]
    have e2 : wnB n = true := decide_eq_true h
    rw [e1, e2]
    have HI : Hid (∀ u, Calls Try.prog 23 #[.int .i64 n, .int .i64 1, .int .i64 12] u fun e w' => e = .returned (.bool true) ∧ w' = u) := fun u => by
      have := l01In_any n 1 12 u
      rw [decide_eq_true h] at this
      exact this
    clear e1 e2
    go_enter Try.func82, Try.ntmps82
    go_wp2_with (go_at_call 23; refine (HI.out _).mono ?_; rintro e w1 ⟨rfl, rfl⟩)
    exact bodyPost_ret (v := .tuple #[.agg #[.int .i64 n, .slice none 0 0], .bool true]) (by simp [results, Try.results82, go_sem]) rfl ⟨rfl, (Below.refl _ _).alloc (Nat.le_refl _) _⟩
  · have e1 : wnM n = 0 := by unfold wnM; rw [if_neg h]
    have e2 : wnB n = false := decide_eq_false h
    rw [e1, e2]
    have HI : Hid (∀ u, Calls Try.prog 23 #[.int .i64 n, .int .i64 1, .int .i64 12] u fun e w' => e = .returned (.bool false) ∧ w' = u) := fun u => by
      have := l01In_any n 1 12 u
      rw [decide_eq_false h] at this
      exact this
    clear e1 e2
    go_enter Try.func82, Try.ntmps82
    go_wp2_with (go_at_call 23; refine (HI.out _).mono ?_; rintro e w1 ⟨rfl, rfl⟩)
    exact bodyPost_ret (v := .tuple #[.agg #[.int .i64 0, .slice none 0 0], .bool false]) (by simp [results, Try.results82, go_sem]) rfl ⟨rfl, (Below.refl _ _).alloc (Nat.le_refl _) _⟩
theorem iWebNew_any (n : Int) (w : World) : Calls Try.prog 83 #[.int .i64 n] w fun e w' => e = .returned (.tuple #[.agg #[.int .i64 (wnM n), .slice none 0 0], .bool (wnB n)]) ∧ Below w.heap.size w w' := by
  by_cases h : 1 ≤ n ∧ n ≤ 12
  · have e1 : wnM n = n := by unfold wnM; rw [if_pos h]
    have e2 : wnB n = true := decide_eq_true h
    rw [e1, e2]
    have HI : Hid (∀ u, Calls Try.prog 20 #[.int .i64 n] u fun e w' => e = .returned (.bool true) ∧ w' = u) := fun u => by
      have := vertsOk_any n u
      rw [decide_eq_true h] at this
      exact this
    clear e1 e2
    go_enter Try.func83, Try.ntmps83
    go_wp2_with (go_at_call 20; refine (HI.out _).mono ?_; rintro e w1 ⟨rfl, rfl⟩)
    exact bodyPost_ret (v := .tuple #[.agg #[.int .i64 n, .slice none 0 0], .bool true]) (by simp [results, Try.results83, go_sem]) rfl ⟨rfl, (Below.refl _ _).alloc (Nat.le_refl _) _⟩
  · have e1 : wnM n = 0 := by unfold wnM; rw [if_neg h]
    have e2 : wnB n = false := decide_eq_false h
    rw [e1, e2]
    have HI : Hid (∀ u, Calls Try.prog 20 #[.int .i64 n] u fun e w' => e = .returned (.bool false) ∧ w' = u) := fun u => by
      have := vertsOk_any n u
      rw [decide_eq_false h] at this
      exact this
    clear e1 e2
    go_enter Try.func83, Try.ntmps83
    go_wp2_with (go_at_call 20; refine (HI.out _).mono ?_; rintro e w1 ⟨rfl, rfl⟩)
    exact bodyPost_ret (v := .tuple #[.agg #[.int .i64 0, .slice none 0 0], .bool false]) (by simp [results, Try.results83, go_sem]) rfl ⟨rfl, (Below.refl _ _).alloc (Nat.le_refl _) _⟩

/-- what ShardNew answers -/
def snB (i n : Int) : Bool := decide ((1 ≤ n ∧ n ≤ 12) ∧ 1 ≤ i ∧ i ≤ 3)
def snI (i n : Int) : Int := if snB i n then i else 0
def snN (i n : Int) : Int := if snB i n then n else 0
set_option maxRecDepth 100000 in
theorem iShardNew_any (i n : Int) (w : World) : Calls Try.prog 36 #[.int .i64 i, .int .i64 n] w fun e w' => e = .returned (.tuple #[sv (snI i n) (snN i n), .bool (snB i n)]) ∧ Below w.heap.size w w' := by
  have HWn := hideIt (fun u => iWebNew_any n u)
  by_cases hn : 1 ≤ n ∧ n ≤ 12
  · have q1 : wnM n = n := by unfold wnM; rw [if_pos hn]
    have q2 : wnB n = true := decide_eq_true hn
    rw [q1, q2] at HWn
    by_cases hi : 1 ≤ i ∧ i ≤ 3
    · have e0 : snB i n = true := decide_eq_true ⟨hn, hi⟩
      have e1 : snI i n = i := by unfold snI; rw [if_pos e0]
      have e2 : snN i n = n := by unfold snN; rw [if_pos e0]
      have HI : Hid (∀ u, Calls Try.prog 21 #[.int .i64 i] u fun e w' => e = .returned (.bool true) ∧ w' = u) := fun u => by
        have := shardIdOk_any i u
        rw [decide_eq_true hi] at this
        exact this
      rw [e0, e1, e2]
      clear e0 e1 e2 q1 q2 hn hi
      go_enter Try.func36, Try.ntmps36
      go_wp2_with (go_at_call 83; refine (HWn.out _).mono ?_; rintro e w1 ⟨rfl, hb1⟩; refine Hid.out ?_)
      refine (show ∀ {p : Prop}, p → Hid p from fun h => h) ?_
      have g1 : Below w.heap.size w w1 := ((Below.refl _ w).alloc (Nat.le_refl _) _).trans (hb1.mono (by simp))
      have B7 : Bk7 w1 w.heap.size 0 0 := (Bk7.new w 0 0 _ rfl).up hb1
      obtain ⟨c0, c1, c2, c3, c4, c5, c6⟩ := B7.cells
      have f0 := B7.frozen 0
      have f1 := B7.frozen 1
      have f2 := B7.frozen 2
      have f3 := B7.frozen 3
      have f4 := B7.frozen 4
      have f5 := B7.frozen 5
      have f6 := B7.frozen 6
      have lt1 := B7.lt
      obtain ⟨t0, t1, t2, t3, t4, t5, t6⟩ := ((B7.set7 (i) (n)).alloc (.cells #[.int .i64 (n), .slice none 0 0] 76)).cells
      have HZ := hideIt ((s7_below (i := i) (n := n) g1 (Nat.le_refl _)).alloc (by simp [s7]; omega) (.cells #[.int .i64 (n), .slice none 0 0] 76))
      unfold s7 at t0 t1 t2 t3 t4 t5 t6 HZ
      clear hb1 HWn B7 g1
      go_wp2_with (go_at_call 21; refine (HI.out _).mono ?_; rintro e w2 ⟨rfl, hw2⟩; have hw2' := hw2.symm; subst hw2')
      exact bodyPost_ret (v := .tuple #[sv (i) (n), .bool true]) (by simp [results, Try.results36, go_sem, t0, t1, t2, t3, t4, t5, t6]) rfl ⟨rfl, HZ.out⟩
    · have e0 : snB i n = false := decide_eq_false fun h => hi h.2
      have e1 : snI i n = 0 := by unfold snI; rw [if_neg (by rw [e0]; simp)]
      have e2 : snN i n = 0 := by unfold snN; rw [if_neg (by rw [e0]; simp)]
      have HI : Hid (∀ u, Calls Try.prog 21 #[.int .i64 i] u fun e w' => e = .returned (.bool false) ∧ w' = u) := fun u => by
        have := shardIdOk_any i u
        rw [decide_eq_false hi] at this
        exact this
      rw [e0, e1, e2]
      clear e0 e1 e2 q1 q2 hn hi
      go_enter Try.func36, Try.ntmps36
      go_wp2_with (go_at_call 83; refine (HWn.out _).mono ?_; rintro e w1 ⟨rfl, hb1⟩; refine Hid.out ?_)
      refine (show ∀ {p : Prop}, p → Hid p from fun h => h) ?_
      have g1 : Below w.heap.size w w1 := ((Below.refl _ w).alloc (Nat.le_refl _) _).trans (hb1.mono (by simp))
      have B7 : Bk7 w1 w.heap.size 0 0 := (Bk7.new w 0 0 _ rfl).up hb1
      obtain ⟨c0, c1, c2, c3, c4, c5, c6⟩ := B7.cells
      have f0 := B7.frozen 0
      have f1 := B7.frozen 1
      have f2 := B7.frozen 2
      have f3 := B7.frozen 3
      have f4 := B7.frozen 4
      have f5 := B7.frozen 5
      have f6 := B7.frozen 6
      have lt1 := B7.lt
      obtain ⟨t0, t1, t2, t3, t4, t5, t6⟩ := ((B7.set7 (0) (0)).alloc (.cells #[.int .i64 (n), .slice none 0 0] 76)).cells
      have HZ := hideIt ((s7_below (i := 0) (n := 0) g1 (Nat.le_refl _)).alloc (by simp [s7]; omega) (.cells #[.int .i64 (n), .slice none 0 0] 76))
      unfold s7 at t0 t1 t2 t3 t4 t5 t6 HZ
      clear hb1 HWn B7 g1
      go_wp2_with (go_at_call 21; refine (HI.out _).mono ?_; rintro e w2 ⟨rfl, hw2⟩; have hw2' := hw2.symm; subst hw2')
      exact bodyPost_ret (v := .tuple #[sv (0) (0), .bool false]) (by simp [results, Try.results36, go_sem, t0, t1, t2, t3, t4, t5, t6]) rfl ⟨rfl, HZ.out⟩
  · have q1 : wnM n = 0 := by unfold wnM; rw [if_neg hn]
    have q2 : wnB n = false := decide_eq_false hn
    rw [q1, q2] at HWn
    have e0 : snB i n = false := decide_eq_false fun h => hn h.1
    have e1 : snI i n = 0 := by unfold snI; rw [if_neg (by rw [e0]; simp)]
    have e2 : snN i n = 0 := by unfold snN; rw [if_neg (by rw [e0]; simp)]
    rw [e0, e1, e2]
    clear e0 e1 e2 q1 q2 hn
    go_enter Try.func36, Try.ntmps36
    go_wp2_with (go_at_call 83; refine (HWn.out _).mono ?_; rintro e w1 ⟨rfl, hb1⟩; refine Hid.out ?_)
    refine (show ∀ {p : Prop}, p → Hid p from fun h => h) ?_
    have g1 : Below w.heap.size w w1 := ((Below.refl _ w).alloc (Nat.le_refl _) _).trans (hb1.mono (by simp))
    have B7 : Bk7 w1 w.heap.size 0 0 := (Bk7.new w 0 0 _ rfl).up hb1
    obtain ⟨c0, c1, c2, c3, c4, c5, c6⟩ := B7.cells
    have f0 := B7.frozen 0
    have f1 := B7.frozen 1
    have f2 := B7.frozen 2
    have f3 := B7.frozen 3
    have f4 := B7.frozen 4
    have f5 := B7.frozen 5
    have f6 := B7.frozen 6
    have lt1 := B7.lt
    obtain ⟨t0, t1, t2, t3, t4, t5, t6⟩ := ((B7.set7 (0) (0)).alloc (.cells #[.int .i64 (0), .slice none 0 0] 76)).cells
    have HZ := hideIt ((s7_below (i := 0) (n := 0) g1 (Nat.le_refl _)).alloc (by simp [s7]; omega) (.cells #[.int .i64 (0), .slice none 0 0] 76))
    unfold s7 at t0 t1 t2 t3 t4 t5 t6 HZ
    clear hb1 HWn B7 g1
    go_wp2
    exact bodyPost_ret (v := .tuple #[sv (0) (0), .bool false]) (by simp [results, Try.results36, go_sem, t0, t1, t2, t3, t4, t5, t6]) rfl ⟨rfl, HZ.out⟩
set_option maxRecDepth 100000 in
theorem sShardNew_any (i n : Int) (w : World) : Calls Try.prog 35 #[.int .i64 i, .int .i64 n] w fun e w' => e = .returned (.tuple #[sv (snI i n) (snN i n), .bool (snB i n)]) ∧ Below w.heap.size w w' := by
  have HWn := hideIt (fun u => sWebNew_any n u)
  by_cases hn : 1 ≤ n ∧ n ≤ 12
  · have q1 : wnM n = n := by unfold wnM; rw [if_pos hn]
    have q2 : wnB n = true := decide_eq_true hn
    rw [q1, q2] at HWn
    by_cases hi : 1 ≤ i ∧ i ≤ 3
    · have e0 : snB i n = true := decide_eq_true ⟨hn, hi⟩
      have e1 : snI i n = i := by unfold snI; rw [if_pos e0]
      have e2 : snN i n = n := by unfold snN; rw [if_pos e0]
      have HI : Hid (∀ u, Calls Try.prog 23 #[.int .i64 i, .int .i64 1, .int .i64 3] u fun e w' => e = .returned (.bool true) ∧ w' = u) := fun u => by
        have := l01In_any i 1 3 u
        rw [decide_eq_true hi] at this
        exact this
      rw [e0, e1, e2]
      clear e0 e1 e2 q1 q2 hn hi
      go_enter Try.func35, Try.ntmps35
      go_wp2_with (go_at_call 82; refine (HWn.out _).mono ?_; rintro e w1 ⟨rfl, hb1⟩; refine Hid.out ?_)
      refine (show ∀ {p : Prop}, p → Hid p from fun h => h) ?_
      have g1 : Below w.heap.size w w1 := ((Below.refl _ w).alloc (Nat.le_refl _) _).trans (hb1.mono (by simp))
      have B7 : Bk7 w1 w.heap.size 0 0 := (Bk7.new w 0 0 _ rfl).up hb1
      obtain ⟨c0, c1, c2, c3, c4, c5, c6⟩ := B7.cells
      have f0 := B7.frozen 0
      have f1 := B7.frozen 1
      have f2 := B7.frozen 2
      have f3 := B7.frozen 3
      have f4 := B7.frozen 4
      have f5 := B7.frozen 5
      have f6 := B7.frozen 6
      have lt1 := B7.lt
      obtain ⟨t0, t1, t2, t3, t4, t5, t6⟩ := ((B7.set7 (i) (n)).alloc (.cells #[.int .i64 (n), .slice none 0 0] 76)).cells
      have HZ := hideIt ((s7_below (i := i) (n := n) g1 (Nat.le_refl _)).alloc (by simp [s7]; omega) (.cells #[.int .i64 (n), .slice none 0 0] 76))
      unfold s7 at t0 t1 t2 t3 t4 t5 t6 HZ
      clear hb1 HWn B7 g1
      go_wp2_with (go_at_call 23; refine (HI.out _).mono ?_; rintro e w2 ⟨rfl, hw2⟩; have hw2' := hw2.symm; subst hw2')
      exact bodyPost_ret (v := .tuple #[sv (i) (n), .bool true]) (by simp [results, Try.results35, go_sem, t0, t1, t2, t3, t4, t5, t6]) rfl ⟨rfl, HZ.out⟩
    · have e0 : snB i n = false := decide_eq_false fun h => hi h.2
      have e1 : snI i n = 0 := by unfold snI; rw [if_neg (by rw [e0]; simp)]
      have e2 : snN i n = 0 := by unfold snN; rw [if_neg (by rw [e0]; simp)]
      have HI : Hid (∀ u, Calls Try.prog 23 #[.int .i64 i, .int .i64 1, .int .i64 3] u fun e w' => e = .returned (.bool false) ∧ w' = u) := fun u => by
        have := l01In_any i 1 3 u
        rw [decide_eq_false hi] at this
        exact this
      rw [e0, e1, e2]
      clear e0 e1 e2 q1 q2 hn hi
      go_enter Try.func35, Try.ntmps35
      go_wp2_with (go_at_call 82; refine (HWn.out _).mono ?_; rintro e w1 ⟨rfl, hb1⟩; refine Hid.out ?_)
      refine (show ∀ {p : Prop}, p → Hid p from fun h => h) ?_
      have g1 : Below w.heap.size w w1 := ((Below.refl _ w).alloc (Nat.le_refl _) _).trans (hb1.mono (by simp))
      have B7 : Bk7 w1 w.heap.size 0 0 := (Bk7.new w 0 0 _ rfl).up hb1
      obtain ⟨c0, c1, c2, c3, c4, c5, c6⟩ := B7.cells
      have f0 := B7.frozen 0
      have f1 := B7.frozen 1
      have f2 := B7.frozen 2
      have f3 := B7.frozen 3
      have f4 := B7.frozen 4
      have f5 := B7.frozen 5
      have f6 := B7.frozen 6
      have lt1 := B7.lt
      obtain ⟨t0, t1, t2, t3, t4, t5, t6⟩ := ((B7.set7 (0) (0)).alloc (.cells #[.int .i64 (n), .slice none 0 0] 76)).cells
      have HZ := hideIt ((s7_below (i := 0) (n := 0) g1 (Nat.le_refl _)).alloc (by simp [s7]; omega) (.cells #[.int .i64 (n), .slice none 0 0] 76))
      unfold s7 at t0 t1 t2 t3 t4 t5 t6 HZ
      clear hb1 HWn B7 g1
      go_wp2_with (go_at_call 23; refine (HI.out _).mono ?_; rintro e w2 ⟨rfl, hw2⟩; have hw2' := hw2.symm; subst hw2')
      exact bodyPost_ret (v := .tuple #[sv (0) (0), .bool false]) (by simp [results, Try.results35, go_sem, t0, t1, t2, t3, t4, t5, t6]) rfl ⟨rfl, HZ.out⟩
  · have q1 : wnM n = 0 := by unfold wnM; rw [if_neg hn]
    have q2 : wnB n = false := decide_eq_false hn
    rw [q1, q2] at HWn
    have e0 : snB i n = false := decide_eq_false fun h => hn h.1
    have e1 : snI i n = 0 := by unfold snI; rw [if_neg (by rw [e0]; simp)]
    have e2 : snN i n = 0 := by unfold snN; rw [if_neg (by rw [e0]; simp)]
    rw [e0, e1, e2]
    clear e0 e1 e2 q1 q2 hn
    go_enter Try.func35, Try.ntmps35
    go_wp2_with (go_at_call 82; refine (HWn.out _).mono ?_; rintro e w1 ⟨rfl, hb1⟩; refine Hid.out ?_)
    refine (show ∀ {p : Prop}, p → Hid p from fun h => h) ?_
    have g1 : Below w.heap.size w w1 := ((Below.refl _ w).alloc (Nat.le_refl _) _).trans (hb1.mono (by simp))
    have B7 : Bk7 w1 w.heap.size 0 0 := (Bk7.new w 0 0 _ rfl).up hb1
    obtain ⟨c0, c1, c2, c3, c4, c5, c6⟩ := B7.cells
    have f0 := B7.frozen 0
    have f1 := B7.frozen 1
    have f2 := B7.frozen 2
    have f3 := B7.frozen 3
    have f4 := B7.frozen 4
    have f5 := B7.frozen 5
    have f6 := B7.frozen 6
    have lt1 := B7.lt
    obtain ⟨t0, t1, t2, t3, t4, t5, t6⟩ := ((B7.set7 (0) (0)).alloc (.cells #[.int .i64 (0), .slice none 0 0] 76)).cells
    have HZ := hideIt ((s7_below (i := 0) (n := 0) g1 (Nat.le_refl _)).alloc (by simp [s7]; omega) (.cells #[.int .i64 (0), .slice none 0 0] 76))
    unfold s7 at t0 t1 t2 t3 t4 t5 t6 HZ
    clear hb1 HWn B7 g1
    go_wp2
    exact bodyPost_ret (v := .tuple #[sv (0) (0), .bool false]) (by simp [results, Try.results35, go_sem, t0, t1, t2, t3, t4, t5, t6]) rfl ⟨rfl, HZ.out⟩
end Go.Proofs.Ytiidomopnmjhbaa
