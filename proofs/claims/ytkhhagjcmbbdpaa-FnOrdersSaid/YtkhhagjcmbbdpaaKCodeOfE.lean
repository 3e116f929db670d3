/- The walk of FnOrders. A slice of bytes that comes in, as the walks over drawn inputs want it. -/
import Derived.Test.YtkhhagjcmbbdpaaKFo10
import Derived.Deep.DeepCutAuto
import Derived.Test.YtkhhagjcmbbdpaaKSHas
import Derived.WalkKit
import Derived.ProofKit
import Derived.OpenShut
import Derived.ChangeOld
import Derived.Below
namespace Go.Proofs.Ytkhhagjcmbbdpaa
open Go.RowKit Vt

theorem readO_yes {n num op : Int} {es : List EdgeV} {v : Int} (w : World) (hB : oB n ⟨num, op, es, v⟩ = true) :
    Calls Try.prog 13 #[.int .i64 n, .string (str (oText ⟨num, op, es, v⟩))] w fun e w' => ∃ (a : Option Addr) (k c : Nat), e = .returned (.tuple #[ordV num op a k c v, .bool true]) ∧ w'.ownsRow w.heap.size 78 2 (.slice a k c) k (ecells es) ∧ k ≤ 100 ∧ Below w.heap.size w w' :=
  (iReadOrder_any n _ (Nat.le_trans (oText_small hB) (by omega)) w).mono (fun e w' h => by
    obtain ⟨r, hr, h⟩ := h
    obtain rfl := IsO.of hr hB
    exact h)
theorem readO_no (n : Int) (w : World) :
    Calls Try.prog 13 #[.int .i64 n, .string ⟨#[]⟩] w fun e w' => ∃ (num op v : Int) (es : List EdgeV) (b : Bool) (a : Option Addr) (k c : Nat), e = .returned (.tuple #[ordV num op a k c v, .bool b]) ∧ w'.ownsRow w.heap.size 78 2 (.slice a k c) k (ecells es) ∧ k ≤ 100 ∧ Below w.heap.size w w' :=
  (iReadOrder_any n ⟨#[]⟩ (by show (0 : Nat) ≤ _; omega) w).mono (fun e w' h => by
    obtain ⟨r, hr, h⟩ := h
    exact ⟨_, _, _, _, _, h⟩)
theorem readA_yes {n num : Int} {ok : Bool} {es : List EdgeV} {ls : List Int} (w : World) (hB : aB n ⟨num, ok, es, ls⟩ = true) :
    Calls Try.prog 19 #[.int .i64 n, .string (str (aText ⟨num, ok, es, ls⟩))] w fun e w' => ∃ (a : Option Addr) (k c : Nat) (a' : Option Addr) (k' c' : Nat), e = .returned (.tuple #[ansV num ok a k c a' k' c', .bool true]) ∧ w'.ownsRow w.heap.size 78 2 (.slice a k c) k (ecells es) ∧ w'.ownsRow w.heap.size 3 1 (.slice a' k' c') k' (ic ls) ∧ k ≤ 100 ∧ k' ≤ 100 ∧ Below w.heap.size w w' :=
  (iReadAnswer_any n _ (Nat.le_trans (aText_small hB) (by omega)) w).mono (fun e w' h => by
    obtain ⟨r, hr, h⟩ := h
    obtain rfl := IsA.of hr hB
    exact h)
theorem readA_no (n : Int) (w : World) :
    Calls Try.prog 19 #[.int .i64 n, .string ⟨#[]⟩] w fun e w' => ∃ (num : Int) (ok : Bool) (es : List EdgeV) (ls : List Int) (b : Bool) (a : Option Addr) (k c : Nat) (a' : Option Addr) (k' c' : Nat), e = .returned (.tuple #[ansV num ok a k c a' k' c', .bool b]) ∧ w'.ownsRow w.heap.size 78 2 (.slice a k c) k (ecells es) ∧ w'.ownsRow w.heap.size 3 1 (.slice a' k' c') k' (ic ls) ∧ k ≤ 100 ∧ k' ≤ 100 ∧ Below w.heap.size w w' :=
  (iReadAnswer_any n ⟨#[]⟩ (by show (0 : Nat) ≤ _; omega) w).mono (fun e w' h => by
    obtain ⟨r, hr, h⟩ := h
    exact ⟨_, _, _, _, _, h⟩)

set_option maxRecDepth 100000 in
set_option maxHeartbeats 16000000 in
theorem fnOrders.walk (a : Option Addr) (len cap : Nat) (w : World) (hcode : Code w w.heap.size a len) :
    Calls Try.prog 3 #[.slice a len cap] w fun e w' => e = .returned (.bool true) ∧ Below w.heap.size w w' := by
  by_cases hbig : 1048576 < len
  · have H := hideIt (big_any w a len cap)
    have d0 : decide ((1048576 : Int) < (len : Int)) = true := decide_eq_true (by omega)
    rw [d0] at H
    go_enter Try.func3, Try.ntmps3
    go_wp2_with (go_at_call 10; refine H.out.mono ?_; rintro e w1 ⟨rfl, rfl⟩)
    go_ret
    exact ⟨rfl, Below.refl _ _⟩
  have hl : len ≤ 1048576 := by omega
  have H := hideIt (big_any w a len cap)
  have d0 : decide ((1048576 : Int) < (len : Int)) = false := decide_eq_false (by omega)
  rw [d0] at H
  have HD := hideIt (drawOrderText_any w a len cap hl hcode)
  have HC := hideIt hcode
  have HB0 : Hid (Below w.heap.size w w) := Below.refl _ _
  clear hcode d0
  go_enter Try.func3, Try.ntmps3
  go_wp2_with (go_at_call 10; refine H.out.mono ?_; rintro e w1 ⟨rfl, hw1⟩; have hw1' := hw1.symm; subst hw1'; refine Hid.out ?_)
  refine (show ∀ {p : Prop}, p → Hid p from fun h => h) ?_
  go_wp2_with (go_at_call 11; refine HD.out.mono ?_; rintro x w2 ⟨n, num, op, a1, k1, c1, v1, es1, rfl, own2, hk2, hb2⟩; refine Hid.out ?_)
  refine (show ∀ {p : Prop}, p → Hid p from fun h => h) ?_
  obtain ⟨W3, hW3⟩ : ∃ W3, W3 = w2.alloc (.cells #[.int .i64 num, .int .i64 op, .slice a1 k1 c1, .int .i64 v1] 26) := ⟨_, rfl⟩
  have O3 := BO.laid (num := num) (op := op) (z := v1) own2
  rw [← hW3] at O3
  have HB3 : Hid (Below w.heap.size w W3) := by
    show Below _ _ _
    rw [hW3]
    exact (HB0.out.trans (hb2.mono HB0.out.size)).trans ((bel1 _ _).mono (Nat.le_trans HB0.out.size hb2.size))
  clear HD H own2 hb2 HB0
  go_upto_region 4 with fail
  rw [← hW3]
  clear hW3
  cases hB : oB n ⟨num, op, es1, v1⟩ with
  | false =>
    have HT := hideIt (iOrderText_any n num op es1 v1 k1 a1 c1 (by omega) W3 O3.row)
    rw [otV_no hB] at HT
    unfold ordV at HT
    have q0 := O3.c0
    have q1 := O3.c1
    have q2 := O3.c2
    have q3 := O3.c3
    go_wp2_with (go_at_call 12; refine HT.out.mono ?_; rintro x w4 ⟨rfl, hb4⟩; refine Hid.out ?_)
    refine (show ∀ {p : Prop}, p → Hid p from fun h => h) ?_
    have O4 := O3.up hb4
    have HB4 := hideIt (HB3.out.trans (hb4.mono HB3.out.size))
    have HR := hideIt (readO_no n w4)
    clear q0 q1 q2 q3 hb4 HT O3 HB3
    go_wp2_with (go_at_call 13; refine HR.out.mono ?_; rintro x w5 ⟨num2, op2, v2, es2, b2, a2, k2, c2, rfl, own5, hk5, hb5⟩; refine Hid.out ?_)
    refine (show ∀ {p : Prop}, p → Hid p from fun h => h) ?_
    obtain ⟨W5, hW5⟩ : ∃ W5, W5 = w5.alloc (.cells #[.int .i64 num2, .int .i64 op2, .slice a2 k2 c2, .int .i64 v2] 26) := ⟨_, rfl⟩
    have O5 := (O4.up hb5).up (bel1 _ (.cells #[.int .i64 num2, .int .i64 op2, .slice a2 k2 c2, .int .i64 v2] 26))
    rw [← hW5] at O5
    have HB5 : Hid (Below w.heap.size w W5) := by
      show Below _ _ _
      rw [hW5]
      exact (HB4.out.trans (hb5.mono HB4.out.size)).trans ((bel1 _ _).mono (Nat.le_trans HB4.out.size hb5.size))
    clear HR own5 hb5 O4 HB4
    go_upto_region 6 with fail
    rw [← hW5]
    clear hW5
    have HS := hideIt (sOrderOk_any n num op es1 v1 k1 a1 c1 (by omega) W5 O5.row)
    rw [hB] at HS
    unfold ordV at HS
    have q0 := O5.c0
    have q1 := O5.c1
    have q2 := O5.c2
    have q3 := O5.c3
    go_wp2_with (go_at_call 14; refine HS.out.mono ?_; rintro x w6 ⟨rfl, hb6⟩; refine Hid.out ?_)
    refine (show ∀ {p : Prop}, p → Hid p from fun h => h) ?_
    have O6 := O5.up hb6
    have HB6 := hideIt (HB5.out.trans (hb6.mono HB5.out.size))
    have HI := hideIt (iOrderOk_any n num op es1 v1 k1 a1 c1 (by omega) w6 O6.row)
    rw [hB] at HI
    unfold ordV at HI
    clear q0 q1 q2 q3 HS O5 HB5 hb6
    have q0 := O6.c0
    have q1 := O6.c1
    have q2 := O6.c2
    have q3 := O6.c3
    go_wp2_with (go_at_call 15; refine HI.out.mono ?_; rintro x w7 ⟨rfl, hb7⟩; refine Hid.out ?_)
    refine (show ∀ {p : Prop}, p → Hid p from fun h => h) ?_
    have HB7 := hideIt (HB6.out.trans (hb7.mono HB6.out.size))
    clear q0 q1 q2 q3 HI HB6 hb7 O6
    clear hB
    have HA := hideIt (drawAnswerText_any w7 a len cap hl (code_up HC.out HB7.out))
    go_wp2_with (go_at_call 17; refine HA.out.mono ?_; rintro x y2 ⟨m, anum, aok, a3, k3, c3, b3, m3, d3, es3, ls3, rfl, own9, lab9, hk9, hm9, hb9⟩; refine Hid.out ?_)
    refine (show ∀ {p : Prop}, p → Hid p from fun h => h) ?_
    obtain ⟨Y3, hY3⟩ : ∃ Y3, Y3 = y2.alloc (.cells #[.int .i64 anum, .bool aok, .slice a3 k3 c3, .slice b3 m3 d3] 37) := ⟨_, rfl⟩
    have A3 := BA.laid (num := anum) (ok := aok) (d := d3) own9 lab9.is
    rw [← hY3] at A3
    have HY3 : Hid (Below w.heap.size w Y3) := by
      show Below _ _ _
      rw [hY3]
      exact (HB7.out.trans (hb9.mono HB7.out.size)).trans ((bel1 _ _).mono (Nat.le_trans HB7.out.size hb9.size))
    clear HA own9 lab9 hb9 HB7
    go_upto_region 9 with fail
    rw [← hY3]
    clear hY3
    cases hC : aB m ⟨anum, aok, es3, ls3⟩ with
    | false =>
      have HT := hideIt (iAnswerText_any m anum aok es3 ls3 k3 a3 c3 (by omega) m3 b3 d3 (by omega) Y3 A3.row A3.row2)
      rw [atV_no hC] at HT
      unfold ansV at HT
      have q0 := A3.c0
      have q1 := A3.c1
      have q2 := A3.c2
      have q3 := A3.c3
      go_wp2_with (go_at_call 18; refine HT.out.mono ?_; rintro x y4 ⟨rfl, hb4⟩; refine Hid.out ?_)
      refine (show ∀ {p : Prop}, p → Hid p from fun h => h) ?_
      have A4 := A3.up hb4
      have HY4 := hideIt (HY3.out.trans (hb4.mono HY3.out.size))
      have HR := hideIt (readA_no m y4)
      clear q0 q1 q2 q3 hb4 HT A3 HY3
      go_wp2_with (go_at_call 19; refine HR.out.mono ?_; rintro x y5 ⟨num2, ok2, es2, ls2, t2, a4, k4, c4, b4, m4, d4, rfl, own5, own5b, hk5, hm5, hb5⟩; refine Hid.out ?_)
      refine (show ∀ {p : Prop}, p → Hid p from fun h => h) ?_
      obtain ⟨Y5, hY5⟩ : ∃ Y5, Y5 = y5.alloc (.cells #[.int .i64 num2, .bool ok2, .slice a4 k4 c4, .slice b4 m4 d4] 37) := ⟨_, rfl⟩
      have A5 := (A4.up hb5).up (bel1 _ (.cells #[.int .i64 num2, .bool ok2, .slice a4 k4 c4, .slice b4 m4 d4] 37))
      rw [← hY5] at A5
      have HY5 : Hid (Below w.heap.size w Y5) := by
        show Below _ _ _
        rw [hY5]
        exact (HY4.out.trans (hb5.mono HY4.out.size)).trans ((bel1 _ _).mono (Nat.le_trans HY4.out.size hb5.size))
      clear HR own5 own5b hb5 A4 HY4
      go_upto_region 11 with fail
      rw [← hY5]
      clear hY5
      have HS := hideIt (sAnswerOk_any m anum aok es3 ls3 k3 a3 c3 (by omega) m3 b3 d3 (by omega) Y5 A5.row A5.row2)
      rw [hC] at HS
      unfold ansV at HS
      have q0 := A5.c0
      have q1 := A5.c1
      have q2 := A5.c2
      have q3 := A5.c3
      go_wp2_with (go_at_call 20; refine HS.out.mono ?_; rintro x y6 ⟨rfl, hb6⟩; refine Hid.out ?_)
      refine (show ∀ {p : Prop}, p → Hid p from fun h => h) ?_
      have A6 := A5.up hb6
      have HY6 := hideIt (HY5.out.trans (hb6.mono HY5.out.size))
      have HI := hideIt (iAnswerOk_any m anum aok es3 ls3 k3 a3 c3 (by omega) m3 b3 d3 (by omega) y6 A6.row A6.row2)
      rw [hC] at HI
      unfold ansV at HI
      clear q0 q1 q2 q3 HS A5 HY5 hb6
      have q0 := A6.c0
      have q1 := A6.c1
      have q2 := A6.c2
      have q3 := A6.c3
      go_wp2_with (go_at_call 21; refine HI.out.mono ?_; rintro x y7 ⟨rfl, hb7⟩; refine Hid.out ?_)
      refine (show ∀ {p : Prop}, p → Hid p from fun h => h) ?_
      have HY7 := hideIt (HY6.out.trans (hb7.mono HY6.out.size))
      clear q0 q1 q2 q3 HI HY6 hb7 A6
      clear hC
      have HZ := hideIt (drawReadOrder_any y7 a len cap hl (code_up HC.out HY7.out))
      go_wp2_with (go_at_call 23; refine HZ.out.mono ?_; rintro x z1 ⟨kk, u, hu, rfl, hb1⟩; refine Hid.out ?_)
      refine (show ∀ {p : Prop}, p → Hid p from fun h => h) ?_
      have Z1 := hideIt (HY7.out.trans (hb1.mono HY7.out.size))
      have HR := hideIt (iReadOrder_any kk u (by omega) z1)
      clear HZ hb1 HY7
      go_wp2_with (go_at_call 13; refine HR.out.mono ?_; rintro x z2 ⟨r2, hr2, a5, k5, c5, rfl, own5, hk5, hb5⟩; refine Hid.out ?_)
      refine (show ∀ {p : Prop}, p → Hid p from fun h => h) ?_
      obtain ⟨S2, t2, hS2, hSu⟩ := otV_read hr2
      obtain ⟨o2, ho2⟩ : ∃ o2, o2 = orO r2 := ⟨_, rfl⟩
      rw [← ho2] at hS2 own5 ⊢
      clear ho2
      obtain ⟨Z3, hZ3⟩ : ∃ Z3, Z3 = z2.alloc (.cells #[.int .i64 o2.num, .int .i64 o2.op, .slice a5 k5 c5, .int .i64 o2.v] 26) := ⟨_, rfl⟩
      have O3 := BO.laid (num := o2.num) (op := o2.op) (z := o2.v) own5
      rw [← hZ3] at O3
      have Z2 : Hid (Below w.heap.size w Z3) := by
        show Below _ _ _
        rw [hZ3]
        exact (Z1.out.trans (hb5.mono Z1.out.size)).trans ((bel1 _ _).mono (Nat.le_trans Z1.out.size hb5.size))
      clear HR own5 hb5 Z1
      go_upto_region 15 with fail
      rw [← hZ3]
      clear hZ3
      have HR := hideIt (sReadOrder_any kk u (by omega) Z3)
      go_wp2_with (go_at_call 24; refine HR.out.mono ?_; rintro x z4 ⟨r3, hr3, a6, k6, c6, rfl, own5, hk6, hb5⟩; refine Hid.out ?_)
      refine (show ∀ {p : Prop}, p → Hid p from fun h => h) ?_
      obtain rfl : r2 = r3 := hr2.uniq hr3
      obtain ⟨o3, ho3⟩ : ∃ o3, o3 = orO r2 := ⟨_, rfl⟩
      rw [← ho3] at own5 ⊢
      clear ho3
      obtain ⟨may, hmay⟩ : ∃ may, may = r2.isSome := ⟨_, rfl⟩
      rw [← hmay] at hSu ⊢
      clear hmay hr2 hr3
      obtain ⟨Z5, hZ5⟩ : ∃ Z5, Z5 = z4.alloc (.cells #[.int .i64 o3.num, .int .i64 o3.op, .slice a6 k6 c6, .int .i64 o3.v] 26) := ⟨_, rfl⟩
      have O5 := (O3.up hb5).up (bel1 _ (.cells #[.int .i64 o3.num, .int .i64 o3.op, .slice a6 k6 c6, .int .i64 o3.v] 26))
      rw [← hZ5] at O5
      have Z4 : Hid (Below w.heap.size w Z5) := by
        show Below _ _ _
        rw [hZ5]
        exact (Z2.out.trans (hb5.mono Z2.out.size)).trans ((bel1 _ _).mono (Nat.le_trans Z2.out.size hb5.size))
      clear HR own5 hb5 Z2 O3
      go_upto_region 16 with fail
      rw [← hZ5]
      clear hZ5
      have HT := hideIt (iOrderText_any kk o2.num o2.op o2.es o2.v k5 a5 c5 (by omega) Z5 O5.row)
      have hS2' : otV kk ⟨o2.num, o2.op, o2.es, o2.v⟩ = _ := hS2
      rw [hS2'] at HT
      unfold ordV at HT
      clear hS2 hS2'
      have q0 := O5.c0
      have q1 := O5.c1
      have q2 := O5.c2
      have q3 := O5.c3
      go_wp2_with (go_at_call 12; refine HT.out.mono ?_; rintro x z6 ⟨rfl, hb6⟩; refine Hid.out ?_)
      refine (show ∀ {p : Prop}, p → Hid p from fun h => h) ?_
      have Z6 := hideIt (Z4.out.trans (hb6.mono Z4.out.size))
      clear q0 q1 q2 q3 HT O5 Z4 hb6
      have HSu := hideIt hSu
      clear hSu
      have HZ := hideIt (drawReadAnswer_any z6 a len cap hl (code_up HC.out Z6.out))
      go_wp2_with (go_at_call 25; refine HZ.out.mono ?_; rintro x x1 ⟨jj, vv, hvv, rfl, hb1⟩; refine Hid.out ?_)
      refine (show ∀ {p : Prop}, p → Hid p from fun h => h) ?_
      have X1 := hideIt (Z6.out.trans (hb1.mono Z6.out.size))
      have HR := hideIt (iReadAnswer_any jj vv (by omega) x1)
      clear HZ hb1 Z6
      go_wp2_with (go_at_call 19; refine HR.out.mono ?_; rintro x x2 ⟨r4, hr4, a7, k7, c7, b7, m7, d7, rfl, own5, own5b, hk7, hm7, hb5⟩; refine Hid.out ?_)
      refine (show ∀ {p : Prop}, p → Hid p from fun h => h) ?_
      obtain ⟨S4, t4, hS4, hSv⟩ := atV_read hr4
      obtain ⟨o4, ho4⟩ : ∃ o4, o4 = orA r4 := ⟨_, rfl⟩
      rw [← ho4] at hS4 own5 own5b ⊢
      clear ho4
      obtain ⟨X3, hX3⟩ : ∃ X3, X3 = x2.alloc (.cells #[.int .i64 o4.num, .bool o4.ok, .slice a7 k7 c7, .slice b7 m7 d7] 37) := ⟨_, rfl⟩
      have A3 := BA.laid (num := o4.num) (ok := o4.ok) (d := d7) own5 (Is_of_own own5b)
      rw [← hX3] at A3
      have X2 : Hid (Below w.heap.size w X3) := by
        show Below _ _ _
        rw [hX3]
        exact (X1.out.trans (hb5.mono X1.out.size)).trans ((bel1 _ _).mono (Nat.le_trans X1.out.size hb5.size))
      clear HR own5 own5b hb5 X1
      go_upto_region 19 with fail
      rw [← hX3]
      clear hX3
      have HR := hideIt (sReadAnswer_any jj vv (by omega) X3)
      go_wp2_with (go_at_call 26; refine HR.out.mono ?_; rintro x x4 ⟨r5, hr5, a8, k8, c8, b8, m8, d8, rfl, own5, own5b, hk8, hm8, hb5⟩; refine Hid.out ?_)
      refine (show ∀ {p : Prop}, p → Hid p from fun h => h) ?_
      obtain rfl : r4 = r5 := hr4.uniq hr5
      obtain ⟨o5, ho5⟩ : ∃ o5, o5 = orA r4 := ⟨_, rfl⟩
      rw [← ho5] at own5 own5b ⊢
      clear ho5
      obtain ⟨can, hcan⟩ : ∃ can, can = r4.isSome := ⟨_, rfl⟩
      rw [← hcan] at hSv ⊢
      clear hcan hr4 hr5
      obtain ⟨X5, hX5⟩ : ∃ X5, X5 = x4.alloc (.cells #[.int .i64 o5.num, .bool o5.ok, .slice a8 k8 c8, .slice b8 m8 d8] 37) := ⟨_, rfl⟩
      have A5 := (A3.up hb5).up (bel1 _ (.cells #[.int .i64 o5.num, .bool o5.ok, .slice a8 k8 c8, .slice b8 m8 d8] 37))
      rw [← hX5] at A5
      have X4 : Hid (Below w.heap.size w X5) := by
        show Below _ _ _
        rw [hX5]
        exact (X2.out.trans (hb5.mono X2.out.size)).trans ((bel1 _ _).mono (Nat.le_trans X2.out.size hb5.size))
      clear HR own5 own5b hb5 X2 A3
      go_upto_region 20 with fail
      rw [← hX5]
      clear hX5
      have HT := hideIt (iAnswerText_any jj o4.num o4.ok o4.es o4.ls k7 a7 c7 (by omega) m7 b7 d7 (by omega) X5 A5.row A5.row2)
      have hS4' : atV jj ⟨o4.num, o4.ok, o4.es, o4.ls⟩ = _ := hS4
      rw [hS4'] at HT
      unfold ansV at HT
      clear hS4 hS4'
      have q0 := A5.c0
      have q1 := A5.c1
      have q2 := A5.c2
      have q3 := A5.c3
      go_wp2_with (go_at_call 18; refine HT.out.mono ?_; rintro x x6 ⟨rfl, hb6⟩; refine Hid.out ?_)
      refine (show ∀ {p : Prop}, p → Hid p from fun h => h) ?_
      have X6 := hideIt (X4.out.trans (hb6.mono X4.out.size))
      clear q0 q1 q2 q3 HT A5 X4 hb6
      cases may with
      | false =>
        clear HSu
        cases can with
        | false =>
          clear hSv
          go_wp2
          go_ret
          exact ⟨rfl, X6.out⟩
        | true =>
          obtain rfl := hSv rfl
          go_wp2
          go_ret
          exact ⟨rfl, X6.out⟩
      | true =>
        obtain rfl := HSu.out rfl
        clear HSu
        cases can with
        | false =>
          clear hSv
          go_wp2
          go_ret
          exact ⟨rfl, X6.out⟩
        | true =>
          obtain rfl := hSv rfl
          go_wp2
          go_ret
          exact ⟨rfl, X6.out⟩
    | true =>
      have HT := hideIt (iAnswerText_any m anum aok es3 ls3 k3 a3 c3 (by omega) m3 b3 d3 (by omega) Y3 A3.row A3.row2)
      rw [atV_yes hC] at HT
      unfold ansV at HT
      have q0 := A3.c0
      have q1 := A3.c1
      have q2 := A3.c2
      have q3 := A3.c3
      go_wp2_with (go_at_call 18; refine HT.out.mono ?_; rintro x y4 ⟨rfl, hb4⟩; refine Hid.out ?_)
      refine (show ∀ {p : Prop}, p → Hid p from fun h => h) ?_
      have A4 := A3.up hb4
      have HY4 := hideIt (HY3.out.trans (hb4.mono HY3.out.size))
      have HR := hideIt (readA_yes y4 hC)
      clear q0 q1 q2 q3 hb4 HT A3 HY3
      unfold ansV at HR
      obtain ⟨T4, hT4⟩ : ∃ T4, T4 = str (aText ⟨anum, aok, es3, ls3⟩) := ⟨_, rfl⟩
      rw [← hT4] at HR ⊢
      clear hT4
      go_wp2_with (go_at_call 19; refine HR.out.mono ?_; rintro x y5 ⟨a4, k4, c4, b4, m4, d4, rfl, own5, own5b, hk5, hm5, hb5⟩; refine Hid.out ?_)
      refine (show ∀ {p : Prop}, p → Hid p from fun h => h) ?_
      obtain ⟨Y5, hY5⟩ : ∃ Y5, Y5 = y5.alloc (.cells #[.int .i64 anum, .bool aok, .slice a4 k4 c4, .slice b4 m4 d4] 37) := ⟨_, rfl⟩
      have A5 := (A4.up hb5).up (bel1 _ (.cells #[.int .i64 anum, .bool aok, .slice a4 k4 c4, .slice b4 m4 d4] 37))
      rw [← hY5] at A5
      have P5 := BA.laid (num := anum) (ok := aok) (d := d4) own5 (Is_of_own own5b)
      rw [← hY5] at P5
      have HY5 : Hid (Below w.heap.size w Y5) := by
        show Below _ _ _
        rw [hY5]
        exact (HY4.out.trans (hb5.mono HY4.out.size)).trans ((bel1 _ _).mono (Nat.le_trans HY4.out.size hb5.size))
      clear HR own5 own5b hb5 A4 HY4
      go_upto_region 11 with fail
      rw [← hY5]
      clear hY5
      have HS := hideIt (sAnswerOk_any m anum aok es3 ls3 k3 a3 c3 (by omega) m3 b3 d3 (by omega) Y5 A5.row A5.row2)
      rw [hC] at HS
      unfold ansV at HS
      have q0 := A5.c0
      have q1 := A5.c1
      have q2 := A5.c2
      have q3 := A5.c3
      go_wp2_with (go_at_call 20; refine HS.out.mono ?_; rintro x y6 ⟨rfl, hb6⟩; refine Hid.out ?_)
      refine (show ∀ {p : Prop}, p → Hid p from fun h => h) ?_
      have A6 := A5.up hb6
      have HY6 := hideIt (HY5.out.trans (hb6.mono HY5.out.size))
      have P6 := P5.up hb6
      have HI := hideIt (iAnswerOk_any m anum aok es3 ls3 k3 a3 c3 (by omega) m3 b3 d3 (by omega) y6 A6.row A6.row2)
      rw [hC] at HI
      unfold ansV at HI
      clear q0 q1 q2 q3 HS A5 HY5 hb6 P5
      have q0 := A6.c0
      have q1 := A6.c1
      have q2 := A6.c2
      have q3 := A6.c3
      go_wp2_with (go_at_call 21; refine HI.out.mono ?_; rintro x y7 ⟨rfl, hb7⟩; refine Hid.out ?_)
      refine (show ∀ {p : Prop}, p → Hid p from fun h => h) ?_
      have HY7 := hideIt (HY6.out.trans (hb7.mono HY6.out.size))
      have A7 := A6.up hb7
      have P7 := P6.up hb7
      have hk43 : k4 = k3 := by have := A7.row.1; have := P7.row.1; omega
      have hm43 : m4 = m3 := by have := A7.row2.1; have := P7.row2.1; omega
      subst hk43 hm43
      have HE := hideIt (sameAnswer_same anum aok es3 ls3 k4 a3 a4 c3 c4 (by omega) m4 b3 b4 d3 d4 (by omega) y7 A7.row P7.row A7.row2 P7.row2)
      unfold ansV at HE
      clear q0 q1 q2 q3 HI HY6 hb7 A6 P6
      have q0 := A7.c0
      have q1 := A7.c1
      have q2 := A7.c2
      have q3 := A7.c3
      have p0 := P7.c0
      have p1 := P7.c1
      have p2 := P7.c2
      have p3 := P7.c3
      go_wp2_with (go_at_call 22; refine HE.out.mono ?_; rintro x y8 ⟨rfl, hb8⟩; refine Hid.out ?_)
      refine (show ∀ {p : Prop}, p → Hid p from fun h => h) ?_
      have HY8 := hideIt (HY7.out.trans (hb8.mono HY7.out.size))
      clear q0 q1 q2 q3 p0 p1 p2 p3 HE HY7 hb8 A7 P7
      clear hC
      have HZ := hideIt (drawReadOrder_any y8 a len cap hl (code_up HC.out HY8.out))
      go_wp2_with (go_at_call 23; refine HZ.out.mono ?_; rintro x z1 ⟨kk, u, hu, rfl, hb1⟩; refine Hid.out ?_)
      refine (show ∀ {p : Prop}, p → Hid p from fun h => h) ?_
      have Z1 := hideIt (HY8.out.trans (hb1.mono HY8.out.size))
      have HR := hideIt (iReadOrder_any kk u (by omega) z1)
      clear HZ hb1 HY8
      go_wp2_with (go_at_call 13; refine HR.out.mono ?_; rintro x z2 ⟨r2, hr2, a5, k5, c5, rfl, own5, hk5, hb5⟩; refine Hid.out ?_)
      refine (show ∀ {p : Prop}, p → Hid p from fun h => h) ?_
      obtain ⟨S2, t2, hS2, hSu⟩ := otV_read hr2
      obtain ⟨o2, ho2⟩ : ∃ o2, o2 = orO r2 := ⟨_, rfl⟩
      rw [← ho2] at hS2 own5 ⊢
      clear ho2
      obtain ⟨Z3, hZ3⟩ : ∃ Z3, Z3 = z2.alloc (.cells #[.int .i64 o2.num, .int .i64 o2.op, .slice a5 k5 c5, .int .i64 o2.v] 26) := ⟨_, rfl⟩
      have O3 := BO.laid (num := o2.num) (op := o2.op) (z := o2.v) own5
      rw [← hZ3] at O3
      have Z2 : Hid (Below w.heap.size w Z3) := by
        show Below _ _ _
        rw [hZ3]
        exact (Z1.out.trans (hb5.mono Z1.out.size)).trans ((bel1 _ _).mono (Nat.le_trans Z1.out.size hb5.size))
      clear HR own5 hb5 Z1
      go_upto_region 15 with fail
      rw [← hZ3]
      clear hZ3
      have HR := hideIt (sReadOrder_any kk u (by omega) Z3)
      go_wp2_with (go_at_call 24; refine HR.out.mono ?_; rintro x z4 ⟨r3, hr3, a6, k6, c6, rfl, own5, hk6, hb5⟩; refine Hid.out ?_)
      refine (show ∀ {p : Prop}, p → Hid p from fun h => h) ?_
      obtain rfl : r2 = r3 := hr2.uniq hr3
      obtain ⟨o3, ho3⟩ : ∃ o3, o3 = orO r2 := ⟨_, rfl⟩
      rw [← ho3] at own5 ⊢
      clear ho3
      obtain ⟨may, hmay⟩ : ∃ may, may = r2.isSome := ⟨_, rfl⟩
      rw [← hmay] at hSu ⊢
      clear hmay hr2 hr3
      obtain ⟨Z5, hZ5⟩ : ∃ Z5, Z5 = z4.alloc (.cells #[.int .i64 o3.num, .int .i64 o3.op, .slice a6 k6 c6, .int .i64 o3.v] 26) := ⟨_, rfl⟩
      have O5 := (O3.up hb5).up (bel1 _ (.cells #[.int .i64 o3.num, .int .i64 o3.op, .slice a6 k6 c6, .int .i64 o3.v] 26))
      rw [← hZ5] at O5
      have Z4 : Hid (Below w.heap.size w Z5) := by
        show Below _ _ _
        rw [hZ5]
        exact (Z2.out.trans (hb5.mono Z2.out.size)).trans ((bel1 _ _).mono (Nat.le_trans Z2.out.size hb5.size))
      clear HR own5 hb5 Z2 O3
      go_upto_region 16 with fail
      rw [← hZ5]
      clear hZ5
      have HT := hideIt (iOrderText_any kk o2.num o2.op o2.es o2.v k5 a5 c5 (by omega) Z5 O5.row)
      have hS2' : otV kk ⟨o2.num, o2.op, o2.es, o2.v⟩ = _ := hS2
      rw [hS2'] at HT
      unfold ordV at HT
      clear hS2 hS2'
      have q0 := O5.c0
      have q1 := O5.c1
      have q2 := O5.c2
      have q3 := O5.c3
      go_wp2_with (go_at_call 12; refine HT.out.mono ?_; rintro x z6 ⟨rfl, hb6⟩; refine Hid.out ?_)
      refine (show ∀ {p : Prop}, p → Hid p from fun h => h) ?_
      have Z6 := hideIt (Z4.out.trans (hb6.mono Z4.out.size))
      clear q0 q1 q2 q3 HT O5 Z4 hb6
      have HSu := hideIt hSu
      clear hSu
      have HZ := hideIt (drawReadAnswer_any z6 a len cap hl (code_up HC.out Z6.out))
      go_wp2_with (go_at_call 25; refine HZ.out.mono ?_; rintro x x1 ⟨jj, vv, hvv, rfl, hb1⟩; refine Hid.out ?_)
      refine (show ∀ {p : Prop}, p → Hid p from fun h => h) ?_
      have X1 := hideIt (Z6.out.trans (hb1.mono Z6.out.size))
      have HR := hideIt (iReadAnswer_any jj vv (by omega) x1)
      clear HZ hb1 Z6
      go_wp2_with (go_at_call 19; refine HR.out.mono ?_; rintro x x2 ⟨r4, hr4, a7, k7, c7, b7, m7, d7, rfl, own5, own5b, hk7, hm7, hb5⟩; refine Hid.out ?_)
      refine (show ∀ {p : Prop}, p → Hid p from fun h => h) ?_
      obtain ⟨S4, t4, hS4, hSv⟩ := atV_read hr4
      obtain ⟨o4, ho4⟩ : ∃ o4, o4 = orA r4 := ⟨_, rfl⟩
      rw [← ho4] at hS4 own5 own5b ⊢
      clear ho4
      obtain ⟨X3, hX3⟩ : ∃ X3, X3 = x2.alloc (.cells #[.int .i64 o4.num, .bool o4.ok, .slice a7 k7 c7, .slice b7 m7 d7] 37) := ⟨_, rfl⟩
      have A3 := BA.laid (num := o4.num) (ok := o4.ok) (d := d7) own5 (Is_of_own own5b)
      rw [← hX3] at A3
      have X2 : Hid (Below w.heap.size w X3) := by
        show Below _ _ _
        rw [hX3]
        exact (X1.out.trans (hb5.mono X1.out.size)).trans ((bel1 _ _).mono (Nat.le_trans X1.out.size hb5.size))
      clear HR own5 own5b hb5 X1
      go_upto_region 19 with fail
      rw [← hX3]
      clear hX3
      have HR := hideIt (sReadAnswer_any jj vv (by omega) X3)
      go_wp2_with (go_at_call 26; refine HR.out.mono ?_; rintro x x4 ⟨r5, hr5, a8, k8, c8, b8, m8, d8, rfl, own5, own5b, hk8, hm8, hb5⟩; refine Hid.out ?_)
      refine (show ∀ {p : Prop}, p → Hid p from fun h => h) ?_
      obtain rfl : r4 = r5 := hr4.uniq hr5
      obtain ⟨o5, ho5⟩ : ∃ o5, o5 = orA r4 := ⟨_, rfl⟩
      rw [← ho5] at own5 own5b ⊢
      clear ho5
      obtain ⟨can, hcan⟩ : ∃ can, can = r4.isSome := ⟨_, rfl⟩
      rw [← hcan] at hSv ⊢
      clear hcan hr4 hr5
      obtain ⟨X5, hX5⟩ : ∃ X5, X5 = x4.alloc (.cells #[.int .i64 o5.num, .bool o5.ok, .slice a8 k8 c8, .slice b8 m8 d8] 37) := ⟨_, rfl⟩
      have A5 := (A3.up hb5).up (bel1 _ (.cells #[.int .i64 o5.num, .bool o5.ok, .slice a8 k8 c8, .slice b8 m8 d8] 37))
      rw [← hX5] at A5
      have X4 : Hid (Below w.heap.size w X5) := by
        show Below _ _ _
        rw [hX5]
        exact (X2.out.trans (hb5.mono X2.out.size)).trans ((bel1 _ _).mono (Nat.le_trans X2.out.size hb5.size))
      clear HR own5 own5b hb5 X2 A3
      go_upto_region 20 with fail
      rw [← hX5]
      clear hX5
      have HT := hideIt (iAnswerText_any jj o4.num o4.ok o4.es o4.ls k7 a7 c7 (by omega) m7 b7 d7 (by omega) X5 A5.row A5.row2)
      have hS4' : atV jj ⟨o4.num, o4.ok, o4.es, o4.ls⟩ = _ := hS4
      rw [hS4'] at HT
      unfold ansV at HT
      clear hS4 hS4'
      have q0 := A5.c0
      have q1 := A5.c1
      have q2 := A5.c2
      have q3 := A5.c3
      go_wp2_with (go_at_call 18; refine HT.out.mono ?_; rintro x x6 ⟨rfl, hb6⟩; refine Hid.out ?_)
      refine (show ∀ {p : Prop}, p → Hid p from fun h => h) ?_
      have X6 := hideIt (X4.out.trans (hb6.mono X4.out.size))
      clear q0 q1 q2 q3 HT A5 X4 hb6
      cases may with
      | false =>
        clear HSu
        cases can with
        | false =>
          clear hSv
          go_wp2
          go_ret
          exact ⟨rfl, X6.out⟩
        | true =>
          obtain rfl := hSv rfl
          go_wp2
          go_ret
          exact ⟨rfl, X6.out⟩
      | true =>
        obtain rfl := HSu.out rfl
        clear HSu
        cases can with
        | false =>
          clear hSv
          go_wp2
          go_ret
          exact ⟨rfl, X6.out⟩
        | true =>
          obtain rfl := hSv rfl
          go_wp2
          go_ret
          exact ⟨rfl, X6.out⟩
  | true =>
    have HT := hideIt (iOrderText_any n num op es1 v1 k1 a1 c1 (by omega) W3 O3.row)
    rw [otV_yes hB] at HT
    unfold ordV at HT
    have q0 := O3.c0
    have q1 := O3.c1
    have q2 := O3.c2
    have q3 := O3.c3
    go_wp2_with (go_at_call 12; refine HT.out.mono ?_; rintro x w4 ⟨rfl, hb4⟩; refine Hid.out ?_)
    refine (show ∀ {p : Prop}, p → Hid p from fun h => h) ?_
    have O4 := O3.up hb4
    have HB4 := hideIt (HB3.out.trans (hb4.mono HB3.out.size))
    have HR := hideIt (readO_yes w4 hB)
    clear q0 q1 q2 q3 hb4 HT O3 HB3
    unfold ordV at HR
    obtain ⟨T4, hT4⟩ : ∃ T4, T4 = str (oText ⟨num, op, es1, v1⟩) := ⟨_, rfl⟩
    rw [← hT4] at HR ⊢
    clear hT4
    go_wp2_with (go_at_call 13; refine HR.out.mono ?_; rintro x w5 ⟨a2, k2, c2, rfl, own5, hk5, hb5⟩; refine Hid.out ?_)
    refine (show ∀ {p : Prop}, p → Hid p from fun h => h) ?_
    obtain ⟨W5, hW5⟩ : ∃ W5, W5 = w5.alloc (.cells #[.int .i64 num, .int .i64 op, .slice a2 k2 c2, .int .i64 v1] 26) := ⟨_, rfl⟩
    have O5 := (O4.up hb5).up (bel1 _ (.cells #[.int .i64 num, .int .i64 op, .slice a2 k2 c2, .int .i64 v1] 26))
    rw [← hW5] at O5
    have P5 := BO.laid (num := num) (op := op) (z := v1) own5
    rw [← hW5] at P5
    have HB5 : Hid (Below w.heap.size w W5) := by
      show Below _ _ _
      rw [hW5]
      exact (HB4.out.trans (hb5.mono HB4.out.size)).trans ((bel1 _ _).mono (Nat.le_trans HB4.out.size hb5.size))
    clear HR own5 hb5 O4 HB4
    go_upto_region 6 with fail
    rw [← hW5]
    clear hW5
    have HS := hideIt (sOrderOk_any n num op es1 v1 k1 a1 c1 (by omega) W5 O5.row)
    rw [hB] at HS
    unfold ordV at HS
    have q0 := O5.c0
    have q1 := O5.c1
    have q2 := O5.c2
    have q3 := O5.c3
    go_wp2_with (go_at_call 14; refine HS.out.mono ?_; rintro x w6 ⟨rfl, hb6⟩; refine Hid.out ?_)
    refine (show ∀ {p : Prop}, p → Hid p from fun h => h) ?_
    have O6 := O5.up hb6
    have HB6 := hideIt (HB5.out.trans (hb6.mono HB5.out.size))
    have P6 := P5.up hb6
    have HI := hideIt (iOrderOk_any n num op es1 v1 k1 a1 c1 (by omega) w6 O6.row)
    rw [hB] at HI
    unfold ordV at HI
    clear q0 q1 q2 q3 HS O5 HB5 hb6 P5
    have q0 := O6.c0
    have q1 := O6.c1
    have q2 := O6.c2
    have q3 := O6.c3
    go_wp2_with (go_at_call 15; refine HI.out.mono ?_; rintro x w7 ⟨rfl, hb7⟩; refine Hid.out ?_)
    refine (show ∀ {p : Prop}, p → Hid p from fun h => h) ?_
    have HB7 := hideIt (HB6.out.trans (hb7.mono HB6.out.size))
    have O7 := O6.up hb7
    have P7 := P6.up hb7
    have hk21 : k2 = k1 := by have := O7.len; have := P7.len; omega
    subst hk21
    have HE := hideIt (sameEdges_same es1 k2 a2 a1 c2 c1 (by omega) w7 P7.row O7.row)
    have dn : (num != num) = false := by simp
    have dp : (op != op) = false := by simp
    have dv : (v1 != v1) = false := by simp
    clear q0 q1 q2 q3 HI HB6 hb7 O6 P6
    have q0 := O7.c0
    have q1 := O7.c1
    have q2 := O7.c2
    have q3 := O7.c3
    have p0 := P7.c0
    have p1 := P7.c1
    have p2 := P7.c2
    have p3 := P7.c3
    go_wp2_with (go_at_call 16; refine HE.out.mono ?_; rintro x w8 ⟨rfl, hb8⟩; refine Hid.out ?_)
    refine (show ∀ {p : Prop}, p → Hid p from fun h => h) ?_
    have HB8 := hideIt (HB7.out.trans (hb8.mono HB7.out.size))
    clear q0 q1 q2 q3 p0 p1 p2 p3 HE HB7 hb8 O7 P7 dn dp dv
    clear hB
    have HA := hideIt (drawAnswerText_any w8 a len cap hl (code_up HC.out HB8.out))
    go_wp2_with (go_at_call 17; refine HA.out.mono ?_; rintro x y2 ⟨m, anum, aok, a3, k3, c3, b3, m3, d3, es3, ls3, rfl, own9, lab9, hk9, hm9, hb9⟩; refine Hid.out ?_)
    refine (show ∀ {p : Prop}, p → Hid p from fun h => h) ?_
    obtain ⟨Y3, hY3⟩ : ∃ Y3, Y3 = y2.alloc (.cells #[.int .i64 anum, .bool aok, .slice a3 k3 c3, .slice b3 m3 d3] 37) := ⟨_, rfl⟩
    have A3 := BA.laid (num := anum) (ok := aok) (d := d3) own9 lab9.is
    rw [← hY3] at A3
    have HY3 : Hid (Below w.heap.size w Y3) := by
      show Below _ _ _
      rw [hY3]
      exact (HB8.out.trans (hb9.mono HB8.out.size)).trans ((bel1 _ _).mono (Nat.le_trans HB8.out.size hb9.size))
    clear HA own9 lab9 hb9 HB8
    go_upto_region 9 with fail
    rw [← hY3]
    clear hY3
    cases hC : aB m ⟨anum, aok, es3, ls3⟩ with
    | false =>
      have HT := hideIt (iAnswerText_any m anum aok es3 ls3 k3 a3 c3 (by omega) m3 b3 d3 (by omega) Y3 A3.row A3.row2)
      rw [atV_no hC] at HT
      unfold ansV at HT
      have q0 := A3.c0
      have q1 := A3.c1
      have q2 := A3.c2
      have q3 := A3.c3
      go_wp2_with (go_at_call 18; refine HT.out.mono ?_; rintro x y4 ⟨rfl, hb4⟩; refine Hid.out ?_)
      refine (show ∀ {p : Prop}, p → Hid p from fun h => h) ?_
      have A4 := A3.up hb4
      have HY4 := hideIt (HY3.out.trans (hb4.mono HY3.out.size))
      have HR := hideIt (readA_no m y4)
      clear q0 q1 q2 q3 hb4 HT A3 HY3
      go_wp2_with (go_at_call 19; refine HR.out.mono ?_; rintro x y5 ⟨num2, ok2, es2, ls2, t2, a4, k4, c4, b4, m4, d4, rfl, own5, own5b, hk5, hm5, hb5⟩; refine Hid.out ?_)
      refine (show ∀ {p : Prop}, p → Hid p from fun h => h) ?_
      obtain ⟨Y5, hY5⟩ : ∃ Y5, Y5 = y5.alloc (.cells #[.int .i64 num2, .bool ok2, .slice a4 k4 c4, .slice b4 m4 d4] 37) := ⟨_, rfl⟩
      have A5 := (A4.up hb5).up (bel1 _ (.cells #[.int .i64 num2, .bool ok2, .slice a4 k4 c4, .slice b4 m4 d4] 37))
      rw [← hY5] at A5
      have HY5 : Hid (Below w.heap.size w Y5) := by
        show Below _ _ _
        rw [hY5]
        exact (HY4.out.trans (hb5.mono HY4.out.size)).trans ((bel1 _ _).mono (Nat.le_trans HY4.out.size hb5.size))
      clear HR own5 own5b hb5 A4 HY4
      go_upto_region 11 with fail
      rw [← hY5]
      clear hY5
      have HS := hideIt (sAnswerOk_any m anum aok es3 ls3 k3 a3 c3 (by omega) m3 b3 d3 (by omega) Y5 A5.row A5.row2)
      rw [hC] at HS
      unfold ansV at HS
      have q0 := A5.c0
      have q1 := A5.c1
      have q2 := A5.c2
      have q3 := A5.c3
      go_wp2_with (go_at_call 20; refine HS.out.mono ?_; rintro x y6 ⟨rfl, hb6⟩; refine Hid.out ?_)
      refine (show ∀ {p : Prop}, p → Hid p from fun h => h) ?_
      have A6 := A5.up hb6
      have HY6 := hideIt (HY5.out.trans (hb6.mono HY5.out.size))
      have HI := hideIt (iAnswerOk_any m anum aok es3 ls3 k3 a3 c3 (by omega) m3 b3 d3 (by omega) y6 A6.row A6.row2)
      rw [hC] at HI
      unfold ansV at HI
      clear q0 q1 q2 q3 HS A5 HY5 hb6
      have q0 := A6.c0
      have q1 := A6.c1
      have q2 := A6.c2
      have q3 := A6.c3
      go_wp2_with (go_at_call 21; refine HI.out.mono ?_; rintro x y7 ⟨rfl, hb7⟩; refine Hid.out ?_)
      refine (show ∀ {p : Prop}, p → Hid p from fun h => h) ?_
      have HY7 := hideIt (HY6.out.trans (hb7.mono HY6.out.size))
      clear q0 q1 q2 q3 HI HY6 hb7 A6
      clear hC
      have HZ := hideIt (drawReadOrder_any y7 a len cap hl (code_up HC.out HY7.out))
      go_wp2_with (go_at_call 23; refine HZ.out.mono ?_; rintro x z1 ⟨kk, u, hu, rfl, hb1⟩; refine Hid.out ?_)
      refine (show ∀ {p : Prop}, p → Hid p from fun h => h) ?_
      have Z1 := hideIt (HY7.out.trans (hb1.mono HY7.out.size))
      have HR := hideIt (iReadOrder_any kk u (by omega) z1)
      clear HZ hb1 HY7
      go_wp2_with (go_at_call 13; refine HR.out.mono ?_; rintro x z2 ⟨r2, hr2, a5, k5, c5, rfl, own5, hk5, hb5⟩; refine Hid.out ?_)
      refine (show ∀ {p : Prop}, p → Hid p from fun h => h) ?_
      obtain ⟨S2, t2, hS2, hSu⟩ := otV_read hr2
      obtain ⟨o2, ho2⟩ : ∃ o2, o2 = orO r2 := ⟨_, rfl⟩
      rw [← ho2] at hS2 own5 ⊢
      clear ho2
      obtain ⟨Z3, hZ3⟩ : ∃ Z3, Z3 = z2.alloc (.cells #[.int .i64 o2.num, .int .i64 o2.op, .slice a5 k5 c5, .int .i64 o2.v] 26) := ⟨_, rfl⟩
      have O3 := BO.laid (num := o2.num) (op := o2.op) (z := o2.v) own5
      rw [← hZ3] at O3
      have Z2 : Hid (Below w.heap.size w Z3) := by
        show Below _ _ _
        rw [hZ3]
        exact (Z1.out.trans (hb5.mono Z1.out.size)).trans ((bel1 _ _).mono (Nat.le_trans Z1.out.size hb5.size))
      clear HR own5 hb5 Z1
      go_upto_region 15 with fail
      rw [← hZ3]
      clear hZ3
      have HR := hideIt (sReadOrder_any kk u (by omega) Z3)
      go_wp2_with (go_at_call 24; refine HR.out.mono ?_; rintro x z4 ⟨r3, hr3, a6, k6, c6, rfl, own5, hk6, hb5⟩; refine Hid.out ?_)
      refine (show ∀ {p : Prop}, p → Hid p from fun h => h) ?_
      obtain rfl : r2 = r3 := hr2.uniq hr3
      obtain ⟨o3, ho3⟩ : ∃ o3, o3 = orO r2 := ⟨_, rfl⟩
      rw [← ho3] at own5 ⊢
      clear ho3
      obtain ⟨may, hmay⟩ : ∃ may, may = r2.isSome := ⟨_, rfl⟩
      rw [← hmay] at hSu ⊢
      clear hmay hr2 hr3
      obtain ⟨Z5, hZ5⟩ : ∃ Z5, Z5 = z4.alloc (.cells #[.int .i64 o3.num, .int .i64 o3.op, .slice a6 k6 c6, .int .i64 o3.v] 26) := ⟨_, rfl⟩
      have O5 := (O3.up hb5).up (bel1 _ (.cells #[.int .i64 o3.num, .int .i64 o3.op, .slice a6 k6 c6, .int .i64 o3.v] 26))
      rw [← hZ5] at O5
      have Z4 : Hid (Below w.heap.size w Z5) := by
        show Below _ _ _
        rw [hZ5]
        exact (Z2.out.trans (hb5.mono Z2.out.size)).trans ((bel1 _ _).mono (Nat.le_trans Z2.out.size hb5.size))
      clear HR own5 hb5 Z2 O3
      go_upto_region 16 with fail
      rw [← hZ5]
      clear hZ5
      have HT := hideIt (iOrderText_any kk o2.num o2.op o2.es o2.v k5 a5 c5 (by omega) Z5 O5.row)
      have hS2' : otV kk ⟨o2.num, o2.op, o2.es, o2.v⟩ = _ := hS2
      rw [hS2'] at HT
      unfold ordV at HT
      clear hS2 hS2'
      have q0 := O5.c0
      have q1 := O5.c1
      have q2 := O5.c2
      have q3 := O5.c3
      go_wp2_with (go_at_call 12; refine HT.out.mono ?_; rintro x z6 ⟨rfl, hb6⟩; refine Hid.out ?_)
      refine (show ∀ {p : Prop}, p → Hid p from fun h => h) ?_
      have Z6 := hideIt (Z4.out.trans (hb6.mono Z4.out.size))
      clear q0 q1 q2 q3 HT O5 Z4 hb6
      have HSu := hideIt hSu
      clear hSu
      have HZ := hideIt (drawReadAnswer_any z6 a len cap hl (code_up HC.out Z6.out))
      go_wp2_with (go_at_call 25; refine HZ.out.mono ?_; rintro x x1 ⟨jj, vv, hvv, rfl, hb1⟩; refine Hid.out ?_)
      refine (show ∀ {p : Prop}, p → Hid p from fun h => h) ?_
      have X1 := hideIt (Z6.out.trans (hb1.mono Z6.out.size))
      have HR := hideIt (iReadAnswer_any jj vv (by omega) x1)
      clear HZ hb1 Z6
      go_wp2_with (go_at_call 19; refine HR.out.mono ?_; rintro x x2 ⟨r4, hr4, a7, k7, c7, b7, m7, d7, rfl, own5, own5b, hk7, hm7, hb5⟩; refine Hid.out ?_)
      refine (show ∀ {p : Prop}, p → Hid p from fun h => h) ?_
      obtain ⟨S4, t4, hS4, hSv⟩ := atV_read hr4
      obtain ⟨o4, ho4⟩ : ∃ o4, o4 = orA r4 := ⟨_, rfl⟩
      rw [← ho4] at hS4 own5 own5b ⊢
      clear ho4
      obtain ⟨X3, hX3⟩ : ∃ X3, X3 = x2.alloc (.cells #[.int .i64 o4.num, .bool o4.ok, .slice a7 k7 c7, .slice b7 m7 d7] 37) := ⟨_, rfl⟩
      have A3 := BA.laid (num := o4.num) (ok := o4.ok) (d := d7) own5 (Is_of_own own5b)
      rw [← hX3] at A3
      have X2 : Hid (Below w.heap.size w X3) := by
        show Below _ _ _
        rw [hX3]
        exact (X1.out.trans (hb5.mono X1.out.size)).trans ((bel1 _ _).mono (Nat.le_trans X1.out.size hb5.size))
      clear HR own5 own5b hb5 X1
      go_upto_region 19 with fail
      rw [← hX3]
      clear hX3
      have HR := hideIt (sReadAnswer_any jj vv (by omega) X3)
      go_wp2_with (go_at_call 26; refine HR.out.mono ?_; rintro x x4 ⟨r5, hr5, a8, k8, c8, b8, m8, d8, rfl, own5, own5b, hk8, hm8, hb5⟩; refine Hid.out ?_)
      refine (show ∀ {p : Prop}, p → Hid p from fun h => h) ?_
      obtain rfl : r4 = r5 := hr4.uniq hr5
      obtain ⟨o5, ho5⟩ : ∃ o5, o5 = orA r4 := ⟨_, rfl⟩
      rw [← ho5] at own5 own5b ⊢
      clear ho5
      obtain ⟨can, hcan⟩ : ∃ can, can = r4.isSome := ⟨_, rfl⟩
      rw [← hcan] at hSv ⊢
      clear hcan hr4 hr5
      obtain ⟨X5, hX5⟩ : ∃ X5, X5 = x4.alloc (.cells #[.int .i64 o5.num, .bool o5.ok, .slice a8 k8 c8, .slice b8 m8 d8] 37) := ⟨_, rfl⟩
      have A5 := (A3.up hb5).up (bel1 _ (.cells #[.int .i64 o5.num, .bool o5.ok, .slice a8 k8 c8, .slice b8 m8 d8] 37))
      rw [← hX5] at A5
      have X4 : Hid (Below w.heap.size w X5) := by
        show Below _ _ _
        rw [hX5]
        exact (X2.out.trans (hb5.mono X2.out.size)).trans ((bel1 _ _).mono (Nat.le_trans X2.out.size hb5.size))
      clear HR own5 own5b hb5 X2 A3
      go_upto_region 20 with fail
      rw [← hX5]
      clear hX5
      have HT := hideIt (iAnswerText_any jj o4.num o4.ok o4.es o4.ls k7 a7 c7 (by omega) m7 b7 d7 (by omega) X5 A5.row A5.row2)
      have hS4' : atV jj ⟨o4.num, o4.ok, o4.es, o4.ls⟩ = _ := hS4
      rw [hS4'] at HT
      unfold ansV at HT
      clear hS4 hS4'
      have q0 := A5.c0
      have q1 := A5.c1
      have q2 := A5.c2
      have q3 := A5.c3
      go_wp2_with (go_at_call 18; refine HT.out.mono ?_; rintro x x6 ⟨rfl, hb6⟩; refine Hid.out ?_)
      refine (show ∀ {p : Prop}, p → Hid p from fun h => h) ?_
      have X6 := hideIt (X4.out.trans (hb6.mono X4.out.size))
      clear q0 q1 q2 q3 HT A5 X4 hb6
      cases may with
      | false =>
        clear HSu
        cases can with
        | false =>
          clear hSv
          go_wp2
          go_ret
          exact ⟨rfl, X6.out⟩
        | true =>
          obtain rfl := hSv rfl
          go_wp2
          go_ret
          exact ⟨rfl, X6.out⟩
      | true =>
        obtain rfl := HSu.out rfl
        clear HSu
        cases can with
        | false =>
          clear hSv
          go_wp2
          go_ret
          exact ⟨rfl, X6.out⟩
        | true =>
          obtain rfl := hSv rfl
          go_wp2
          go_ret
          exact ⟨rfl, X6.out⟩
    | true =>
      have HT := hideIt (iAnswerText_any m anum aok es3 ls3 k3 a3 c3 (by omega) m3 b3 d3 (by omega) Y3 A3.row A3.row2)
      rw [atV_yes hC] at HT
      unfold ansV at HT
      have q0 := A3.c0
      have q1 := A3.c1
      have q2 := A3.c2
      have q3 := A3.c3
      go_wp2_with (go_at_call 18; refine HT.out.mono ?_; rintro x y4 ⟨rfl, hb4⟩; refine Hid.out ?_)
      refine (show ∀ {p : Prop}, p → Hid p from fun h => h) ?_
      have A4 := A3.up hb4
      have HY4 := hideIt (HY3.out.trans (hb4.mono HY3.out.size))
      have HR := hideIt (readA_yes y4 hC)
      clear q0 q1 q2 q3 hb4 HT A3 HY3
      unfold ansV at HR
      obtain ⟨T4, hT4⟩ : ∃ T4, T4 = str (aText ⟨anum, aok, es3, ls3⟩) := ⟨_, rfl⟩
      rw [← hT4] at HR ⊢
      clear hT4
      go_wp2_with (go_at_call 19; refine HR.out.mono ?_; rintro x y5 ⟨a4, k4, c4, b4, m4, d4, rfl, own5, own5b, hk5, hm5, hb5⟩; refine Hid.out ?_)
      refine (show ∀ {p : Prop}, p → Hid p from fun h => h) ?_
      obtain ⟨Y5, hY5⟩ : ∃ Y5, Y5 = y5.alloc (.cells #[.int .i64 anum, .bool aok, .slice a4 k4 c4, .slice b4 m4 d4] 37) := ⟨_, rfl⟩
      have A5 := (A4.up hb5).up (bel1 _ (.cells #[.int .i64 anum, .bool aok, .slice a4 k4 c4, .slice b4 m4 d4] 37))
      rw [← hY5] at A5
      have P5 := BA.laid (num := anum) (ok := aok) (d := d4) own5 (Is_of_own own5b)
      rw [← hY5] at P5
      have HY5 : Hid (Below w.heap.size w Y5) := by
        show Below _ _ _
        rw [hY5]
        exact (HY4.out.trans (hb5.mono HY4.out.size)).trans ((bel1 _ _).mono (Nat.le_trans HY4.out.size hb5.size))
      clear HR own5 own5b hb5 A4 HY4
      go_upto_region 11 with fail
      rw [← hY5]
      clear hY5
      have HS := hideIt (sAnswerOk_any m anum aok es3 ls3 k3 a3 c3 (by omega) m3 b3 d3 (by omega) Y5 A5.row A5.row2)
      rw [hC] at HS
      unfold ansV at HS
      have q0 := A5.c0
      have q1 := A5.c1
      have q2 := A5.c2
      have q3 := A5.c3
      go_wp2_with (go_at_call 20; refine HS.out.mono ?_; rintro x y6 ⟨rfl, hb6⟩; refine Hid.out ?_)
      refine (show ∀ {p : Prop}, p → Hid p from fun h => h) ?_
      have A6 := A5.up hb6
      have HY6 := hideIt (HY5.out.trans (hb6.mono HY5.out.size))
      have P6 := P5.up hb6
      have HI := hideIt (iAnswerOk_any m anum aok es3 ls3 k3 a3 c3 (by omega) m3 b3 d3 (by omega) y6 A6.row A6.row2)
      rw [hC] at HI
      unfold ansV at HI
      clear q0 q1 q2 q3 HS A5 HY5 hb6 P5
      have q0 := A6.c0
      have q1 := A6.c1
      have q2 := A6.c2
      have q3 := A6.c3
      go_wp2_with (go_at_call 21; refine HI.out.mono ?_; rintro x y7 ⟨rfl, hb7⟩; refine Hid.out ?_)
      refine (show ∀ {p : Prop}, p → Hid p from fun h => h) ?_
      have HY7 := hideIt (HY6.out.trans (hb7.mono HY6.out.size))
      have A7 := A6.up hb7
      have P7 := P6.up hb7
      have hk43 : k4 = k3 := by have := A7.row.1; have := P7.row.1; omega
      have hm43 : m4 = m3 := by have := A7.row2.1; have := P7.row2.1; omega
      subst hk43 hm43
      have HE := hideIt (sameAnswer_same anum aok es3 ls3 k4 a3 a4 c3 c4 (by omega) m4 b3 b4 d3 d4 (by omega) y7 A7.row P7.row A7.row2 P7.row2)
      unfold ansV at HE
      clear q0 q1 q2 q3 HI HY6 hb7 A6 P6
      have q0 := A7.c0
      have q1 := A7.c1
      have q2 := A7.c2
      have q3 := A7.c3
      have p0 := P7.c0
      have p1 := P7.c1
      have p2 := P7.c2
      have p3 := P7.c3
      go_wp2_with (go_at_call 22; refine HE.out.mono ?_; rintro x y8 ⟨rfl, hb8⟩; refine Hid.out ?_)
      refine (show ∀ {p : Prop}, p → Hid p from fun h => h) ?_
      have HY8 := hideIt (HY7.out.trans (hb8.mono HY7.out.size))
      clear q0 q1 q2 q3 p0 p1 p2 p3 HE HY7 hb8 A7 P7
      clear hC
      have HZ := hideIt (drawReadOrder_any y8 a len cap hl (code_up HC.out HY8.out))
      go_wp2_with (go_at_call 23; refine HZ.out.mono ?_; rintro x z1 ⟨kk, u, hu, rfl, hb1⟩; refine Hid.out ?_)
      refine (show ∀ {p : Prop}, p → Hid p from fun h => h) ?_
      have Z1 := hideIt (HY8.out.trans (hb1.mono HY8.out.size))
      have HR := hideIt (iReadOrder_any kk u (by omega) z1)
      clear HZ hb1 HY8
      go_wp2_with (go_at_call 13; refine HR.out.mono ?_; rintro x z2 ⟨r2, hr2, a5, k5, c5, rfl, own5, hk5, hb5⟩; refine Hid.out ?_)
      refine (show ∀ {p : Prop}, p → Hid p from fun h => h) ?_
      obtain ⟨S2, t2, hS2, hSu⟩ := otV_read hr2
      obtain ⟨o2, ho2⟩ : ∃ o2, o2 = orO r2 := ⟨_, rfl⟩
      rw [← ho2] at hS2 own5 ⊢
      clear ho2
      obtain ⟨Z3, hZ3⟩ : ∃ Z3, Z3 = z2.alloc (.cells #[.int .i64 o2.num, .int .i64 o2.op, .slice a5 k5 c5, .int .i64 o2.v] 26) := ⟨_, rfl⟩
      have O3 := BO.laid (num := o2.num) (op := o2.op) (z := o2.v) own5
      rw [← hZ3] at O3
      have Z2 : Hid (Below w.heap.size w Z3) := by
        show Below _ _ _
        rw [hZ3]
        exact (Z1.out.trans (hb5.mono Z1.out.size)).trans ((bel1 _ _).mono (Nat.le_trans Z1.out.size hb5.size))
      clear HR own5 hb5 Z1
      go_upto_region 15 with fail
      rw [← hZ3]
      clear hZ3
      have HR := hideIt (sReadOrder_any kk u (by omega) Z3)
      go_wp2_with (go_at_call 24; refine HR.out.mono ?_; rintro x z4 ⟨r3, hr3, a6, k6, c6, rfl, own5, hk6, hb5⟩; refine Hid.out ?_)
      refine (show ∀ {p : Prop}, p → Hid p from fun h => h) ?_
      obtain rfl : r2 = r3 := hr2.uniq hr3
      obtain ⟨o3, ho3⟩ : ∃ o3, o3 = orO r2 := ⟨_, rfl⟩
      rw [← ho3] at own5 ⊢
      clear ho3
      obtain ⟨may, hmay⟩ : ∃ may, may = r2.isSome := ⟨_, rfl⟩
      rw [← hmay] at hSu ⊢
      clear hmay hr2 hr3
      obtain ⟨Z5, hZ5⟩ : ∃ Z5, Z5 = z4.alloc (.cells #[.int .i64 o3.num, .int .i64 o3.op, .slice a6 k6 c6, .int .i64 o3.v] 26) := ⟨_, rfl⟩
      have O5 := (O3.up hb5).up (bel1 _ (.cells #[.int .i64 o3.num, .int .i64 o3.op, .slice a6 k6 c6, .int .i64 o3.v] 26))
      rw [← hZ5] at O5
      have Z4 : Hid (Below w.heap.size w Z5) := by
        show Below _ _ _
        rw [hZ5]
        exact (Z2.out.trans (hb5.mono Z2.out.size)).trans ((bel1 _ _).mono (Nat.le_trans Z2.out.size hb5.size))
      clear HR own5 hb5 Z2 O3
      go_upto_region 16 with fail
      rw [← hZ5]
      clear hZ5
      have HT := hideIt (iOrderText_any kk o2.num o2.op o2.es o2.v k5 a5 c5 (by omega) Z5 O5.row)
      have hS2' : otV kk ⟨o2.num, o2.op, o2.es, o2.v⟩ = _ := hS2
      rw [hS2'] at HT
      unfold ordV at HT
      clear hS2 hS2'
      have q0 := O5.c0
      have q1 := O5.c1
      have q2 := O5.c2
      have q3 := O5.c3
      go_wp2_with (go_at_call 12; refine HT.out.mono ?_; rintro x z6 ⟨rfl, hb6⟩; refine Hid.out ?_)
      refine (show ∀ {p : Prop}, p → Hid p from fun h => h) ?_
      have Z6 := hideIt (Z4.out.trans (hb6.mono Z4.out.size))
      clear q0 q1 q2 q3 HT O5 Z4 hb6
      have HSu := hideIt hSu
      clear hSu
      have HZ := hideIt (drawReadAnswer_any z6 a len cap hl (code_up HC.out Z6.out))
      go_wp2_with (go_at_call 25; refine HZ.out.mono ?_; rintro x x1 ⟨jj, vv, hvv, rfl, hb1⟩; refine Hid.out ?_)
      refine (show ∀ {p : Prop}, p → Hid p from fun h => h) ?_
      have X1 := hideIt (Z6.out.trans (hb1.mono Z6.out.size))
      have HR := hideIt (iReadAnswer_any jj vv (by omega) x1)
      clear HZ hb1 Z6
      go_wp2_with (go_at_call 19; refine HR.out.mono ?_; rintro x x2 ⟨r4, hr4, a7, k7, c7, b7, m7, d7, rfl, own5, own5b, hk7, hm7, hb5⟩; refine Hid.out ?_)
      refine (show ∀ {p : Prop}, p → Hid p from fun h => h) ?_
      obtain ⟨S4, t4, hS4, hSv⟩ := atV_read hr4
      obtain ⟨o4, ho4⟩ : ∃ o4, o4 = orA r4 := ⟨_, rfl⟩
      rw [← ho4] at hS4 own5 own5b ⊢
      clear ho4
      obtain ⟨X3, hX3⟩ : ∃ X3, X3 = x2.alloc (.cells #[.int .i64 o4.num, .bool o4.ok, .slice a7 k7 c7, .slice b7 m7 d7] 37) := ⟨_, rfl⟩
      have A3 := BA.laid (num := o4.num) (ok := o4.ok) (d := d7) own5 (Is_of_own own5b)
      rw [← hX3] at A3
      have X2 : Hid (Below w.heap.size w X3) := by
        show Below _ _ _
        rw [hX3]
        exact (X1.out.trans (hb5.mono X1.out.size)).trans ((bel1 _ _).mono (Nat.le_trans X1.out.size hb5.size))
      clear HR own5 own5b hb5 X1
      go_upto_region 19 with fail
      rw [← hX3]
      clear hX3
      have HR := hideIt (sReadAnswer_any jj vv (by omega) X3)
      go_wp2_with (go_at_call 26; refine HR.out.mono ?_; rintro x x4 ⟨r5, hr5, a8, k8, c8, b8, m8, d8, rfl, own5, own5b, hk8, hm8, hb5⟩; refine Hid.out ?_)
      refine (show ∀ {p : Prop}, p → Hid p from fun h => h) ?_
      obtain rfl : r4 = r5 := hr4.uniq hr5
      obtain ⟨o5, ho5⟩ : ∃ o5, o5 = orA r4 := ⟨_, rfl⟩
      rw [← ho5] at own5 own5b ⊢
      clear ho5
      obtain ⟨can, hcan⟩ : ∃ can, can = r4.isSome := ⟨_, rfl⟩
      rw [← hcan] at hSv ⊢
      clear hcan hr4 hr5
      obtain ⟨X5, hX5⟩ : ∃ X5, X5 = x4.alloc (.cells #[.int .i64 o5.num, .bool o5.ok, .slice a8 k8 c8, .slice b8 m8 d8] 37) := ⟨_, rfl⟩
      have A5 := (A3.up hb5).up (bel1 _ (.cells #[.int .i64 o5.num, .bool o5.ok, .slice a8 k8 c8, .slice b8 m8 d8] 37))
      rw [← hX5] at A5
      have X4 : Hid (Below w.heap.size w X5) := by
        show Below _ _ _
        rw [hX5]
        exact (X2.out.trans (hb5.mono X2.out.size)).trans ((bel1 _ _).mono (Nat.le_trans X2.out.size hb5.size))
      clear HR own5 own5b hb5 X2 A3
      go_upto_region 20 with fail
      rw [← hX5]
      clear hX5
      have HT := hideIt (iAnswerText_any jj o4.num o4.ok o4.es o4.ls k7 a7 c7 (by omega) m7 b7 d7 (by omega) X5 A5.row A5.row2)
      have hS4' : atV jj ⟨o4.num, o4.ok, o4.es, o4.ls⟩ = _ := hS4
      rw [hS4'] at HT
      unfold ansV at HT
      clear hS4 hS4'
      have q0 := A5.c0
      have q1 := A5.c1
      have q2 := A5.c2
      have q3 := A5.c3
      go_wp2_with (go_at_call 18; refine HT.out.mono ?_; rintro x x6 ⟨rfl, hb6⟩; refine Hid.out ?_)
      refine (show ∀ {p : Prop}, p → Hid p from fun h => h) ?_
      have X6 := hideIt (X4.out.trans (hb6.mono X4.out.size))
      clear q0 q1 q2 q3 HT A5 X4 hb6
      cases may with
      | false =>
        clear HSu
        cases can with
        | false =>
          clear hSv
          go_wp2
          go_ret
          exact ⟨rfl, X6.out⟩
        | true =>
          obtain rfl := hSv rfl
          go_wp2
          go_ret
          exact ⟨rfl, X6.out⟩
      | true =>
        obtain rfl := HSu.out rfl
        clear HSu
        cases can with
        | false =>
          clear hSv
          go_wp2
          go_ret
          exact ⟨rfl, X6.out⟩
        | true =>
          obtain rfl := hSv rfl
          go_wp2
          go_ret
          exact ⟨rfl, X6.out⟩
end Go.Proofs.Ytkhhagjcmbbdpaa
namespace Go.Proofs.Ytkhhagjcmbbdpaa
open Go.ChangeShapes Go.WideShapes Go.ChangeAt Go.RowKit

/-- a slice of bytes that came in, as the walk wants it -/
theorem code_of {H : Type} {enc : TypeId × Value → H} {W : World} {a : Option Addr} {len cap fuel : Nat} {x : DataW H × List MemPlace}
    (hf : DataW.trod enc Try.prog W 0 (fun _ => true) true fuel 22 [.slice a len cap] = some x) : Code W W.heap.size a len := by
  rcases open_ints Try.underlying22 Try.underlying5 (by kernel_rfl) hf with ⟨hcs, _⟩ | ⟨x, l, c, zs, hcs, _, hl, hm, hz, _, hcell, hwz⟩
  · simp at hcs
    obtain ⟨rfl, rfl, rfl⟩ := hcs
    exact .inl rfl
  · simp at hcs
    obtain ⟨rfl, rfl, rfl⟩ := hcs
    by_cases h0 : len = 0
    · exact .inl h0
    · have hzl : zs.length = cap := by simpa using hz
      obtain ⟨b, off, rfl, hc⟩ := ints_at hcell (by omega)
      have hb : b < W.heap.size := World.block_lt_of_cell? W _ (hc 0 (by omega))
      refine .inr ⟨b, off, rfl, hb, by omega, fun j hj => ?_⟩
      have hw := hwz (zs.getD j 0) (by
        rw [List.getD_eq_getElem?_getD, List.getElem?_eq_getElem (by omega)]
        exact List.getElem_mem _)
      have hr : 0 ≤ zs.getD j 0 ∧ zs.getD j 0 ≤ 255 := by simpa [Lit.wf, IntKind.min, IntKind.max, IntKind.signed, IntKind.bits] using hw
      refine ⟨(zs.getD j 0).toNat, by omega, ?_⟩
      rw [hc j (by omega), Int.toNat_of_nonneg hr.1]

end Go.Proofs.Ytkhhagjcmbbdpaa
