/- The walk of FnExactReadOrder. -/
import Derived.Test.YtkhhagjcmbbdpaaKRow10
import Derived.Test.YtkhhagjcmbbdpaaKSRo10
namespace Go.Proofs.Ytkhhagjcmbbdpaa
open Go.RowKit Vt

set_option maxRecDepth 100000 in
set_option maxHeartbeats 4000000 in
theorem fnExactReadOrder.walk (n : Int) (_hn : (Lit.int .i64 n).wf = true) (s : ByteArray) (hs : s.size ≤ maxLen) (w : World) :
    Calls Try.prog 7 #[.int .i64 n, .string s] w fun e w' => e = .returned (.bool true) ∧ Below w.heap.size w w' := by
  unfold maxLen at hs
  by_cases g : s.size ≤ 1048576
  · have d0 : decide ((1048576 : Int) < (s.size : Int)) = false := by simp; omega
    obtain ⟨r, hr⟩ : ∃ r, Hid (IsO n s.data.toList r) := by
      by_cases hx : ∃ o, oB n o = true ∧ oText o = s.data.toList
      · obtain ⟨o, h1, h2⟩ := hx
        exact ⟨some o, ⟨h1, h2⟩⟩
      · exact ⟨none, fun o h1 h2 => hx ⟨o, h1, h2⟩⟩
    have HS : Hid (∀ W, Calls Try.prog 24 #[.int .i64 n, .string s] W fun e w' => ∃ (a : Option Addr) (k c : Nat), e = .returned (.tuple #[.agg (oc (orO r).num (orO r).op a k c (orO r).v), .bool r.isSome]) ∧ w'.ownsRow W.heap.size 78 2 (.slice a k c) k (ecells (orO r).es) ∧ k ≤ 100 ∧ Below W.heap.size W w') := fun W =>
      (sReadOrder_any n s g W).mono fun _ _ ⟨r', h1, h2⟩ => by rw [hr.out.uniq h1]; exact h2
    have HI : Hid (∀ W, Calls Try.prog 13 #[.int .i64 n, .string s] W fun e w' => ∃ (a : Option Addr) (k c : Nat), e = .returned (.tuple #[.agg (oc (orO r).num (orO r).op a k c (orO r).v), .bool r.isSome]) ∧ w'.ownsRow W.heap.size 78 2 (.slice a k c) k (ecells (orO r).es) ∧ k ≤ 100 ∧ Below W.heap.size W w') := fun W =>
      (iReadOrder_any n s g W).mono fun _ _ ⟨r', h1, h2⟩ => by rw [hr.out.uniq h1]; exact h2
    clear hr
    generalize r.isSome = rb at HS HI
    generalize (orO r).num = num at HS HI
    generalize (orO r).op = op at HS HI
    generalize (orO r).v = x at HS HI
    generalize (orO r).es = es at HS HI
    clear r
    have dr : (rb != rb) = false := by simp
    go_enter Try.func7, Try.ntmps7
    go_wp2_with (go_at_call 24; refine (HS.out _).mono ?_; rintro e w1 ⟨a1, k1, c1, rfl, o1, z1, b1⟩; refine Hid.out ?_)
    refine (show ∀ {p : Prop}, p → Hid p from fun h => h) ?_
    have X1 := OBox.laid (num := num) (op := op) (x := x) b1.size o1
    have G1 : Below w.heap.size w (w1.alloc (.cells (oc num op a1 k1 c1 x) 26)) := b1.alloc b1.size _
    have HX1 := hideIt X1
    have HG1 := hideIt G1
    clear o1 b1 X1 G1
    go_wp2_with (go_at_call 13; refine (HI.out _).mono ?_; rintro e w2 ⟨a2, k2, c2, rfl, o2, z2, b2⟩; refine Hid.out ?_)
    refine (show ∀ {p : Prop}, p → Hid p from fun h => h) ?_
    have X2 := OBox.laid (num := num) (op := op) (x := x) b2.size o2
    have B2 : Below (w1.alloc (.cells (oc num op a1 k1 c1 x) 26)).heap.size (w1.alloc (.cells (oc num op a1 k1 c1 x) 26)) (w2.alloc (.cells (oc num op a2 k2 c2 x) 26)) := b2.alloc b2.size _
    have Y1 := HX1.out.up B2
    have G2 := HG1.out.trans (B2.mono HG1.out.size)
    have HQ := hideIt (X2.eq Y1 (by omega))
    obtain ⟨q0, q1, q2, q3⟩ := X2.cells
    obtain ⟨p0, p1, p2, p3⟩ := Y1.cells
    have HX2 := hideIt X2
    have HY1 := hideIt Y1
    have HG2 := hideIt G2
    have zl : w.heap.size ≤ w1.heap.size + 1 := by have := HG1.out.size; simp at this; omega
    have zm : w1.heap.size + 1 ≤ w2.heap.size := by have := b2.size; simpa using this
    clear o2 b2 X2 Y1 G2 B2 HX1 HG1
    unfold ordV at HQ
    go_wp2_with (go_at_call 29; refine HQ.out.mono ?_; rintro e w3 ⟨rfl, b3⟩; refine Hid.out ?_)
    refine (show ∀ {p : Prop}, p → Hid p from fun h => h) ?_
    have X3 := HX2.out.up b3
    have Y3 := HY1.out.up b3
    have G3 := HG2.out.trans (b3.mono HG2.out.size)
    have HM := hideIt (X3.mark 1 (by omega) (by omega))
    clear q0 q1 q2 q3 p0 p1 p2 p3 HQ HX2 HY1 HG2 b3
    obtain ⟨q0, q1, q2, q3⟩ := X3.cells
    have HY3 := hideIt Y3
    have HG3 := hideIt G3
    clear X3 Y3 G3
    unfold ordV at HM
    go_wp2_with (go_at_call 34; refine HM.out.mono ?_; rintro e w4 ⟨rfl, X4, r4⟩; refine Hid.out ?_)
    refine (show ∀ {p : Prop}, p → Hid p from fun h => h) ?_
    have Y4 := HY3.out.rng r4 (.inl (by simp))
    have G4 := HG3.out.trans (r4.below (by simp; omega) (HG3.out.size))
    have HH := hideIt (X4.held 1 (by omega) (by omega))
    clear q0 q1 q2 q3 HM HY3 HG3 r4
    obtain ⟨q0, q1, q2, q3⟩ := X4.cells
    have HX4 := hideIt X4
    have HY4 := hideIt Y4
    have HG4 := hideIt G4
    clear X4 Y4 G4
    unfold ordV at HH
    go_wp2_with (go_at_call 35; refine HH.out.mono ?_; rintro e w5 ⟨rfl, b5⟩; refine Hid.out ?_)
    refine (show ∀ {p : Prop}, p → Hid p from fun h => h) ?_
    have X5 := HX4.out.up b5
    have Y5 := HY4.out.up b5
    have G5 := HG4.out.trans (b5.mono HG4.out.size)
    have HX5 := hideIt X5
    have HY5 := hideIt Y5
    have HG5 := hideIt G5
    clear q0 q1 q2 q3 HH HX4 HY4 HG4 X5 Y5 G5 b5
    have dq : decide ((1 : Int) + (k2 : Int) * 2 < 0) = false := decide_eq_false (by omega)
    go_wp2_with (go_at_call 13; refine (HI.out _).mono ?_; rintro e w6 ⟨a3, k3, c3, rfl, o6, z6, b6⟩; refine Hid.out ?_)
    refine (show ∀ {p : Prop}, p → Hid p from fun h => h) ?_
    have X6 := OBox.laid (num := num) (op := op) (x := x) b6.size o6
    have B6 : Below w5.heap.size w5 (w6.alloc (.cells (oc num op a3 k3 c3 x) 26)) := b6.alloc b6.size _
    have Y6 := HY5.out.up B6
    have V6 := HX5.out.up B6
    have G6 := HG5.out.trans (B6.mono HG5.out.size)
    have HQ := hideIt (X6.eq Y6 (by omega))
    obtain ⟨q0, q1, q2, q3⟩ := X6.cells
    obtain ⟨p0, p1, p2, p3⟩ := Y6.cells
    have HV6 := hideIt V6
    have HG6 := hideIt G6
    clear o6 b6 X6 Y6 V6 G6 B6 HX5 HY5 HG5
    unfold ordV at HQ
    go_wp2_with (go_at_call 29; refine HQ.out.mono ?_; rintro e w7 ⟨rfl, b7⟩; refine Hid.out ?_)
    refine (show ∀ {p : Prop}, p → Hid p from fun h => h) ?_
    have V7 := HV6.out.up b7
    have G7 := HG6.out.trans (b7.mono HG6.out.size)
    have HH := hideIt (V7.held 1 (by omega) (by omega))
    clear q0 q1 q2 q3 p0 p1 p2 p3 HQ HV6 HG6 b7
    obtain ⟨q0, q1, q2, q3⟩ := V7.cells
    have HG7 := hideIt G7
    clear V7 G7
    unfold ordV at HH
    go_wp2_with (go_at_call 35; refine HH.out.mono ?_; rintro e w8 ⟨rfl, b8⟩; refine Hid.out ?_)
    refine (show ∀ {p : Prop}, p → Hid p from fun h => h) ?_
    clear q0 q1 q2 q3 HH
    go_wp2
    go_ret
    exact ⟨rfl, HG7.out.trans (b8.mono HG7.out.size)⟩
  · have d0 : decide ((1048576 : Int) < (s.size : Int)) = true := by simp; omega
    go_enter Try.func7, Try.ntmps7
    go_wp2
    go_ret
    exact ⟨rfl, Below.refl _ _⟩
end Go.Proofs.Ytkhhagjcmbbdpaa
