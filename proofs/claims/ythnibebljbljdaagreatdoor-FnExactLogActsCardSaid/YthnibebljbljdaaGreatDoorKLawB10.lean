/- Whether what an order wants done is right, as the program tells it. When an answer is right, on both sides. AnswerOk on both sides. The program's ReadOrder. What the laws' own functions over answers answer; answers in ranges of blocks of their own. Answers held against each other, marked and looked at again. -/
import Derived.Test.YthnibebljbljdaaGreatDoorKICmd10
import Derived.Test.YthnibebljbljdaaGreatDoorKRO10
namespace Go.Proofs.YthnibebljbljdaaGreatDoor
open Go.RowKit Vt

theorem ta_yes_add (x y : Value) (w : World) : (Instr.typeAssert (.iface 190 (.agg #[x, y])) 173 190 true).run Tryz.prog w = .ok (.tuple #[.agg #[x, y], .bool true]) w := by kernel_rfl
theorem ta_no_ta (x y : Value) (w : World) : (Instr.typeAssert (.iface 191 (.agg #[x, y])) 173 190 true).run Tryz.prog w = .ok (.tuple #[.agg #[.int .i64 0, .int .i64 0], .bool false]) w := by kernel_rfl
theorem ta_yes_ta (x y : Value) (w : World) : (Instr.typeAssert (.iface 191 (.agg #[x, y])) 173 191 true).run Tryz.prog w = .ok (.tuple #[.agg #[x, y], .bool true]) w := by kernel_rfl
theorem ta_no_re1 (x : Value) (w : World) : (Instr.typeAssert (.iface 188 (.agg #[x])) 173 190 true).run Tryz.prog w = .ok (.tuple #[.agg #[.int .i64 0, .int .i64 0], .bool false]) w := by kernel_rfl
theorem ta_no_re2 (x : Value) (w : World) : (Instr.typeAssert (.iface 188 (.agg #[x])) 173 191 true).run Tryz.prog w = .ok (.tuple #[.agg #[.int .i64 0, .int .i64 0], .bool false]) w := by kernel_rfl
theorem ta_yes_re (x : Value) (w : World) : (Instr.typeAssert (.iface 188 (.agg #[x])) 173 188 true).run Tryz.prog w = .ok (.tuple #[.agg #[x], .bool true]) w := by kernel_rfl
theorem ta_no_ac1 (x : Value) (w : World) : (Instr.typeAssert (.iface 193 (.agg #[x])) 173 190 true).run Tryz.prog w = .ok (.tuple #[.agg #[.int .i64 0, .int .i64 0], .bool false]) w := by kernel_rfl
theorem ta_no_ac2 (x : Value) (w : World) : (Instr.typeAssert (.iface 193 (.agg #[x])) 173 191 true).run Tryz.prog w = .ok (.tuple #[.agg #[.int .i64 0, .int .i64 0], .bool false]) w := by kernel_rfl
theorem ta_no_ac3 (x : Value) (w : World) : (Instr.typeAssert (.iface 193 (.agg #[x])) 173 188 true).run Tryz.prog w = .ok (.tuple #[.agg #[.int .i64 0], .bool false]) w := by kernel_rfl
theorem ta_yes_ac (x : Value) (w : World) : (Instr.typeAssert (.iface 193 (.agg #[x])) 173 193 true).run Tryz.prog w = .ok (.tuple #[.agg #[x], .bool true]) w := by kernel_rfl
theorem ta_nil1 (w : World) : (Instr.typeAssert .nilIface 173 190 true).run Tryz.prog w = .ok (.tuple #[.agg #[.int .i64 0, .int .i64 0], .bool false]) w := by kernel_rfl
theorem ta_nil2 (w : World) : (Instr.typeAssert .nilIface 173 191 true).run Tryz.prog w = .ok (.tuple #[.agg #[.int .i64 0, .int .i64 0], .bool false]) w := by kernel_rfl
theorem ta_nil3 (w : World) : (Instr.typeAssert .nilIface 173 188 true).run Tryz.prog w = .ok (.tuple #[.agg #[.int .i64 0], .bool false]) w := by kernel_rfl
theorem ta_nil4 (w : World) : (Instr.typeAssert .nilIface 173 193 true).run Tryz.prog w = .ok (.tuple #[.agg #[.slice none 0 0], .bool false]) w := by kernel_rfl

theorem bel2 {w w' : World} (o p : Obj) (h : Below ((w.alloc o).alloc p).heap.size ((w.alloc o).alloc p) w') : Below w.heap.size w w' :=
  (((Below.refl _ _).alloc (Nat.le_refl _) _).alloc (by simp) _).trans (h.mono (by simp; omega))

theorem commandOk_nil (n : Int) (w : World) :
    Calls Tryz.prog 133 #[.int .i64 n, .nilIface] w fun e w' => e = .returned (.bool false) ∧ Below w.heap.size w w' := by
  have t1 := ta_nil1; have t2 := ta_nil2; have t3 := ta_nil3; have t4 := ta_nil4
  go_enter Tryz.func133, Tryz.ntmps133
  go_wp2
  go_ret
  exact ⟨rfl, Below.refl _ _⟩

theorem commandOk_rel (n v : Int) (w : World) :
    Calls Tryz.prog 133 #[.int .i64 n, .iface 188 (.agg #[.int .i64 v])] w fun e w' => e = .returned (.bool (decide (0 ≤ v ∧ v < n))) ∧ Below w.heap.size w w' := by
  have t1 := ta_no_re1 (.int .i64 v); have t2 := ta_no_re2 (.int .i64 v); have t3 := ta_yes_re (.int .i64 v)
  by_cases h : 0 ≤ v
  · have d1 : decide (0 ≤ v) = true := by simpa using h
    go_enter Tryz.func133, Tryz.ntmps133
    go_wp2
    go_ret
    exact ⟨by simp [h], bel1 _ _⟩
  · have d1 : decide (0 ≤ v) = false := by simpa using h
    go_enter Tryz.func133, Tryz.ntmps133
    go_wp2
    go_ret
    exact ⟨by simp, bel1 _ _⟩

theorem commandOk_add (n : Int) (f : EdgeV) (w : World) :
    Calls Tryz.prog 133 #[.int .i64 n, .iface 190 (.agg #[.int .i64 f.1, .int .i64 f.2])] w fun e w' => e = .returned (.bool (eB n f)) ∧ Below w.heap.size w w' := by
  have t1 := ta_yes_add (.int .i64 f.1) (.int .i64 f.2)
  have HE := hideIt (iEdgeOk_any n f)
  go_enter Tryz.func133, Tryz.ntmps133
  go_wp2_with (go_at_call 141; refine (HE.out _).mono ?_; rintro e w1 ⟨rfl, hb⟩)
  go_ret
  exact ⟨rfl, (bel1 _ _).trans (hb.mono (by simp))⟩

theorem commandOk_take (n : Int) (f : EdgeV) (w : World) :
    Calls Tryz.prog 133 #[.int .i64 n, .iface 191 (.agg #[.int .i64 f.1, .int .i64 f.2])] w fun e w' => e = .returned (.bool (eB n f)) ∧ Below w.heap.size w w' := by
  have t1 := ta_no_ta (.int .i64 f.1) (.int .i64 f.2)
  have t2 := ta_yes_ta (.int .i64 f.1) (.int .i64 f.2)
  have HE := hideIt (iEdgeOk_any n f)
  go_enter Tryz.func133, Tryz.ntmps133
  go_wp2_with (go_at_call 141; refine (HE.out _).mono ?_; rintro e w1 ⟨rfl, hb⟩)
  go_ret
  exact ⟨rfl, (bel1 _ _).trans (hb.mono (by simp))⟩

theorem commandOk_acc (n : Int) (es : List EdgeV) (k : Nat) (a : Option Addr) (c : Nat) (hk : k ≤ 1048576) (w : World) (h : Es w w.heap.size a k es) :
    Calls Tryz.prog 133 #[.int .i64 n, .iface 193 (.agg #[.slice a k c])] w fun e w' => e = .returned (.bool (eOk n es)) ∧ Below w.heap.size w w' := by
  have t1 := ta_no_ac1 (.slice a k c); have t2 := ta_no_ac2 (.slice a k c); have t3 := ta_no_ac3 (.slice a k c); have t4 := ta_yes_ac (.slice a k c)
  have HT := hideIt (edgesOk_any n es k a c hk (w.alloc (.cells #[.slice a k c] 193)) ((h.alloc (Nat.le_refl _) _).mono (by simp)))
  clear h
  go_enter Tryz.func133, Tryz.ntmps133
  go_wp2_with (go_at_call 131; refine HT.out.mono ?_; rintro e w1 ⟨rfl, hb⟩)
  go_ret
  exact ⟨rfl, (bel1 _ _).trans (hb.mono (by simp))⟩

theorem eOk_nil (n : Int) : eOk n [] = true := rfl
theorem eOk_one (n : Int) (f : EdgeV) : eOk n [f] = eB n f := by
  unfold eOk chk
  simp [chkAt]

/-- what an order wants done, and whether that is right -/
theorem cmd_ok (num op : Int) (es : List EdgeV) (v : Int) (k : Nat) (a : Option Addr) (c : Nat) (hk : k ≤ 1048576) (w : World) (h : Es w w.heap.size a k es) :
    Calls Tryz.prog 112 #[ordV num op a k c v] w fun e w' => ∃ cv, e = .returned cv ∧ Below w.heap.size w w' ∧
      Hid (∀ n, Calls Tryz.prog 133 #[.int .i64 n, cv] w' fun e w'' => e = .returned (.bool (eOk n es && decide (OpOk n ⟨num, op, es, v⟩))) ∧ Below w'.heap.size w' w'') := by
  have hlen := h.1
  by_cases h3 : op = 3 ∧ k = 0
  · obtain ⟨rfl, rfl⟩ := h3
    have e0 : es = [] := List.length_eq_zero_iff.1 hlen
    subst e0
    refine (commandOf_rel num v a c w).mono ?_
    rintro e w' ⟨rfl, hb⟩
    refine ⟨_, rfl, hb, fun n => (commandOk_rel n v w').mono ?_⟩
    rintro e w'' ⟨rfl, hb'⟩
    exact ⟨rett (by rw [eOk_nil, Bool.true_and]; apply decide_eq_decide.2; unfold OpOk; dsimp only [List.length_nil]; omega), hb'⟩
  · by_cases hv : v = 0
    · subst hv
      by_cases h1 : (op = 1 ∨ op = 2) ∧ k = 1
      · obtain ⟨ho, rfl⟩ := h1
        obtain ⟨f, rfl⟩ := List.length_eq_one_iff.1 hlen
        rcases h.2 with h0 | ⟨b, off, rfl, hb0, hc⟩
        · omega
        · obtain ⟨c0, c1⟩ := hc 0 f rfl
          rw [Nat.zero_mul, Nat.add_zero] at c0 c1
          have fin : ∀ n, (eOk n [f] && decide (OpOk n ⟨num, op, [f], 0⟩)) = eB n f := fun n => by
            rw [eOk_one, decide_eq_true (by unfold OpOk; dsimp only [List.length_cons, List.length_nil]; omega), Bool.and_true]
          rcases ho with rfl | rfl
          · refine (commandOf_add num f b off c w c0 c1 hb0).mono ?_
            rintro e w' ⟨rfl, hb⟩
            refine ⟨_, rfl, hb, fun n => (commandOk_add n f w').mono ?_⟩
            rintro e w'' ⟨rfl, hb'⟩
            exact ⟨rett (fin n).symm, hb'⟩
          · refine (commandOf_take num f b off c w c0 c1 hb0).mono ?_
            rintro e w' ⟨rfl, hb⟩
            refine ⟨_, rfl, hb, fun n => (commandOk_take n f w').mono ?_⟩
            rintro e w'' ⟨rfl, hb'⟩
            exact ⟨rett (fin n).symm, hb'⟩
      · by_cases h4 : op = 4 ∧ 0 < k
        · obtain ⟨rfl, h4⟩ := h4
          refine (commandOf_acc num a k c h4 w).mono ?_
          rintro e w' ⟨rfl, hb⟩
          refine ⟨_, rfl, hb, fun n => (commandOk_acc n es k a c hk w' (h.up hb)).mono ?_⟩
          rintro e w'' ⟨rfl, hb'⟩
          exact ⟨rett (by rw [decide_eq_true (by unfold OpOk; dsimp only; omega), Bool.and_true]), hb'⟩
        · refine (commandOf_no num op a k c h3 (by omega) (by omega) (by omega) w).mono ?_
          rintro e w' ⟨rfl, hb⟩
          refine ⟨_, rfl, hb, fun n => (commandOk_nil n w').mono ?_⟩
          rintro e w'' ⟨rfl, hb'⟩
          exact ⟨rett (by rw [decide_eq_false (by unfold OpOk; dsimp only; omega), Bool.and_false]), hb'⟩
    · refine (commandOf_v num op v a k c hv h3 w).mono ?_
      rintro e w' ⟨rfl, hb⟩
      refine ⟨_, rfl, hb, fun n => (commandOk_nil n w').mono ?_⟩
      rintro e w'' ⟨rfl, hb'⟩
      exact ⟨rett (by rw [decide_eq_false (by unfold OpOk; dsimp only; omega), Bool.and_false]), hb'⟩

set_option maxRecDepth 100000 in
set_option maxHeartbeats 4000000 in
theorem iOrderOk_any (n num op : Int) (es : List EdgeV) (v : Int) (k : Nat) (a : Option Addr) (c : Nat) (hk : k ≤ 1048576) (w : World) (h : Es w w.heap.size a k es) :
    Calls Tryz.prog 111 #[.int .i64 n, ordV num op a k c v] w fun e w' => e = .returned (.bool (oB n ⟨num, op, es, v⟩)) ∧ Below w.heap.size w w' := by
  have HV := hideIt vertsOk_any
  have HN := hideIt numOk_any
  have HC := hideIt (cmd_ok num op es v k a c hk (w.alloc (.cells #[.int .i64 num, .int .i64 op, .slice a k c, .int .i64 v] 55)) ((h.alloc (Nat.le_refl _) _).mono (by simp)))
  unfold ordV at HC ⊢
  clear h
  by_cases h1 : 1 ≤ n ∧ n ≤ 12
  · have r1 : decide (1 ≤ n ∧ n ≤ 12) = true := by simpa using h1
    by_cases h2 : 1 ≤ num ∧ num ≤ 100000
    · have r2 : decide (1 ≤ num ∧ num ≤ 100000) = true := by simpa using h2
      have HB : Hid (oB n ⟨num, op, es, v⟩ = (eOk n es && decide (OpOk n ⟨num, op, es, v⟩))) := by
        show _ = _
        unfold oB; dsimp only; rw [r1, r2]; rfl
      go_enter Tryz.func111, Tryz.ntmps111
      go_wp2_with (first | (go_at_call 129; refine (HV.out _ _).mono ?_; rintro e w1 ⟨rfl, rfl⟩) | (go_at_call 130; refine (HN.out _ _).mono ?_; rintro e w1 ⟨rfl, rfl⟩) | (go_at_call 112; refine HC.out.mono ?_; rintro e w2 ⟨cv, rfl, hb2, HD⟩) | (go_at_call 133; refine (HD.out _).mono ?_; rintro e w3 ⟨rfl, hb3⟩))
      go_ret
      exact ⟨rett HB.out.symm, (bel1 _ _).trans ((hb2.trans (hb3.mono hb2.size)).mono (by simp))⟩
    · have r2 : decide (1 ≤ num ∧ num ≤ 100000) = false := by simpa using h2
      have HB := hideIt (oB_num (n := n) (o := ⟨num, op, es, v⟩) h2)
      clear HC
      go_enter Tryz.func111, Tryz.ntmps111
      go_wp2_with (first | (go_at_call 129; refine (HV.out _ _).mono ?_; rintro e w1 ⟨rfl, rfl⟩) | (go_at_call 130; refine (HN.out _ _).mono ?_; rintro e w1 ⟨rfl, rfl⟩))
      go_ret
      exact ⟨rett HB.out.symm, bel1 _ _⟩
  · have r1 : decide (1 ≤ n ∧ n ≤ 12) = false := by simpa using h1
    have HB := hideIt (oB_n (o := ⟨num, op, es, v⟩) h1)
    clear HC
    go_enter Tryz.func111, Tryz.ntmps111
    go_wp2_with (go_at_call 129; refine (HV.out _ _).mono ?_; rintro e w1 ⟨rfl, rfl⟩)
    go_ret
    exact ⟨rett HB.out.symm, bel1 _ _⟩
end Go.Proofs.YthnibebljbljdaaGreatDoor
namespace Go.Proofs.YthnibebljbljdaaGreatDoor
open Go.RowKit Vt

theorem lbAt_out {ls : List Int} {i : Nat} {x : Int} (h : ls[i]? = some x) (hx : ¬ (0 ≤ x ∧ x ≤ (i : Int))) : lbAt ls i = false := by
  unfold lbAt
  rw [h]
  dsimp only
  rw [decide_eq_false hx]
  rfl
theorem lbAt_in {ls : List Int} {i x : Nat} {y : Int} (h : ls[i]? = some (x : Int)) (hx : x ≤ i) (hy : ls[x]? = some y) : lbAt ls i = decide (y = (x : Int)) := by
  unfold lbAt
  rw [h]
  dsimp only
  rw [decide_eq_true (by omega), Int.toNat_natCast, hy, Bool.true_and]
  simp

set_option maxRecDepth 100000 in
set_option maxHeartbeats 4000000 in
theorem l09Labels_any (n : Int) (ls : List Int) (k : Nat) (a : Option Addr) (c : Nat) (hk : k ≤ 1048576) (w : World) (h : Is w w.heap.size a k ls) :
    Calls Tryz.prog 124 #[.int .i64 n, .slice a k c] w fun e w' => e = .returned (.bool (lB n ls)) ∧ Below w.heap.size w w' := by
  obtain ⟨hlen, hrow⟩ := h
  by_cases hn : (k : Int) = n
  · subst hn
    have HB : Hid (lB (k : Int) ls = lbs ls) := by show _ = _; unfold lB; rw [decide_eq_true (by omega)]; rfl
    have HR := hideIt hrow
    have e0 : ((k : Int) != (k : Int)) = false := by simp
    clear hrow
    go_enter Tryz.func124, Tryz.ntmps124
    go_wp2
    go_loopw [5] (fun i wr => ∃ j : Nat, j ≤ k ∧ i = .int .i64 (j : Int) ∧ Hid (∀ t, t < j → lbAt ls t = true) ∧ Below w.heap.size w wr) (fun i _ => k - (intOf i).toNat)
    case atStart => exact ⟨0, by omega, rfl, fun t ht => by omega, Below.refl _ _⟩
    case round =>
      obtain ⟨j, hj, rfl, hck, hb⟩ := hrel
      by_cases hlt : j < k
      · rcases HR.out with hz | ⟨b, off, rfl, hbl, hc⟩
        · omega
        · obtain ⟨x, hx⟩ : ∃ x, ls[j]? = some x := ⟨ls[j]'(by omega), List.getElem?_eq_getElem (by omega)⟩
          have c0 : wr.cell? ⟨b, off + j, none⟩ = some (.int .i64 x) := by rw [hb.cell hbl]; exact hc j x hx
          have b1 : (0 : Int) ≤ (j : Int) := by omega
          have b2 : (j : Int) < (k : Int) := by omega
          by_cases hin : 0 ≤ x ∧ x ≤ (j : Int)
          · obtain ⟨xn, rfl⟩ := Int.eq_ofNat_of_zero_le hin.1
            obtain ⟨y, hy⟩ : ∃ y, ls[xn]? = some y := ⟨ls[xn]'(by omega), List.getElem?_eq_getElem (by omega)⟩
            have c1 : wr.cell? ⟨b, off + xn, none⟩ = some (.int .i64 y) := by rw [hb.cell hbl]; exact hc xn y hy
            have HA := hideIt (lbAt_in hx (by omega) hy)
            have r1 : decide ((0 : Int) ≤ (xn : Int) ∧ (xn : Int) ≤ (j : Int)) = true := by simpa using hin
            have b3 : (0 : Int) ≤ (xn : Int) := by omega
            have b4 : (xn : Int) < (k : Int) := by omega
            have HJ : Hid (∀ W : World, Calls Tryz.prog 57 #[.int .i64 (xn : Int), .int .i64 0, .int .i64 (j : Int)] W fun e w' => e = .returned (.bool true) ∧ w' = W) := fun W => by
              have := l01In_any (xn : Int) 0 (j : Int) W
              rw [r1] at this
              exact this
            by_cases hyx : y = (xn : Int)
            · have r2 : (y != (xn : Int)) = false := by simpa using hyx
              have HY : Hid (lbAt ls j = true) := by show _ = _; rw [HA.out, hyx]; simp
              clear hc hx hy HA hyx
              go_wp2
              go_quiet ((go_at_call 57; exact Calls.quiet_of_same (HJ.out _)))
              go_wp2
              refine ⟨⟨j + 1, by omega, by go_num, fun t ht => ?_, ?_⟩, by simp [intOf]; omega⟩
              · by_cases h9 : t = j
                · subst h9; exact HY.out
                · exact hck.out t (by omega)
              · first | exact hb.drewN _ | exact below_drewN hb _ | exact hb
            · have r2 : (y != (xn : Int)) = true := by simpa using hyx
              have HN := hideIt (lbs_no (by omega : j < ls.length) (show lbAt ls j = false by rw [HA.out]; simpa using hyx))
              clear hc hx hy HA hyx hck
              go_wp2
              go_quiet ((go_at_call 57; exact Calls.quiet_of_same (HJ.out _)))
              go_wp2
              go_ret
              exact ⟨by rw [HB.out, HN.out]; rfl, by first | exact hb.drewN _ | exact below_drewN hb _ | exact hb⟩
          · have r1 : decide ((0 : Int) ≤ x ∧ x ≤ (j : Int)) = false := by simpa using hin
            have HN := hideIt (lbs_no (by omega : j < ls.length) (lbAt_out hx hin))
            have HJ : Hid (∀ W : World, Calls Tryz.prog 57 #[.int .i64 x, .int .i64 0, .int .i64 (j : Int)] W fun e w' => e = .returned (.bool false) ∧ w' = W) := fun W => by
              have := l01In_any x 0 (j : Int) W
              rw [r1] at this
              exact this
            clear hc hx hck hin
            go_wp2
            go_quiet ((go_at_call 57; exact Calls.quiet_of_same (HJ.out _)))
            go_wp2
            go_ret
            exact ⟨by rw [HB.out, HN.out]; rfl, by first | exact hb.drewN _ | exact below_drewN hb _ | exact hb⟩
      · have HY := hideIt (lbs_yes (ls := ls) (fun t ht => hck.out t (by omega)))
        clear hck
        go_wp2
        go_ret
        exact ⟨by rw [HB.out, HY.out]; rfl, hb⟩
  · have e0 : ((k : Int) != n) = true := by simpa using hn
    have HB : Hid (lB n ls = false) := by show _ = _; unfold lB; rw [decide_eq_false (by omega)]; rfl
    clear hrow
    go_enter Tryz.func124, Tryz.ntmps124
    go_wp2
    go_ret
    exact ⟨by rw [HB.out]; rfl, Below.refl _ _⟩

set_option maxRecDepth 100000 in
set_option maxHeartbeats 4000000 in
theorem labelsOk_any (n : Int) (ls : List Int) (k : Nat) (a : Option Addr) (c : Nat) (hk : k ≤ 1048576) (w : World) (h : Is w w.heap.size a k ls) :
    Calls Tryz.prog 132 #[.int .i64 n, .slice a k c] w fun e w' => e = .returned (.bool (lB n ls)) ∧ Below w.heap.size w w' := by
  obtain ⟨hlen, hrow⟩ := h
  by_cases hn : (k : Int) = n
  · subst hn
    have HB : Hid (lB (k : Int) ls = lbs ls) := by show _ = _; unfold lB; rw [decide_eq_true (by omega)]; rfl
    have HR := hideIt hrow
    have e0 : ((k : Int) != (k : Int)) = false := by simp
    clear hrow
    go_enter Tryz.func132, Tryz.ntmps132
    go_wp2
    go_loopw [13] (fun i wr => ∃ j : Nat, j ≤ k ∧ i = .int .i64 (j : Int) ∧ Hid (∀ t, t < j → lbAt ls t = true) ∧ Below w.heap.size w wr) (fun i _ => k - (intOf i).toNat)
    case atStart => exact ⟨0, by omega, rfl, fun t ht => by omega, Below.refl _ _⟩
    case round =>
      obtain ⟨j, hj, rfl, hck, hb⟩ := hrel
      by_cases hlt : j < k
      · rcases HR.out with hz | ⟨b, off, rfl, hbl, hc⟩
        · omega
        · obtain ⟨x, hx⟩ : ∃ x, ls[j]? = some x := ⟨ls[j]'(by omega), List.getElem?_eq_getElem (by omega)⟩
          have c0 : wr.cell? ⟨b, off + j, none⟩ = some (.int .i64 x) := by rw [hb.cell hbl]; exact hc j x hx
          have b1 : (0 : Int) ≤ (j : Int) := by omega
          have b2 : (j : Int) < (k : Int) := by omega
          by_cases hin : 0 ≤ x ∧ x ≤ (j : Int)
          · obtain ⟨xn, rfl⟩ := Int.eq_ofNat_of_zero_le hin.1
            obtain ⟨y, hy⟩ : ∃ y, ls[xn]? = some y := ⟨ls[xn]'(by omega), List.getElem?_eq_getElem (by omega)⟩
            have c1 : wr.cell? ⟨b, off + xn, none⟩ = some (.int .i64 y) := by rw [hb.cell hbl]; exact hc xn y hy
            have HA := hideIt (lbAt_in hx (by omega) hy)
            have r1 : decide ((xn : Int) < 0) = false := by simp
            have r3 : decide ((j : Int) < (xn : Int)) = false := by simp; omega
            have b3 : (0 : Int) ≤ (xn : Int) := by omega
            have b4 : (xn : Int) < (k : Int) := by omega
            by_cases hyx : y = (xn : Int)
            · have r2 : (y != (xn : Int)) = false := by simpa using hyx
              have HY : Hid (lbAt ls j = true) := by show _ = _; rw [HA.out, hyx]; simp
              clear hc hx hy HA hyx
              go_wp2
              refine ⟨⟨j + 1, by omega, by go_num, fun t ht => ?_, hb⟩, by simp [intOf]; omega⟩
              by_cases h9 : t = j
              · subst h9; exact HY.out
              · exact hck.out t (by omega)
            · have r2 : (y != (xn : Int)) = true := by simpa using hyx
              have HN := hideIt (lbs_no (by omega : j < ls.length) (show lbAt ls j = false by rw [HA.out]; simpa using hyx))
              clear hc hx hy HA hyx hck
              go_wp2
              go_ret
              exact ⟨by rw [HB.out, HN.out]; rfl, hb⟩
          · have HN := hideIt (lbs_no (by omega : j < ls.length) (lbAt_out hx hin))
            clear hc hx hck
            by_cases hneg : x < 0
            · have r1 : decide (x < 0) = true := by simpa using hneg
              clear hin
              go_wp2
              go_ret
              exact ⟨by rw [HB.out, HN.out]; rfl, hb⟩
            · have r1 : decide (x < 0) = false := by simpa using hneg
              have r3 : decide ((j : Int) < x) = true := by simp; omega
              clear hin
              go_wp2
              go_ret
              exact ⟨by rw [HB.out, HN.out]; rfl, hb⟩
      · have HY := hideIt (lbs_yes (ls := ls) (fun t ht => hck.out t (by omega)))
        clear hck
        go_wp2
        go_ret
        exact ⟨by rw [HB.out, HY.out]; rfl, hb⟩
  · have e0 : ((k : Int) != n) = true := by simpa using hn
    have HB : Hid (lB n ls = false) := by show _ = _; unfold lB; rw [decide_eq_false (by omega)]; rfl
    clear hrow
    go_enter Tryz.func132, Tryz.ntmps132
    go_wp2
    go_ret
    exact ⟨by rw [HB.out]; rfl, Below.refl _ _⟩

/-- an answer as a value -/
abbrev ansV (num : Int) (ok : Bool) (a : Option Addr) (k c : Nat) (a' : Option Addr) (k' c' : Nat) : Value := .agg #[.int .i64 num, .bool ok, .slice a k c, .slice a' k' c']
theorem Is.alloc {w : World} {a : Option Addr} {n : Nat} {ls : List Int} (h : Is w w.heap.size a n ls) (o : Obj) : Is (w.alloc o) (w.alloc o).heap.size a n ls := h.up (bel1 w o)

theorem aB_n {n : Int} {o : AnsV} (h : ¬ (1 ≤ n ∧ n ≤ 12)) : aB n o = false := by unfold aB; rw [decide_eq_false h]; rfl
theorem aB_num {n : Int} {o : AnsV} (h : ¬ (1 ≤ o.num ∧ o.num ≤ 100000)) : aB n o = false := by unfold aB; rw [decide_eq_false h]; simp
theorem aB_es {n : Int} {o : AnsV} (h : eOk n o.es = false) : aB n o = false := by unfold aB; rw [h]; simp
theorem aB_ls {n : Int} {o : AnsV} (h1 : 1 ≤ n ∧ n ≤ 12) (h2 : 1 ≤ o.num ∧ o.num ≤ 100000) (h3 : eOk n o.es = true) : aB n o = lB n o.ls := by unfold aB; rw [h3, decide_eq_true h1, decide_eq_true h2]; rfl
end Go.Proofs.YthnibebljbljdaaGreatDoor
namespace Go.Proofs.YthnibebljbljdaaGreatDoor
open Go.RowKit Vt

set_option maxRecDepth 100000 in
set_option maxHeartbeats 4000000 in
theorem sAnswerOk_any (n num : Int) (ok : Bool) (es : List EdgeV) (ls : List Int) (k : Nat) (a : Option Addr) (c : Nat) (hk : k ≤ 1048576) (k' : Nat) (a' : Option Addr) (c' : Nat) (hk' : k' ≤ 1048576) (w : World) (h : Es w w.heap.size a k es) (h' : Is w w.heap.size a' k' ls) :
    Calls Tryz.prog 96 #[.int .i64 n, ansV num ok a k c a' k' c'] w fun e w' => e = .returned (.bool (aB n ⟨num, ok, es, ls⟩)) ∧ Below w.heap.size w w' := by
  unfold ansV
  have HI := hideIt l01In_any
  have HE : Hid (Calls Tryz.prog 123 #[.int .i64 n, .slice a k c] (w.alloc (.cells #[.int .i64 num, .bool ok, .slice a k c, .slice a' k' c'] 53)) fun e w' => e = .returned (.bool (eOk n es)) ∧ Below w.heap.size w w' ∧ w'.cell? ⟨w.heap.size, 3, none⟩ = some (.slice a' k' c') ∧ Hid (Is w' w'.heap.size a' k' ls)) :=
    (l05Edges_any n es k a c hk (w.alloc (.cells #[.int .i64 num, .bool ok, .slice a k c, .slice a' k' c'] 53)) ((h.alloc (Nat.le_refl _) _).mono (by simp))).mono fun _ _ ⟨he, hb⟩ =>
      ⟨he, (bel1 _ _).trans (hb.mono (by simp)), by rw [hb.cell (by simp)]; simp, (h'.alloc _).up hb⟩
  have HL : Hid (∀ W, Is W W.heap.size a' k' ls → Calls Tryz.prog 124 #[.int .i64 n, .slice a' k' c'] W fun e w' => e = .returned (.bool (lB n ls)) ∧ Below W.heap.size W w') := fun W hW => l09Labels_any n ls k' a' c' hk' W hW
  have B0 : Hid (Below w.heap.size w (w.alloc (.cells #[.int .i64 num, .bool ok, .slice a k c, .slice a' k' c'] 53))) := bel1 _ _
  clear h h'
  by_cases h1 : 1 ≤ n ∧ n ≤ 12
  · have r1 : decide (1 ≤ n ∧ n ≤ 12) = true := by simpa using h1
    by_cases h2 : 1 ≤ num ∧ num ≤ 100000
    · have r2 : decide (1 ≤ num ∧ num ≤ 100000) = true := by simpa using h2
      cases hE : eOk n es with
      | true =>
        rw [hE] at HE
        have HB := hideIt (aB_ls (o := ⟨num, ok, es, ls⟩) h1 h2 hE)
        generalize lB n ls = r at HL HB
        go_enter Tryz.func96, Tryz.ntmps96
        go_wp2_with (first | (go_at_call 57; refine (HI.out _ _ _ _).mono ?_; rintro e w1 ⟨rfl, rfl⟩) | (go_at_call 123; refine HE.out.mono ?_; rintro e w2 ⟨rfl, hb2, q3, h2'⟩) | (go_at_call 124; refine (HL.out _ h2'.out).mono ?_; rintro e w3 ⟨rfl, hb3⟩))
        go_ret
        exact ⟨rett HB.out.symm, hb2.trans (hb3.mono hb2.size)⟩
      | false =>
        rw [hE] at HE
        have HB := hideIt (aB_es (o := ⟨num, ok, es, ls⟩) hE)
        go_enter Tryz.func96, Tryz.ntmps96
        go_wp2_with (first | (go_at_call 57; refine (HI.out _ _ _ _).mono ?_; rintro e w1 ⟨rfl, rfl⟩) | (go_at_call 123; refine HE.out.mono ?_; rintro e w2 ⟨rfl, hb2, q3, h2'⟩))
        go_ret
        exact ⟨rett HB.out.symm, hb2⟩
    · have r2 : decide (1 ≤ num ∧ num ≤ 100000) = false := by simpa using h2
      have HB := hideIt (aB_num (n := n) (o := ⟨num, ok, es, ls⟩) h2)
      clear HE HL
      go_enter Tryz.func96, Tryz.ntmps96
      go_wp2_with (first | (go_at_call 57; refine (HI.out _ _ _ _).mono ?_; rintro e w1 ⟨rfl, rfl⟩))
      go_ret
      exact ⟨rett HB.out.symm, B0.out⟩
  · have r1 : decide (1 ≤ n ∧ n ≤ 12) = false := by simpa using h1
    have HB := hideIt (aB_n (o := ⟨num, ok, es, ls⟩) h1)
    clear HE HL
    go_enter Tryz.func96, Tryz.ntmps96
    go_wp2_with (first | (go_at_call 57; refine (HI.out _ _ _ _).mono ?_; rintro e w1 ⟨rfl, rfl⟩))
    go_ret
    exact ⟨rett HB.out.symm, B0.out⟩

set_option maxRecDepth 100000 in
set_option maxHeartbeats 4000000 in
theorem iAnswerOk_any (n num : Int) (ok : Bool) (es : List EdgeV) (ls : List Int) (k : Nat) (a : Option Addr) (c : Nat) (hk : k ≤ 1048576) (k' : Nat) (a' : Option Addr) (c' : Nat) (hk' : k' ≤ 1048576) (w : World) (h : Es w w.heap.size a k es) (h' : Is w w.heap.size a' k' ls) :
    Calls Tryz.prog 108 #[.int .i64 n, ansV num ok a k c a' k' c'] w fun e w' => e = .returned (.bool (aB n ⟨num, ok, es, ls⟩)) ∧ Below w.heap.size w w' := by
  unfold ansV
  have HI := hideIt vertsOk_any
  have HJ := hideIt numOk_any
  have HE : Hid (Calls Tryz.prog 131 #[.int .i64 n, .slice a k c] (w.alloc (.cells #[.int .i64 num, .bool ok, .slice a k c, .slice a' k' c'] 53)) fun e w' => e = .returned (.bool (eOk n es)) ∧ Below w.heap.size w w' ∧ w'.cell? ⟨w.heap.size, 3, none⟩ = some (.slice a' k' c') ∧ Hid (Is w' w'.heap.size a' k' ls)) :=
    (edgesOk_any n es k a c hk (w.alloc (.cells #[.int .i64 num, .bool ok, .slice a k c, .slice a' k' c'] 53)) ((h.alloc (Nat.le_refl _) _).mono (by simp))).mono fun _ _ ⟨he, hb⟩ =>
      ⟨he, (bel1 _ _).trans (hb.mono (by simp)), by rw [hb.cell (by simp)]; simp, (h'.alloc _).up hb⟩
  have HL : Hid (∀ W, Is W W.heap.size a' k' ls → Calls Tryz.prog 132 #[.int .i64 n, .slice a' k' c'] W fun e w' => e = .returned (.bool (lB n ls)) ∧ Below W.heap.size W w') := fun W hW => labelsOk_any n ls k' a' c' hk' W hW
  have B0 : Hid (Below w.heap.size w (w.alloc (.cells #[.int .i64 num, .bool ok, .slice a k c, .slice a' k' c'] 53))) := bel1 _ _
  clear h h'
  by_cases h1 : 1 ≤ n ∧ n ≤ 12
  · have r1 : decide (1 ≤ n ∧ n ≤ 12) = true := by simpa using h1
    by_cases h2 : 1 ≤ num ∧ num ≤ 100000
    · have r2 : decide (1 ≤ num ∧ num ≤ 100000) = true := by simpa using h2
      cases hE : eOk n es with
      | true =>
        rw [hE] at HE
        have HB := hideIt (aB_ls (o := ⟨num, ok, es, ls⟩) h1 h2 hE)
        generalize lB n ls = r at HL HB
        go_enter Tryz.func108, Tryz.ntmps108
        go_wp2_with (first | (go_at_call 129; refine (HI.out _ _).mono ?_; rintro e w1 ⟨rfl, rfl⟩) | (go_at_call 130; refine (HJ.out _ _).mono ?_; rintro e w1 ⟨rfl, rfl⟩) | (go_at_call 131; refine HE.out.mono ?_; rintro e w2 ⟨rfl, hb2, q3, h2'⟩) | (go_at_call 132; refine (HL.out _ h2'.out).mono ?_; rintro e w3 ⟨rfl, hb3⟩))
        go_ret
        exact ⟨rett HB.out.symm, hb2.trans (hb3.mono hb2.size)⟩
      | false =>
        rw [hE] at HE
        have HB := hideIt (aB_es (o := ⟨num, ok, es, ls⟩) hE)
        go_enter Tryz.func108, Tryz.ntmps108
        go_wp2_with (first | (go_at_call 129; refine (HI.out _ _).mono ?_; rintro e w1 ⟨rfl, rfl⟩) | (go_at_call 130; refine (HJ.out _ _).mono ?_; rintro e w1 ⟨rfl, rfl⟩) | (go_at_call 131; refine HE.out.mono ?_; rintro e w2 ⟨rfl, hb2, q3, h2'⟩))
        go_ret
        exact ⟨rett HB.out.symm, hb2⟩
    · have r2 : decide (1 ≤ num ∧ num ≤ 100000) = false := by simpa using h2
      have HB := hideIt (aB_num (n := n) (o := ⟨num, ok, es, ls⟩) h2)
      clear HE HL
      go_enter Tryz.func108, Tryz.ntmps108
      go_wp2_with (first | (go_at_call 129; refine (HI.out _ _).mono ?_; rintro e w1 ⟨rfl, rfl⟩) | (go_at_call 130; refine (HJ.out _ _).mono ?_; rintro e w1 ⟨rfl, rfl⟩))
      go_ret
      exact ⟨rett HB.out.symm, B0.out⟩
  · have r1 : decide (1 ≤ n ∧ n ≤ 12) = false := by simpa using h1
    have HB := hideIt (aB_n (o := ⟨num, ok, es, ls⟩) h1)
    clear HE HL
    go_enter Tryz.func108, Tryz.ntmps108
    go_wp2_with (first | (go_at_call 129; refine (HI.out _ _).mono ?_; rintro e w1 ⟨rfl, rfl⟩) | (go_at_call 130; refine (HJ.out _ _).mono ?_; rintro e w1 ⟨rfl, rfl⟩))
    go_ret
    exact ⟨rett HB.out.symm, B0.out⟩
end Go.Proofs.YthnibebljbljdaaGreatDoor
namespace Go.Proofs.YthnibebljbljdaaGreatDoor
open Go.RowKit Vt

theorem ed_es {e : Prop} {t : TypeId} {w w' : World} {G : Nat} {s : ByteArray} {st : Option (List UInt8)} {v : Value} {m : Nat} (h : EdAns e t w w' G s st v m) :
    ∃ (a : Option Addr) (n c : Nat) (es : List EdgeV) (st' : Option (List UInt8)), v = .slice a n c ∧ n ≤ m ∧ EB8 es ∧ w'.ownsRow w.heap.size 120 2 (.slice a n c) n (ecells es) ∧ ER st es st' ∧ RdAt e t w' G s st' ∧ w.grownBy w' (some G) := by
  obtain ⟨⟨a, n, c, es, st', h1, h2, h3, h4, h5, h6⟩, h7⟩ := h
  exact ⟨a, n, c, es, st', h1, h2, h3, h4, h5, h6, h7⟩

theorem own_block {w : World} {B T S n cap : Nat} {a : Option Addr} {xs : List Value} {W : World} (h : w.ownsRow B T S (.slice a n cap) n xs) (hb : ∀ g, B ≤ g → g < w.heap.size → W.heap[g]? = w.heap[g]?) : W.ownsRow B T S (.slice a n cap) n xs := by
  refine ⟨h.1, h.2.imp id ?_⟩
  rintro ⟨g, cp, cur, hv, hg, hc, rest⟩
  exact ⟨g, cp, cur, hv, hg, by rw [hb g hg (Array.getElem?_eq_some_iff.1 hc).1]; exact hc, rest⟩

set_option maxRecDepth 100000 in
set_option maxHeartbeats 4000000 in
theorem iReadOrder_any (n : Int) (s : ByteArray) (hs : s.size ≤ 1048576) (w : World) :
    Calls Tryz.prog 137 #[.int .i64 n, .string s] w fun e w' => ∃ r, IsO n s.data.toList r ∧ OrdAns w w' e r := by
  have HN : Hid (∀ W G st, RdAt True 200 W G s st → Calls Tryz.prog 143 #[.pointer (some ⟨G, 0, none⟩)] W fun e w' => e = .returned (.int .i64 (((nx pN st).1 : Nat) : Int)) ∧ RdAt True 200 w' G s (nx pN st).2 ∧ W.grownBy w' (some G)) := fun W G st h => rNumber_any s hs W G st h
  have HO : Hid (∀ W G st, RdAt True 200 W G s st → Calls Tryz.prog 149 #[.pointer (some ⟨G, 0, none⟩)] W fun e w' => e = .returned (.int .i64 (((nx pO st).1 : Nat) : Int)) ∧ RdAt True 200 w' G s (nx pO st).2 ∧ W.grownBy w' (some G)) := fun W G st h => rOctet_any s hs W G st h
  have HE : Hid (∀ W G st, RdAt True 200 W G s st → Calls Tryz.prog 145 #[.pointer (some ⟨G, 0, none⟩)] W fun e w' => ∃ v, e = .returned v ∧ EdAns True 200 W w' G s st v 66) := fun W G st h => rEdges_any s hs W G st h
  have HD : Hid (∀ W G st, RdAt True 200 W G s st → Calls Tryz.prog 147 #[.pointer (some ⟨G, 0, none⟩)] W fun e w' => e = .returned (.bool (endB st)) ∧ RdAt True 200 w' G s st ∧ W.grownBy w' (some G)) := fun W G st h => rEnded_any s W G st h
  have R0 : RO True 200 w (((w.alloc (.cells (oc 0 0 none 0 0 0) 55)).alloc (.cells #[.string s, .int .i64 0, .bool false] 200)).alloc (.cells (oc 0 0 none 0 0 0) 55)) (w.heap.size + 1) (w.heap.size + 2) w.heap.size s (some s.data.toList) 0 0 none 0 0 0 := by
    refine ⟨⟨0, false, ?_, by omega, .inl ⟨rfl, by simp [from_]⟩⟩, ?_, ?_, (((Below.refl _ _).alloc (Nat.le_refl _) _).alloc (by simp) _).alloc (by simp; omega) _, by omega, by omega⟩
    · rw [Below.heap_alloc _ _ _ (by simp)]
      have := heap_alloc_new (w.alloc (.cells (oc 0 0 none 0 0 0) 55)) (.cells #[.string s, .int .i64 0, .bool false] 200)
      simpa using this
    · have := heap_alloc_new ((w.alloc (.cells (oc 0 0 none 0 0 0) 55)).alloc (.cells #[.string s, .int .i64 0, .bool false] 200)) (.cells (oc 0 0 none 0 0 0) 55)
      simpa using this
    · rw [Below.heap_alloc _ _ _ (by simp; omega), Below.heap_alloc _ _ _ (by simp)]
      exact heap_alloc_new w _
  go_enter Tryz.func137, Tryz.ntmps137
  go_wp2_with (go_at_call 143; refine (HN.out _ _ _ R0.rd).mono ?_; rintro e w1 ⟨rfl, hr1, hg1⟩; refine Hid.out ?_)
  refine (show ∀ {p : Prop}, p → Hid p from fun h => h) ?_
  have R1 := R0.call hr1 hg1
  clear R0 hr1 hg1
  obtain ⟨c0, _, _, _⟩ := R1.cells
  have f0 := R1.frozen 0
  have R2 := R1.set 0 (.int .i64 (((nx pN (some s.data.toList)).1 : Nat) : Int)) rfl
  clear R1
  go_wp2_with (go_at_call 149; refine (HO.out _ _ _ R2.rd).mono ?_; rintro e w3 ⟨rfl, hr3, hg3⟩; refine Hid.out ?_)
  refine (show ∀ {p : Prop}, p → Hid p from fun h => h) ?_
  have R3 := R2.call hr3 hg3
  clear R2 hr3 hg3 c0 f0
  obtain ⟨_, c1, _, _⟩ := R3.cells
  have f1 := R3.frozen 1
  have R4 := R3.set 1 (.int .i64 (((nx pO (nx pN (some s.data.toList)).2).1 : Nat) : Int)) rfl
  clear R3
  go_wp2_with (go_at_call 143; refine (HN.out _ _ _ R4.rd).mono ?_; rintro e w5 ⟨rfl, hr5, hg5⟩; refine Hid.out ?_)
  refine (show ∀ {p : Prop}, p → Hid p from fun h => h) ?_
  have R5 := R4.call hr5 hg5
  clear R4 hr5 hg5 c1 f1
  obtain ⟨_, _, _, c3⟩ := R5.cells
  have f3 := R5.frozen 3
  have R6 := R5.set 3 (.int .i64 (((nx pN (nx pO (nx pN (some s.data.toList)).2).2).1 : Nat) : Int)) rfl
  clear R5
  go_wp2_with (go_at_call 145; refine (HE.out _ _ _ R6.rd).mono ?_; rintro e w7 ⟨v7, rfl, hA7⟩; refine Hid.out ?_)
  refine (show ∀ {p : Prop}, p → Hid p from fun h => h) ?_
  obtain ⟨a, k, c, es, st4, rfl, hk, hby, hown, hER, hr7, hg7⟩ := ed_es hA7
  have R7 := R6.call hr7 hg7
  have hz6 := R6.lt
  have hge6 := R6.bel.size
  clear R6 hr7 hg7 hA7 c3 f3
  obtain ⟨_, _, c2, _⟩ := R7.cells
  have f2 := R7.frozen 2
  have R8 := R7.set 2 (.slice a k c) rfl
  have own8 := own_block (W := w7.setCell ⟨w.heap.size + 2, 2, none⟩ (.slice a k c)) hown (fun g hg _ => heap_setCell_other _ _ _ _ (by intro h; simp at h; have := hz6.2.1; omega))
  clear R7 hown
  generalize hq1 : (((nx pN (some s.data.toList)).1 : Nat) : Int) = num at *
  generalize hq2 : (((nx pO (nx pN (some s.data.toList)).2).1 : Nat) : Int) = op at *
  generalize hq3 : (((nx pN (nx pO (nx pN (some s.data.toList)).2).2).1 : Nat) : Int) = v at *
  have HCh : Hid (Ch s.data.toList ⟨num, op, es, v⟩ st4) := ⟨_, _, _, hq1.symm, rfl, hq2.symm, rfl, hq3.symm, rfl, hER⟩
  clear hq1 hq2 hq3 hER
  generalize (w5.setCell ⟨w.heap.size + 2, 3, none⟩ (.int .i64 v)).heap.size = B at own8 hz6 hge6
  have own8 := hideIt own8
  go_wp2_with (go_at_call 147; refine (HD.out _ _ _ R8.rd).mono ?_; rintro e w9 ⟨rfl, hr9, hg9⟩; refine Hid.out ?_)
  refine (show ∀ {p : Prop}, p → Hid p from fun h => h) ?_
  have R9 := R8.call hr9 hg9
  have own9 : Hid (w9.ownsRow B 120 2 (.slice a k c) k (ecells es)) := own_block own8.out (fun g hg hlt => hg9.block g hlt (by simp; have := hz6.1; omega))
  clear R8 hr9 hg9 own8 c2 f2
  obtain ⟨q0, q1, q2, q3⟩ := R9.cells
  obtain ⟨r0, r1, r2, r3⟩ := R9.cellsR
  have g0 := R9.frozenR 0
  have g1 := R9.frozenR 1
  have g2 := R9.frozenR 2
  have g3 := R9.frozenR 3
  cases hE : endB st4 with
  | false =>
    have HI : Hid (IsO n s.data.toList none) := IsO.no HCh.out (.inl (fun h => by rw [(endB_iff st4).2 h] at hE; cases hE))
    have HB := hideIt R9.bel
    clear R9 hE q0 q1 q2 q3
    go_wp2
    refine bodyPost_ret (v := .tuple #[ordV 0 0 none 0 0 0, .bool false]) (by simp [results, Tryz.results137, go_sem, r0, r1, r2, r3]) rfl ⟨none, HI.out, none, 0, 0, rfl, ⟨rfl, .inl ⟨rfl, rfl⟩⟩, by omega, ?_⟩
    exact (((HB.out.setCell (Nat.le_refl _) _).setCell (Nat.le_refl _) _).setCell (Nat.le_refl _) _).setCell (Nat.le_refl _) _
  | true =>
    have hE := (endB_iff st4).1 hE
    subst hE
    have HOk := hideIt (iOrderOk_any n num op es v k a c (by omega) w9 (Es_of_own own9.out))
    unfold ordV at HOk
    cases hB : oB n ⟨num, op, es, v⟩ with
    | false =>
      rw [hB] at HOk
      have HI : Hid (IsO n s.data.toList none) := IsO.no HCh.out (.inr hB)
      have HR := hideIt R9
      clear R9 hB r0 r1 r2 r3 g0 g1 g2 g3
      go_wp2_with (go_at_call 111; refine HOk.out.mono ?_; rintro e w10 ⟨rfl, hb10⟩; refine Hid.out ?_)
      refine (show ∀ {p : Prop}, p → Hid p from fun h => h) ?_
      have R10 := HR.out.below hb10
      obtain ⟨r0, r1, r2, r3⟩ := R10.cellsR
      have g0 := R10.frozenR 0
      have g1 := R10.frozenR 1
      have g2 := R10.frozenR 2
      have g3 := R10.frozenR 3
      have HB := hideIt R10.bel
      clear R10 q0 q1 q2 q3 hb10
      go_wp2
      refine bodyPost_ret (v := .tuple #[ordV 0 0 none 0 0 0, .bool false]) (by simp [results, Tryz.results137, go_sem, r0, r1, r2, r3]) rfl ⟨none, HI.out, none, 0, 0, rfl, ⟨rfl, .inl ⟨rfl, rfl⟩⟩, by omega, ?_⟩
      exact (((HB.out.setCell (Nat.le_refl _) _).setCell (Nat.le_refl _) _).setCell (Nat.le_refl _) _).setCell (Nat.le_refl _) _
    | true =>
      rw [hB] at HOk
      have HI : Hid (IsO n s.data.toList (some ⟨num, op, es, v⟩)) := IsO.yes HCh.out hB
      have HR := hideIt R9
      clear R9 hB r0 r1 r2 r3 g0 g1 g2 g3
      go_wp2_with (go_at_call 111; refine HOk.out.mono ?_; rintro e w10 ⟨rfl, hb10⟩; refine Hid.out ?_)
      refine (show ∀ {p : Prop}, p → Hid p from fun h => h) ?_
      have R10 := HR.out.below hb10
      have own10 : Hid (w10.ownsRow B 120 2 (.slice a k c) k (ecells es)) := own_block own9.out (fun g _ hlt => hb10.block g hlt)
      clear q0 q1 q2 q3
      obtain ⟨q0, q1, q2, q3⟩ := R10.cells
      obtain ⟨r0, r1, r2, r3⟩ := R10.cellsR
      have g0 := R10.frozenR 0
      have g1 := R10.frozenR 1
      have g2 := R10.frozenR 2
      have g3 := R10.frozenR 3
      have HB := hideIt R10.bel
      clear R10 hb10
      go_wp2
      refine bodyPost_ret (v := .tuple #[ordV num op a k c v, .bool true]) (by simp [results, Tryz.results137, go_sem, r0, r1, r2, r3]) rfl ⟨some ⟨num, op, es, v⟩, HI.out, a, k, c, rfl, ?_, by omega, ?_⟩
      · refine own_mono (B := B) ?_ hge6
        refine own_block own10.out (fun g hg hlt => ?_)
        have hne : g ≠ w.heap.size := by have := hz6.2.2; omega
        rw [heap_setCell_other _ _ _ _ (by exact hne), heap_setCell_other _ _ _ _ (by exact hne), heap_setCell_other _ _ _ _ (by exact hne), heap_setCell_other _ _ _ _ (by exact hne)]
      · exact (((HB.out.setCell (Nat.le_refl _) _).setCell (Nat.le_refl _) _).setCell (Nat.le_refl _) _).setCell (Nat.le_refl _) _
end Go.Proofs.YthnibebljbljdaaGreatDoor
namespace Go.Proofs.YthnibebljbljdaaGreatDoor
open Go.RowKit Vt

abbrev ac (num : Int) (ok : Bool) (a : Option Addr) (k c : Nat) (a' : Option Addr) (k' c' : Nat) : Array Value := #[.int .i64 num, .bool ok, .slice a k c, .slice a' k' c']
def szA (n m : Nat) : Int := if n + m ≤ 1048576 then 1048576 - (n : Int) - (m : Int) else -1

theorem szAnswer_any (num : Int) (ok : Bool) (n : Nat) (a : Option Addr) (c : Nat) (hn : n ≤ maxLen) (m : Nat) (a' : Option Addr) (c' : Nat) (hm : m ≤ maxLen) (w : World) :
    Calls Tryz.prog 33 #[ansV num ok a n c a' m c', .int .i64 1048576] w fun e w' => e = .returned (.int .i64 (szA n m)) ∧ Below w.heap.size w w' := by
  unfold maxLen at hn hm
  unfold ansV szA
  by_cases g : n ≤ 1048576
  · have d1 : decide (1048576 - (n : Int) < 0) = false := by simp; omega
    by_cases g2 : n + m ≤ 1048576
    · rw [if_pos g2]
      have d2 : decide (1048576 - (n : Int) - (m : Int) < 0) = false := by simp; omega
      go_enter Tryz.func33, Tryz.ntmps33
      go_wp2
      go_ret
      exact ⟨rfl, bel1 _ _⟩
    · rw [if_neg g2]
      have d2 : decide (1048576 - (n : Int) - (m : Int) < 0) = true := by simp; omega
      go_enter Tryz.func33, Tryz.ntmps33
      go_wp2
      go_ret
      exact ⟨rfl, bel1 _ _⟩
  · rw [if_neg (by omega)]
    have d1 : decide (1048576 - (n : Int) < 0) = true := by simp; omega
    go_enter Tryz.func33, Tryz.ntmps33
    go_wp2
    go_ret
    exact ⟨rfl, bel1 _ _⟩

theorem own_up10 {w w' : World} {B e s n : Nat} {v : Value} {xs : List Value} (h : w.ownsRow B e s v n xs) (hb : Below w.heap.size w w') : w'.ownsRow B e s v n xs := by
  refine ⟨h.1, h.2.imp id ?_⟩
  rintro ⟨g, cap, cur, hv, hg, hc, rest⟩
  exact ⟨g, cap, cur, hv, hg, by rw [hb.block g (Array.getElem?_eq_some_iff.1 hc).1]; exact hc, rest⟩

set_option maxHeartbeats 1000000 in
theorem toAnswer_any (num : Int) (ok : Bool) (fs : List EdgeV) (ls : List Int) (n : Nat) (a : Option Addr) (cap : Nat) (hn : n ≤ 1048576) (m : Nat) (a' : Option Addr) (cap' : Nat) (hm : m ≤ 1048576) (w : World) (hfs : Es w w.heap.size a n fs) (hls : Is w w.heap.size a' m ls) :
    Calls Tryz.prog 38 #[ansV num ok a n cap a' m cap'] w fun e w' => ∃ g g', e = .returned (ansV num ok (some ⟨g, 0, none⟩) n n (some ⟨g', 0, none⟩) m m) ∧ w'.ownsRow w.heap.size 120 2 (.slice (some ⟨g, 0, none⟩) n n) n (ecells fs) ∧ w'.ownsRow w.heap.size 3 1 (.slice (some ⟨g', 0, none⟩) m m) m (ic ls) ∧ Below w.heap.size w w' := by
  unfold ansV
  have hb3 := bel3 w (.cells #[.int .i64 num, .bool ok, .slice a n cap, .slice a' m cap'] 36) (.cells #[.int .i64 0, .bool false, .slice none 0 0, .slice none 0 0] 53) (.cells #[.int .i64 num, .bool ok, .slice none 0 0, .slice none 0 0] 53)
  have HT := hideIt (toEdgeS_any fs n a cap hn _ (hfs.up hb3))
  have HI : Hid (∀ W, Below w.heap.size w W → Calls Tryz.prog 74 #[.slice a' m cap'] W fun e w' => ∃ g, e = .returned (.slice (some ⟨g, 0, none⟩) m m) ∧ w'.ownsRow W.heap.size 3 1 (.slice (some ⟨g, 0, none⟩) m m) m (ic ls) ∧ Below W.heap.size W w') := fun W hW => toIntS_any ls m a' cap' hm W (hls.up hW)
  have HB3 := hideIt hb3
  clear hfs hls hb3
  go_enter Tryz.func38, Tryz.ntmps38
  go_wp2_with (go_at_call 73; refine HT.out.mono ?_; rintro e w1 ⟨g, rfl, hown, hb1⟩; refine Hid.out ?_)
  refine (show ∀ {p : Prop}, p → Hid p from fun h => h) ?_
  obtain ⟨hc, hf⟩ := bcell hb1
  have hgl := hown.lt g rfl
  have hz := hb1.size
  simp at hz hgl
  have hB1 := HB3.out.trans (hb1.mono (by simp; omega))
  have hx : w1.heap[w.heap.size]? = some (.cells #[.int .i64 num, .bool ok, .slice a n cap, .slice a' m cap'] 36 (0, 0)) := by
    rw [hb1.block _ (by simp; omega), Below.heap_alloc _ _ _ (by simp; omega), Below.heap_alloc _ _ _ (by simp)]
    exact heap_alloc_new w _
  have x0 : w1.cell? ⟨w.heap.size, 3, none⟩ = some (.slice a' m cap') := by rw [cell_of_row w1 _ 3 _ _ _ hx]; rfl
  have hB2 : Below w.heap.size w (w1.setCell ⟨w.heap.size + 1 + 1, 2, none⟩ (.slice (some ⟨g, 0, none⟩) n n)) := hB1.setCell (by simp; omega) _
  have hb2 : w1.heap[w.heap.size + 1 + 1]? = some (.cells #[.int .i64 num, .bool ok, .slice none 0 0, .slice none 0 0] 53 (0, 0)) := by
    rw [hb1.block _ (by simp)]
    have := heap_alloc_new ((w.alloc (.cells #[.int .i64 num, .bool ok, .slice a n cap, .slice a' m cap'] 36)).alloc (.cells #[.int .i64 0, .bool false, .slice none 0 0, .slice none 0 0] 53)) (.cells #[.int .i64 num, .bool ok, .slice none 0 0, .slice none 0 0] 53)
    simpa using this
  have hr2 : w1.heap[w.heap.size + 1]? = some (.cells #[.int .i64 0, .bool false, .slice none 0 0, .slice none 0 0] 53 (0, 0)) := by
    rw [hb1.block _ (by simp), Below.heap_alloc _ _ _ (by simp)]
    have := heap_alloc_new (w.alloc (.cells #[.int .i64 num, .bool ok, .slice a n cap, .slice a' m cap'] 36)) (.cells #[.int .i64 0, .bool false, .slice none 0 0, .slice none 0 0] 53)
    simpa using this
  have y2 : w1.cell? ⟨w.heap.size + 1 + 1, 2, none⟩ = some (.slice none 0 0) := by rw [cell_of_row w1 _ 2 _ _ _ hb2]; rfl
  have z2 : w1.frozen? ⟨w.heap.size + 1 + 1, 2, none⟩ = false := frozen_of_row w1 _ 2 _ _ hb2
  have hown2 := own_block (W := w1.setCell ⟨w.heap.size + 1 + 1, 2, none⟩ (.slice (some ⟨g, 0, none⟩) n n)) hown (fun q hq _ => heap_setCell_other _ _ _ _ (by simp at hq ⊢; omega))
  have hb22 : (w1.setCell ⟨w.heap.size + 1 + 1, 2, none⟩ (.slice (some ⟨g, 0, none⟩) n n)).heap[w.heap.size + 1 + 1]? = some (.cells #[.int .i64 num, .bool ok, .slice (some ⟨g, 0, none⟩) n n, .slice none 0 0] 53 (0, 0)) := by
    rw [heap_setCell_same w1 _ 2 _ _ _ hb2]; rfl
  have hr22 : (w1.setCell ⟨w.heap.size + 1 + 1, 2, none⟩ (.slice (some ⟨g, 0, none⟩) n n)).heap[w.heap.size + 1]? = some (.cells #[.int .i64 0, .bool false, .slice none 0 0, .slice none 0 0] 53 (0, 0)) := by
    rw [heap_setCell_other _ _ _ _ (by simp)]; exact hr2
  have HW2 := hideIt hown2
  have HB2 := hideIt hB2
  have Hb22 := hideIt hb22
  have Hr22 := hideIt hr22
  have hz2 : (w1.setCell ⟨w.heap.size + 1 + 1, 2, none⟩ (.slice (some ⟨g, 0, none⟩) n n)).heap.size = w1.heap.size := by simp [World.setCell]
  clear hc hf hown hb1 HT hB1 hb2 hr2 hx hown2 hB2 hb22 hr22
  go_wp2_with (go_at_call 74; refine (HI.out _ HB2.out).mono ?_; rintro e w2 ⟨g', rfl, hown', hb2⟩; refine Hid.out ?_)
  refine (show ∀ {p : Prop}, p → Hid p from fun h => h) ?_
  have hbx : w2.heap[w.heap.size + 1 + 1]? = some (.cells #[.int .i64 num, .bool ok, .slice (some ⟨g, 0, none⟩) n n, .slice none 0 0] 53 (0, 0)) := by
    rw [hb2.block _ (by rw [hz2]; omega)]; exact Hb22.out
  have hrx : w2.heap[w.heap.size + 1]? = some (.cells #[.int .i64 0, .bool false, .slice none 0 0, .slice none 0 0] 53 (0, 0)) := by
    rw [hb2.block _ (by rw [hz2]; omega)]; exact Hr22.out
  have e0 : w2.cell? ⟨w.heap.size + 1 + 1, 0, none⟩ = some (.int .i64 num) := by rw [cell_of_row w2 _ 0 _ _ _ hbx]; rfl
  have e1 : w2.cell? ⟨w.heap.size + 1 + 1, 1, none⟩ = some (.bool ok) := by rw [cell_of_row w2 _ 1 _ _ _ hbx]; rfl
  have e2 : w2.cell? ⟨w.heap.size + 1 + 1, 2, none⟩ = some (.slice (some ⟨g, 0, none⟩) n n) := by rw [cell_of_row w2 _ 2 _ _ _ hbx]; rfl
  have e3 : w2.cell? ⟨w.heap.size + 1 + 1, 3, none⟩ = some (.slice none 0 0) := by rw [cell_of_row w2 _ 3 _ _ _ hbx]; rfl
  have fz : w2.frozen? ⟨w.heap.size + 1 + 1, 3, none⟩ = false := frozen_of_row w2 _ 3 _ _ hbx
  have r0 : w2.cell? ⟨w.heap.size + 1, 0, none⟩ = some (.int .i64 0) := by rw [cell_of_row w2 _ 0 _ _ _ hrx]; rfl
  have r1 : w2.cell? ⟨w.heap.size + 1, 1, none⟩ = some (.bool false) := by rw [cell_of_row w2 _ 1 _ _ _ hrx]; rfl
  have r2 : w2.cell? ⟨w.heap.size + 1, 2, none⟩ = some (.slice none 0 0) := by rw [cell_of_row w2 _ 2 _ _ _ hrx]; rfl
  have r3 : w2.cell? ⟨w.heap.size + 1, 3, none⟩ = some (.slice none 0 0) := by rw [cell_of_row w2 _ 3 _ _ _ hrx]; rfl
  have s0 := frozen_of_row w2 _ 0 _ _ hrx
  have s1 := frozen_of_row w2 _ 1 _ _ hrx
  have s2 := frozen_of_row w2 _ 2 _ _ hrx
  have s3 := frozen_of_row w2 _ 3 _ _ hrx
  have HBx := hideIt (HB2.out.trans (hb2.mono HB2.out.size))
  have HOx := hideIt (own_up10 HW2.out hb2)
  have HIx := hideIt hown'
  clear hbx hrx hown' hb2 HW2 HB2 Hb22 Hr22 HI
  go_wp2
  refine bodyPost_ret (v := .agg #[.int .i64 num, .bool ok, .slice (some ⟨g, 0, none⟩) n n, .slice (some ⟨g', 0, none⟩) m m]) (by simp [results, Tryz.results38, go_sem, r0, r1, r2, r3]) rfl ⟨g, g', rfl, ?_, ?_, ?_⟩
  · refine own_mono (B := w.heap.size + 1 + 1 + 1) ?_ (by omega)
    have H0 : w2.ownsRow (w.heap.size + 1 + 1 + 1) 120 2 (.slice (some ⟨g, 0, none⟩) n n) n (ecells fs) := by have := HOx.out; simpa using this
    repeat refine own_setOther ?_ _ _ _ (by omega)
    exact H0
  · have hg' := (HIx.out.lt g' rfl).1
    rw [hz2] at hg'
    have H0 : w2.ownsRow w.heap.size 3 1 (.slice (some ⟨g', 0, none⟩) m m) m (ic ls) := own_mono HIx.out (by rw [hz2]; omega)
    repeat refine own_setOther ?_ _ _ _ (by omega)
    exact H0
  · have B3 := HBx.out
    repeat refine Below.setCell ?_ (by simp; try omega) _
    exact B3
end Go.Proofs.YthnibebljbljdaaGreatDoor
namespace Go.Proofs.YthnibebljbljdaaGreatDoor
open Go.RowKit Vt

theorem eqAnswer_same (num : Int) (ok : Bool) (fs : List EdgeV) (ls : List Int) (n : Nat) (a b : Option Addr) (c d : Nat) (hn : n ≤ 1048576) (m : Nat) (a' b' : Option Addr) (c' d' : Nat) (hm : m ≤ 1048576) (w : World)
    (h1 : Es w w.heap.size a n fs) (h2 : Es w w.heap.size b n fs) (h3 : Is w w.heap.size a' m ls) (h4 : Is w w.heap.size b' m ls) :
    Calls Tryz.prog 45 #[ansV num ok a n c a' m c', ansV num ok b n d b' m d'] w fun e w' => e = .returned (.bool true) ∧ Below w.heap.size w w' := by
  unfold ansV
  have B2 : Below w.heap.size w ((w.alloc (.cells #[.int .i64 num, .bool ok, .slice a n c, .slice a' m c'] 53)).alloc (.cells #[.int .i64 num, .bool ok, .slice b n d, .slice b' m d'] 53)) := (bel1 _ _).alloc (by simp) _
  have HT := hideIt (eqEdgeS_same fs n a b c d hn _ (h1.up B2) (h2.up B2))
  have HI : Hid (∀ W, Below w.heap.size w W → Calls Tryz.prog 88 #[.slice a' m c', .slice b' m d'] W fun e w' => e = .returned (.bool true) ∧ Below W.heap.size W w') := fun W hW => eqIntS_same ls m a' b' c' d' hm W (h3.up hW) (h4.up hW)
  have HB2 := hideIt B2
  have dr : (ok != ok) = false := by simp
  clear h1 h2 h3 h4 B2
  go_enter Tryz.func45, Tryz.ntmps45
  go_wp2_with (go_at_call 87; refine HT.out.mono ?_; rintro e w1 ⟨rfl, hb1⟩; refine Hid.out ?_)
  refine (show ∀ {p : Prop}, p → Hid p from fun h => h) ?_
  obtain ⟨hc, hf⟩ := bcell hb1
  have HB := hideIt (HB2.out.trans (hb1.mono (by simp; omega)))
  have q0 : w1.cell? ⟨w.heap.size, 3, none⟩ = some (.slice a' m c') := by rw [hc _ _ (by simp; omega)]; simp
  have q1 : w1.cell? ⟨w.heap.size + 1, 3, none⟩ = some (.slice b' m d') := by rw [hc _ _ (by simp)]; simp
  clear hc hf hb1 HT
  go_wp2_with (go_at_call 88; refine (HI.out _ HB.out).mono ?_; rintro e w2 ⟨rfl, hb2⟩)
  go_ret
  exact ⟨rfl, HB.out.trans (hb2.mono HB.out.size)⟩

/-- rows of different sorts lie in different blocks -/
theorem rows_ne {w : World} {B B' S S' n n' : Nat} {e e' : TypeId} {v v' : Value} {xs xs' : List Value} (h : w.ownsRow B e S v n xs) (h' : w.ownsRow B' e' S' v' n' xs') (hne : e ≠ e') (g : Nat) (hg : v.ownBlock = some g) : v'.ownBlock ≠ some g := by
  intro hg'
  rcases h.2 with ⟨rfl, _⟩ | ⟨q, cap, cur, rfl, _, hc, _⟩
  · simp [Value.ownBlock] at hg
  · rcases h'.2 with ⟨rfl, _⟩ | ⟨q', cap', cur', rfl, _, hc', _⟩
    · simp [Value.ownBlock] at hg'
    · simp [Value.ownBlock] at hg hg'
      subst hg hg'
      rw [hc] at hc'
      simp at hc'
      exact hne hc'.2

/-- edges are marked, or there are none -/
theorem markE_any {w : World} {base n c k0 : Nat} {a : Option Addr} {fs : List EdgeV} (hn : n ≤ 1048576) (hk : k0 ≤ 10000000) (h : w.ownsRow base 120 2 (.slice a n c) n (ecells fs)) :
    Calls Tryz.prog 28 #[.slice a n c, .int .i64 (k0 : Int)] w fun e w' => e = .returned (.int .i64 ((k0 : Int) + (n : Int) * 2)) ∧ w'.ownsRow base 120 2 (.slice a n c) n (ecells (marks k0 n)) ∧ w.grownBy w' ((Value.slice a n c).ownBlock) := by
  by_cases h0 : n = 0
  · subst h0
    refine (markEdgeS_zero a c k0 w).mono ?_
    rintro e v ⟨rfl, rfl⟩
    refine ⟨by simp, ?_, gr_refl _ _⟩
    have hl := h.1
    rw [ecells_length] at hl
    have : fs = [] := List.length_eq_zero_iff.1 (by omega)
    subst this
    exact h
  · rcases h.2 with ⟨_, h3⟩ | ⟨g, cap, cur, hv, hg, _⟩
    · omega
    · simp at hv
      obtain ⟨rfl, rfl⟩ := hv
      exact markEdgeS_any base g c n k0 fs hn hk w h
theorem markI_any {w : World} {base n c k0 : Nat} {a : Option Addr} {ls : List Int} (hn : n ≤ 1048576) (hk : k0 ≤ 10000000) (h : w.ownsRow base 3 1 (.slice a n c) n (ic ls)) :
    Calls Tryz.prog 29 #[.slice a n c, .int .i64 (k0 : Int)] w fun e w' => e = .returned (.int .i64 ((k0 : Int) + (n : Int))) ∧ w'.ownsRow base 3 1 (.slice a n c) n (ic (imarks k0 n)) ∧ w.grownBy w' ((Value.slice a n c).ownBlock) := by
  by_cases h0 : n = 0
  · subst h0
    refine (markIntS_zero a c k0 w).mono ?_
    rintro e v ⟨rfl, rfl⟩
    refine ⟨by simp, ?_, gr_refl _ _⟩
    have hl := h.1
    rw [ic_len] at hl
    have : ls = [] := List.length_eq_zero_iff.1 (by omega)
    subst this
    exact h
  · rcases h.2 with ⟨_, h3⟩ | ⟨g, cap, cur, hv, hg, _⟩
    · omega
    · simp at hv
      obtain ⟨rfl, rfl⟩ := hv
      exact markIntS_any base g c n k0 _ hn hk w h

/-- an answer that is ours: its box, its edges and its labels lie in blocks lo .. hi -/
structure ABox (u : World) (lo hi b : Nat) (num : Int) (ok : Bool) (a : Option Addr) (m c : Nat) (a' : Option Addr) (m' c' : Nat) (gs : List EdgeV) (ls : List Int) : Prop where
  box : u.heap[b]? = some (.cells (ac num ok a m c a' m' c') 53 (0, 0))
  own : u.ownsRow lo 120 2 (.slice a m c) m (ecells gs)
  own2 : u.ownsRow lo 3 1 (.slice a' m' c') m' (ic ls)
  least : lo ≤ b
  most : b < hi
  row : ∀ g, (Value.slice a m c).ownBlock = some g → g < b
  row2 : ∀ g, (Value.slice a' m' c').ownBlock = some g → g < b
  there : hi ≤ u.heap.size

section
variable {u v : World} {lo hi b l2 h2 : Nat} {num : Int} {ok : Bool} {a : Option Addr} {m c : Nat} {a' : Option Addr} {m' c' : Nat} {gs : List EdgeV} {ls : List Int}
theorem ABox.len (h : ABox u lo hi b num ok a m c a' m' c' gs ls) : gs.length = m ∧ ls.length = m' := by
  have h1 := h.own.1; have h3 := h.own2.1; rw [ecells_length] at h1; rw [ic_len] at h3; omega
theorem ABox.es (h : ABox u lo hi b num ok a m c a' m' c' gs ls) : Es u u.heap.size a m gs := Es_of_own h.own
theorem ABox.is (h : ABox u lo hi b num ok a m c a' m' c' gs ls) : Is u u.heap.size a' m' ls := Is_of_own h.own2
theorem ABox.rng (h : ABox u lo hi b num ok a m c a' m' c' gs ls) (hr : Rng l2 h2 u v) (ho : hi ≤ l2 ∨ h2 ≤ lo) : ABox v lo hi b num ok a m c a' m' c' gs ls := by
  have hth := h.there
  have hb := h.least
  have hb' := h.most
  have g1 : ∀ k, lo ≤ k → k < hi → v.heap[k]? = u.heap[k]? := fun k h3 h4 => hr.block k (by omega) (by omega)
  refine ⟨?_, ?_, ?_, hb, hb', h.row, h.row2, Nat.le_trans hth hr.size⟩
  · rw [g1 b hb hb']; exact h.box
  · refine ⟨h.own.1, ?_⟩
    rcases h.own.2 with h3 | ⟨g, cap, cur, hv, hg, hcur, hrest⟩
    · exact .inl h3
    · refine .inr ⟨g, cap, cur, hv, hg, ?_, hrest⟩
      rw [g1 g hg (by have := h.row g (by rw [hv]; rfl); omega)]
      exact hcur
  · refine ⟨h.own2.1, ?_⟩
    rcases h.own2.2 with h3 | ⟨g, cap, cur, hv, hg, hcur, hrest⟩
    · exact .inl h3
    · refine .inr ⟨g, cap, cur, hv, hg, ?_, hrest⟩
      rw [g1 g hg (by have := h.row2 g (by rw [hv]; rfl); omega)]
      exact hcur
theorem ABox.up (h : ABox u lo hi b num ok a m c a' m' c' gs ls) (hb : Below u.heap.size u v) : ABox v lo hi b num ok a m c a' m' c' gs ls :=
  h.rng (l2 := hi) (h2 := hi) (Rng.of_below hb) (.inl (Nat.le_refl _))
theorem ABox.cells (h : ABox u lo hi b num ok a m c a' m' c' gs ls) : u.cell? ⟨b, 0, none⟩ = some (.int .i64 num) ∧ u.cell? ⟨b, 1, none⟩ = some (.bool ok) ∧ u.cell? ⟨b, 2, none⟩ = some (.slice a m c) ∧ u.cell? ⟨b, 3, none⟩ = some (.slice a' m' c') :=
  ⟨by rw [cell_of_row u b 0 _ _ _ h.box]; rfl, by rw [cell_of_row u b 1 _ _ _ h.box]; rfl, by rw [cell_of_row u b 2 _ _ _ h.box]; rfl, by rw [cell_of_row u b 3 _ _ _ h.box]; rfl⟩
theorem ABox.laid (hl : lo ≤ u.heap.size) (ho : u.ownsRow lo 120 2 (.slice a m c) m (ecells gs)) (ho2 : u.ownsRow lo 3 1 (.slice a' m' c') m' (ic ls)) :
    ABox (u.alloc (.cells (ac num ok a m c a' m' c') 53)) lo (u.heap.size + 1) u.heap.size num ok a m c a' m' c' gs ls :=
  ⟨heap_alloc_new u _, ho.alloc _, ho2.alloc _, hl, by omega, fun g hg => (ho.lt g hg).2, fun g hg => (ho2.lt g hg).2, by simp⟩

theorem gr_rng {w w' : World} {row : Option Nat} {lo b : Nat} (h : w.grownBy w' row) (h1 : ∀ g, row = some g → lo ≤ g ∧ g < b) : Rng lo b w w' :=
  ⟨h.os, h.tape, h.output, h.size, fun k hk ho => h.block k hk (fun e => by have := h1 k e.symm; omega)⟩
theorem Rng.trans {u v x : World} {lo b : Nat} (h : Rng lo b u v) (k : Rng lo b v x) : Rng lo b u x :=
  ⟨k.os.trans h.os, k.tape.trans h.tape, k.output.trans h.output, Nat.le_trans h.size k.size, fun i hi ho => (k.block i (Nat.lt_of_lt_of_le hi h.size) ho).trans (h.block i hi ho)⟩

theorem own_kept {w w' : World} {B e s n : Nat} {v : Value} {xs : List Value} {row : Option Nat} (h : w.ownsRow B e s v n xs) (hg : w.grownBy w' row) (hne : ∀ g, row = some g → v.ownBlock ≠ some g) : w'.ownsRow B e s v n xs :=
  h.kept hg (by
    cases row with
    | none => cases hv : v.ownBlock <;> simp
    | some g => exact .inr (hne g rfl))

set_option maxHeartbeats 1000000 in
/-- it is marked -/
theorem ABox.mark (h : ABox u lo hi b num ok a m c a' m' c' gs ls) (k0 : Nat) (hm : m ≤ 100000) (hm' : m' ≤ 100000) (h1 : k0 ≤ 100000) :
    Calls Tryz.prog 48 #[ansV num ok a m c a' m' c', .int .i64 (k0 : Int)] u fun e v => e = .returned (.int .i64 ((k0 : Int) + (m : Int) * 2 + (m' : Int))) ∧ ABox v lo hi b num ok a m c a' m' c' (marks k0 m) (imarks (k0 + m * 2) m') ∧ Rng lo b u v := by
  unfold ansV
  have hth := h.there
  have hbm := h.most
  have HE := hideIt (markE_any (by omega) (by omega) (h.own.alloc (.cells #[.int .i64 num, .bool ok, .slice a m c, .slice a' m' c'] 53)) (k0 := k0))
  have HI : Hid (∀ W : World, W.ownsRow lo 3 1 (.slice a' m' c') m' (ic ls) → Calls Tryz.prog 29 #[.slice a' m' c', .int .i64 ((k0 : Int) + (m : Int) * 2)] W fun e w' => e = .returned (.int .i64 ((k0 : Int) + (m : Int) * 2 + (m' : Int))) ∧ w'.ownsRow lo 3 1 (.slice a' m' c') m' (ic (imarks (k0 + m * 2) m')) ∧ W.grownBy w' ((Value.slice a' m' c').ownBlock)) := fun W hW => by
    have := markI_any (k0 := k0 + m * 2) (by omega) (by omega) hW
    simpa using this
  have HA := hideIt h
  clear h
  go_enter Tryz.func48, Tryz.ntmps48
  go_wp2_with (go_at_call 28; refine HE.out.mono ?_; rintro e w1 ⟨rfl, o1, g1⟩; refine Hid.out ?_)
  refine (show ∀ {p : Prop}, p → Hid p from fun h => h) ?_
  have hq : w1.heap[u.heap.size]? = some (.cells #[.int .i64 num, .bool ok, .slice a m c, .slice a' m' c'] 53 (0, 0)) := by
    rw [g1.block _ (by simp) (fun e => by have := HA.out.row _ e.symm; omega)]
    exact heap_alloc_new u _
  have q3 : w1.cell? ⟨u.heap.size, 3, none⟩ = some (.slice a' m' c') := by rw [cell_of_row w1 _ 3 _ _ _ hq]; rfl
  have o2 : w1.ownsRow lo 3 1 (.slice a' m' c') m' (ic ls) := own_kept (HA.out.own2.alloc _) g1 (fun g hg => rows_ne HA.out.own HA.out.own2 (by decide) g hg)
  have HO1 := hideIt o1
  have HO2 := hideIt o2
  have HG1 := hideIt (gr_trans (World.grownBy_alloc u (.cells #[.int .i64 num, .bool ok, .slice a m c, .slice a' m' c'] 53) _) g1)
  clear o1 o2 g1 hq HE
  go_wp2_with (go_at_call 29; refine (HI.out _ HO2.out).mono ?_; rintro e w2 ⟨rfl, o3, g2⟩)
  go_ret
  refine ⟨rfl, ⟨?_, ?_, o3, HA.out.least, hbm, HA.out.row, HA.out.row2, Nat.le_trans hth (Nat.le_trans HG1.out.size g2.size)⟩, ?_⟩
  · rw [g2.block b (by have := HG1.out.size; omega) (fun e => by have := HA.out.row2 _ e.symm; omega), HG1.out.block b (by omega) (fun e => by have := HA.out.row _ e.symm; omega)]
    exact HA.out.box
  · exact own_kept HO1.out g2 (fun g hg => rows_ne HO2.out HO1.out (by decide) g hg)
  · refine (gr_rng HG1.out (fun g hg => ⟨(HA.out.own.lt g hg).1, HA.out.row g hg⟩)).trans (gr_rng g2 (fun g hg => ⟨(HA.out.own2.lt g hg).1, HA.out.row2 g hg⟩))

theorem ABox.eq {lo' hi' b' : Nat} {d : Option Addr} {n e : Nat} {d' : Option Addr} {n' e' : Nat} (h : ABox u lo hi b num ok a m c a' m' c' gs ls) (h' : ABox u lo' hi' b' num ok d n e d' n' e' gs ls) (hm : m ≤ 1048576) (hm' : m' ≤ 1048576) :
    Calls Tryz.prog 45 #[ansV num ok a m c a' m' c', ansV num ok d n e d' n' e'] u fun e v => e = .returned (.bool true) ∧ Below u.heap.size u v := by
  have e1 : n = m := by rw [← h.len.1, ← h'.len.1]
  have e2 : n' = m' := by rw [← h.len.2, ← h'.len.2]
  subst e1 e2
  exact eqAnswer_same num ok gs ls n a d c e hm n' a' d' c' e' hm' u h.es h'.es h.is h'.is
end
end Go.Proofs.YthnibebljbljdaaGreatDoor
