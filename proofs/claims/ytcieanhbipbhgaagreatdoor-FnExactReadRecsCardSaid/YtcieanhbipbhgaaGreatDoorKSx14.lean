/- The specification's RecText. -/
import Derived.Test.YtcieanhbipbhgaaGreatDoorKRp14
import Derived.Test.YtcieanhbipbhgaaGreatDoorKRow10
import Derived.Test.YtcieanhbipbhgaaGreatDoorKBq14
import Derived.Test.YtcieanhbipbhgaaGreatDoorKSOu10
namespace Go.Proofs.YtcieanhbipbhgaaGreatDoor
open Go.RowKit Vt

noncomputable def rtV (n : Int) (r : RecV) : Value := @ite _ (RecB n r) (Classical.propDecidable _) (.tuple #[.string (str (rText r)), .bool true]) (.tuple #[.string ⟨#[]⟩, .bool false])
theorem rtV_yes {n : Int} {r : RecV} (h : RecB n r) : rtV n r = .tuple #[.string (str (rText r)), .bool true] := by unfold rtV; rw [if_pos h]
theorem rtV_no {n : Int} {r : RecV} (h : ¬ RecB n r) : rtV n r = .tuple #[.string ⟨#[]⟩, .bool false] := by unfold rtV; rw [if_neg h]
theorem azB_iff {num : Int} {ok : Bool} {es : List EdgeV} {ls : List Int} {k k' : Nat} (h : es.length = k) (h' : ls.length = k') : azB num ok k k' = true ↔ (⟨num, ok, es, ls⟩ : AnsV) = zA := by
  unfold azB zA
  rw [decide_eq_true_eq]
  simp only [AnsV.mk.injEq]
  constructor
  · rintro ⟨h1, h2, h3, h4⟩
    exact ⟨h1, h2, List.length_eq_zero_iff.1 (by omega), List.length_eq_zero_iff.1 (by omega)⟩
  · rintro ⟨h1, h2, rfl, rfl⟩
    exact ⟨h1, h2, by simpa using h.symm, by simpa using h'.symm⟩
theorem ozB_iff {num op v : Int} {es : List EdgeV} {k : Nat} (h : es.length = k) : ozB num op k v = true ↔ (⟨num, op, es, v⟩ : OrdV) = zO := by
  unfold ozB zO
  rw [decide_eq_true_eq]
  simp only [OrdV.mk.injEq]
  constructor
  · rintro ⟨h1, h2, h3, h4⟩
    exact ⟨h1, h2, List.length_eq_zero_iff.1 (by omega), h3⟩
  · rintro ⟨h1, h2, rfl, h3⟩
    exact ⟨h1, h2, h3, by simpa using h.symm⟩
theorem kzB_iff {i o a b : Int} : kzB i o a b = true ↔ (i = 0 ∧ o = 0 ∧ a = 0 ∧ b = 0) := by unfold kzB; rw [decide_eq_true_eq]
instance (x : Int) : Decidable (N5 x) := by unfold N5; infer_instance
theorem in5 (x : Int) (w : World) : Calls Tryz.prog 26 #[.int .i64 x, .int .i64 0, .int .i64 100000] w fun e w' => e = .returned (.bool (decide (N5 x))) ∧ w' = w := by
  by_cases h : N5 x
  · rw [decide_eq_true h]; exact l01In_yes x 0 100000 h.1 h.2 w
  · rw [decide_eq_false h]
    refine l01In_no x 0 100000 ?_ w
    unfold N5 at h
    omega
set_option maxRecDepth 100000 in
set_option maxHeartbeats 4000000 in
theorem rt_other (n kind id op a b sh anum : Int) (aok : Bool) (aes : List EdgeV) (als : List Int) (onum oop : Int) (oes : List EdgeV) (ov : Int) (a1 : Option Addr) (k1 c1 : Nat) (a2 : Option Addr) (k2 c2 : Nat) (a3 : Option Addr) (k3 c3 : Nat) (w : World) (_h1 : Es w w.heap.size a1 k1 aes) (_h2 : Is w w.heap.size a2 k2 als) (_h3 : Es w w.heap.size a3 k3 oes) (_l1 : k1 ≤ 1048576) (_l2 : k2 ≤ 1048576) (_l3 : k3 ≤ 1048576) (e1 : ¬ kind = 1) (e2 : ¬ kind = 2) (e3 : ¬ kind = 3) :
    Calls Tryz.prog 25 #[.int .i64 n, .agg #[.int .i64 kind, .int .i64 id, .int .i64 op, .int .i64 a, .int .i64 b, .int .i64 sh, .int .i64 anum, .bool aok, .slice a1 k1 c1, .slice a2 k2 c2, .int .i64 onum, .int .i64 oop, .slice a3 k3 c3, .int .i64 ov]] w fun e w' => e = .returned (rtV n ⟨kind, id, op, a, b, sh, ⟨anum, aok, aes, als⟩, ⟨onum, oop, oes, ov⟩⟩) ∧ Below w.heap.size w w' := by
  have HN : Hid (rtV n ⟨kind, id, op, a, b, sh, ⟨anum, aok, aes, als⟩, ⟨onum, oop, oes, ov⟩⟩ = .tuple #[.string ⟨#[]⟩, .bool false]) := rtV_no (fun h => h.elim (fun h => e1 h.1) (fun h => h.elim (fun h => e2 h.1) (fun h => e3 h.1)))
  obtain ⟨W, hW⟩ : ∃ W, W = w.alloc (.cells #[.int .i64 kind, .int .i64 id, .int .i64 op, .int .i64 a, .int .i64 b, .int .i64 sh, .int .i64 anum, .bool aok, .slice a1 k1 c1, .slice a2 k2 c2, .int .i64 onum, .int .i64 oop, .slice a3 k3 c3, .int .i64 ov] 40) := ⟨_, rfl⟩
  have G0 : Good w W := by rw [hW]; exact (Good.refl w).alloc _
  have HX : Hid (BxQ W w.heap.size 40 #[.int .i64 kind, .int .i64 id, .int .i64 op, .int .i64 a, .int .i64 b, .int .i64 sh, .int .i64 anum, .bool aok, .slice a1 k1 c1, .slice a2 k2 c2, .int .i64 onum, .int .i64 oop, .slice a3 k3 c3, .int .i64 ov]) := by show BxQ _ _ _ _; rw [hW]; exact BxQ.new _ _ _
  have HG := hideIt G0
  have x0 := HX.out.at 0 rfl
  have d1 : (kind == 1) = false := by simpa using e1
  have d2 : (kind == 2) = false := by simpa using e2
  have d3 : (kind == 3) = false := by simpa using e3
  clear G0 HX e1 e2 e3
  go_enter Tryz.func25, Tryz.ntmps25
  go_upto_region 1 with fail
  rw [← hW]
  clear hW
  go_wp2
  go_ret2
  exact ⟨by rw [HN.out]; rfl, HG.out⟩
set_option maxRecDepth 100000 in
set_option maxHeartbeats 4000000 in
theorem rt_one (n id op a b sh anum : Int) (aok : Bool) (aes : List EdgeV) (als : List Int) (onum oop : Int) (oes : List EdgeV) (ov : Int) (a1 : Option Addr) (k1 c1 : Nat) (a2 : Option Addr) (k2 c2 : Nat) (a3 : Option Addr) (k3 c3 : Nat) (w : World) (h1 : Es w w.heap.size a1 k1 aes) (h2 : Is w w.heap.size a2 k2 als) (h3 : Es w w.heap.size a3 k3 oes) (_l1 : k1 ≤ 1048576) (_l2 : k2 ≤ 1048576) (_l3 : k3 ≤ 1048576) :
    Calls Tryz.prog 25 #[.int .i64 n, .agg #[.int .i64 1, .int .i64 id, .int .i64 op, .int .i64 a, .int .i64 b, .int .i64 sh, .int .i64 anum, .bool aok, .slice a1 k1 c1, .slice a2 k2 c2, .int .i64 onum, .int .i64 oop, .slice a3 k3 c3, .int .i64 ov]] w fun e w' => e = .returned (rtV n ⟨1, id, op, a, b, sh, ⟨anum, aok, aes, als⟩, ⟨onum, oop, oes, ov⟩⟩) ∧ Below w.heap.size w w' := by
  obtain ⟨W, hW⟩ : ∃ W, W = w.alloc (.cells #[.int .i64 1, .int .i64 id, .int .i64 op, .int .i64 a, .int .i64 b, .int .i64 sh, .int .i64 anum, .bool aok, .slice a1 k1 c1, .slice a2 k2 c2, .int .i64 onum, .int .i64 oop, .slice a3 k3 c3, .int .i64 ov] 40) := ⟨_, rfl⟩
  have G0 : Good w W := by rw [hW]; exact (Good.refl w).alloc _
  have HX : Hid (BxQ W w.heap.size 40 #[.int .i64 1, .int .i64 id, .int .i64 op, .int .i64 a, .int .i64 b, .int .i64 sh, .int .i64 anum, .bool aok, .slice a1 k1 c1, .slice a2 k2 c2, .int .i64 onum, .int .i64 oop, .slice a3 k3 c3, .int .i64 ov]) := by show BxQ _ _ _ _; rw [hW]; exact BxQ.new _ _ _
  obtain ⟨W1, hW1⟩ : ∃ W1, W1 = W.alloc (.cells #[.int .i64 id, .int .i64 op, .int .i64 a, .int .i64 b] 32) := ⟨_, rfl⟩
  have b1 : Below W.heap.size W W1 := by rw [hW1]; exact (Below.refl _ _).alloc (Nat.le_refl _) _
  have zW : W.heap.size = w.heap.size + 1 := by rw [hW]; simp
  have HY : Hid (BxQ W1 (w.heap.size + 1) 32 #[.int .i64 id, .int .i64 op, .int .i64 a, .int .i64 b]) := by show BxQ _ _ _ _; rw [hW1, ← zW]; exact BxQ.new _ _ _
  have HX1 : Hid (BxQ W1 w.heap.size 40 #[.int .i64 1, .int .i64 id, .int .i64 op, .int .i64 a, .int .i64 b, .int .i64 sh, .int .i64 anum, .bool aok, .slice a1 k1 c1, .slice a2 k2 c2, .int .i64 onum, .int .i64 oop, .slice a3 k3 c3, .int .i64 ov]) := HX.out.gr (gr_below b1 none) (by simp)
  have HG := hideIt (G0.up b1)
  have HC : Hid (∀ u, Good W1 u → BxQ u w.heap.size 40 #[.int .i64 1, .int .i64 id, .int .i64 op, .int .i64 a, .int .i64 b, .int .i64 sh, .int .i64 anum, .bool aok, .slice a1 k1 c1, .slice a2 k2 c2, .int .i64 onum, .int .i64 oop, .slice a3 k3 c3, .int .i64 ov] ∧ BxQ u (w.heap.size + 1) 32 #[.int .i64 id, .int .i64 op, .int .i64 a, .int .i64 b]) := fun u hu => ⟨HX1.out.gr (gr_below hu none) (by simp), HY.out.gr (gr_below hu none) (by simp)⟩
  have HA := hideIt (blankA anum aok a1 a2 k1 c1 k2 c2)
  have HO := hideIt (blankO onum oop ov a3 k3 c3)
  have HI := hideIt in5
  have ia : Hid (azB anum aok k1 k2 = true ↔ (⟨anum, aok, aes, als⟩ : AnsV) = zA) := azB_iff h1.1 h2.1
  have io : Hid (ozB onum oop k3 ov = true ↔ (⟨onum, oop, oes, ov⟩ : OrdV) = zO) := ozB_iff h3.1
  have HNo : Hid (¬ (sh = 0 ∧ azB anum aok k1 k2 = true ∧ ozB onum oop k3 ov = true ∧ N5 id ∧ N5 op ∧ N5 a ∧ N5 b) → rtV n ⟨1, id, op, a, b, sh, ⟨anum, aok, aes, als⟩, ⟨onum, oop, oes, ov⟩⟩ = .tuple #[.string ⟨#[]⟩, .bool false]) := fun hx => rtV_no (fun h => by
    rcases h with h | h | h
    · exact hx ⟨h.2.2.1, ia.out.2 h.2.2.2.1, io.out.2 h.2.2.2.2, h.2.1.1, h.2.1.2.1, h.2.1.2.2.1, h.2.1.2.2.2⟩
    · exact absurd h.1 (by simp)
    · exact absurd h.1 (by simp))
  have HYe : Hid (sh = 0 → azB anum aok k1 k2 = true → ozB onum oop k3 ov = true → N5 id → N5 op → N5 a → N5 b → rtV n ⟨1, id, op, a, b, sh, ⟨anum, aok, aes, als⟩, ⟨onum, oop, oes, ov⟩⟩ = .tuple #[.string (str (1 :: (vt id.toNat ++ (vt op.toNat ++ (vt a.toNat ++ vt b.toNat))))), .bool true]) := fun q0 q1 q2 q3 q4 q5 q6 => by
    rw [rtV_yes (.inl ⟨rfl, ⟨q3, q4, q5, q6⟩, q0, ia.out.1 q1, io.out.1 q2⟩)]
    rfl
  have x0 := HX.out.at 0 rfl
  have x1 := HX.out.at 1 rfl
  have x2 := HX.out.at 2 rfl
  have x3 := HX.out.at 3 rfl
  have x4 := HX.out.at 4 rfl
  clear h1 h2 h3 G0
  go_enter Tryz.func25, Tryz.ntmps25
  go_upto_region 1 with fail
  rw [← hW]
  clear hW
  go_upto_region 4 with fail
  rw [← hW1]
  clear hW1 x0 x1 x2 x3 x4 HX HX1 HY ia io b1
  by_cases q0 : sh = 0
  · have d0 : (sh != 0) = false := by simpa using q0
    have x5 := (HC.out W1 (Good.refl _)).1.at 5 rfl
    have B0 := HC.out W1 (Good.refl W1)
    have y6 := B0.1.at 6 rfl
    have y7 := B0.1.at 7 rfl
    have y8 := B0.1.at 8 rfl
    have y9 := B0.1.at 9 rfl
    clear B0
    have HQ := hideIt (HA.out W1)
    go_wp2_with (go_at_call 39; refine HQ.out.mono ?_; rintro e u1 ⟨rfl, g0⟩; refine Hid.out ?_)
    refine (show ∀ {p : Prop}, p → Hid p from fun h => h) ?_
    have G1 : Good W1 u1 := (Good.refl W1).up g0
    clear g0 HQ y6 y7 y8 y9
    cases e0 : azB anum aok k1 k2 with
    | false =>
      have HGx := hideIt (HG.out.up G1)
      try rw [e0]
      have hfin := hideIt (HNo.out (fun h => by rw [e0] at h; exact absurd h.2.1 (by simp)))
      go_wp2
      go_ret2
      exact ⟨by rw [hfin.out]; rfl, HGx.out⟩
    | true =>
      try rw [e0]
      have B1 := HC.out u1 G1
      have y10 := B1.1.at 10 rfl
      have y11 := B1.1.at 11 rfl
      have y12 := B1.1.at 12 rfl
      have y13 := B1.1.at 13 rfl
      clear B1
      have HQ := hideIt (HO.out u1)
      go_wp2_with (go_at_call 40; refine HQ.out.mono ?_; rintro e u2 ⟨rfl, g1⟩; refine Hid.out ?_)
      refine (show ∀ {p : Prop}, p → Hid p from fun h => h) ?_
      have G2 : Good W1 u2 := G1.up g1
      clear g1 HQ y10 y11 y12 y13
      cases e1 : ozB onum oop k3 ov with
      | false =>
        have HGx := hideIt (HG.out.up G2)
        try rw [e1]
        have hfin := hideIt (HNo.out (fun h => by rw [e1] at h; exact absurd h.2.2.1 (by simp)))
        go_wp2
        go_ret2
        exact ⟨by rw [hfin.out]; rfl, HGx.out⟩
      | true =>
        try rw [e1]
        have B2 := HC.out u2 G2
        have y0 := B2.2.at 0 rfl
        clear B2
        have HQ := hideIt (HI.out id u2)
        go_wp2_with (go_at_call 26; refine HQ.out.mono ?_; rintro e u3 ⟨rfl, hw⟩; have hw' := hw.symm; subst hw'; refine Hid.out ?_)
        refine (show ∀ {p : Prop}, p → Hid p from fun h => h) ?_
        clear HQ y0
        cases e2 : decide (N5 id) with
        | false =>
          have HGx := hideIt (HG.out.up G2)
          try rw [e2]
          have hfin := hideIt (HNo.out (fun h => by exact absurd h.2.2.2.1 (of_decide_eq_false e2)))
          go_wp2
          go_ret2
          exact ⟨by rw [hfin.out]; rfl, HGx.out⟩
        | true =>
          try rw [e2]
          have B3 := HC.out u2 G2
          have y1 := B3.2.at 1 rfl
          clear B3
          have HQ := hideIt (HI.out op u2)
          go_wp2_with (go_at_call 26; refine HQ.out.mono ?_; rintro e u4 ⟨rfl, hw⟩; have hw' := hw.symm; subst hw'; refine Hid.out ?_)
          refine (show ∀ {p : Prop}, p → Hid p from fun h => h) ?_
          clear HQ y1
          cases e3 : decide (N5 op) with
          | false =>
            have HGx := hideIt (HG.out.up G2)
            try rw [e3]
            have hfin := hideIt (HNo.out (fun h => by exact absurd h.2.2.2.2.1 (of_decide_eq_false e3)))
            go_wp2
            go_ret2
            exact ⟨by rw [hfin.out]; rfl, HGx.out⟩
          | true =>
            try rw [e3]
            have B4 := HC.out u2 G2
            have y2 := B4.2.at 2 rfl
            clear B4
            have HQ := hideIt (HI.out a u2)
            go_wp2_with (go_at_call 26; refine HQ.out.mono ?_; rintro e u5 ⟨rfl, hw⟩; have hw' := hw.symm; subst hw'; refine Hid.out ?_)
            refine (show ∀ {p : Prop}, p → Hid p from fun h => h) ?_
            clear HQ y2
            cases e4 : decide (N5 a) with
            | false =>
              have HGx := hideIt (HG.out.up G2)
              try rw [e4]
              have hfin := hideIt (HNo.out (fun h => by exact absurd h.2.2.2.2.2.1 (of_decide_eq_false e4)))
              go_wp2
              go_ret2
              exact ⟨by rw [hfin.out]; rfl, HGx.out⟩
            | true =>
              try rw [e4]
              have B5 := HC.out u2 G2
              have y3 := B5.2.at 3 rfl
              clear B5
              have HQ := hideIt (HI.out b u2)
              go_wp2_with (go_at_call 26; refine HQ.out.mono ?_; rintro e u6 ⟨rfl, hw⟩; have hw' := hw.symm; subst hw'; refine Hid.out ?_)
              refine (show ∀ {p : Prop}, p → Hid p from fun h => h) ?_
              clear HQ y3
              cases e5 : decide (N5 b) with
              | false =>
                have HGx := hideIt (HG.out.up G2)
                try rw [e5]
                have hfin := hideIt (HNo.out (fun h => by exact absurd h.2.2.2.2.2.2 (of_decide_eq_false e5)))
                go_wp2
                go_ret2
                exact ⟨by rw [hfin.out]; rfl, HGx.out⟩
              | true =>
                try rw [e5]
                obtain ⟨BX, BY⟩ := HC.out u2 G2
                have HYx := hideIt BY
                have y0 := BY.at 0 rfl
                have y1 := BY.at 1 rfl
                have y2 := BY.at 2 rfl
                have y3 := BY.at 3 rfl
                have hfin := hideIt (HYe.out q0 e0 e1 (of_decide_eq_true e2) (of_decide_eq_true e3) (of_decide_eq_true e4) (of_decide_eq_true e5))
                have n2 := of_decide_eq_true e2
                have n3 := of_decide_eq_true e3
                have n4 := of_decide_eq_true e4
                have n5 := of_decide_eq_true e5
                have HV : Hid (∀ x : Int, N5 x → ∀ u', Good u2 u' → Calls Tryz.prog 27 #[.int .i64 x] u' fun e v => e = .returned (.string (str (vt x.toNat))) ∧ Good u2 v) := fun x p u' hu => (l01Var_str x p.1 (by have := p.2; omega) u').mono fun e v ⟨he, hb⟩ => ⟨he, Good.up hu hb⟩
                have HS : Hid (∀ u', Good u2 u' → u'.cell? ⟨w.heap.size + 1, 0, none⟩ = some (.int .i64 id) ∧ u'.cell? ⟨w.heap.size + 1, 1, none⟩ = some (.int .i64 op) ∧ u'.cell? ⟨w.heap.size + 1, 2, none⟩ = some (.int .i64 a) ∧ u'.cell? ⟨w.heap.size + 1, 3, none⟩ = some (.int .i64 b) ∧ Good u2 u') := fun u' hu => by
                  have B := HYx.out.gr (gr_below hu none) (by simp)
                  exact ⟨B.at 0 rfl, B.at 1 rfl, B.at 2 rfl, B.at 3 rfl, hu⟩
                have L1 := vt_le5 id.toNat (by have := n2.2; omega)
                have L2 := vt_le5 op.toNat (by have := n3.2; omega)
                have L3 := vt_le5 a.toNat (by have := n4.2; omega)
                have L4 := vt_le5 b.toNat (by have := n5.2; omega)
                have A1 : ∀ wx, (Op.stringOp .add ⟨#[1]⟩ (str (vt id.toNat))).run Tryz.prog wx = .ok (.string (str ([1] ++ vt id.toNat))) wx := str_add [1] _ (by simp; omega)
                have A2 : ∀ wx, (Op.stringOp .add (str ([1] ++ vt id.toNat)) (str (vt op.toNat))).run Tryz.prog wx = .ok (.string (str ([1] ++ vt id.toNat ++ vt op.toNat))) wx := str_add _ _ (by simp; omega)
                have A3 : ∀ wx, (Op.stringOp .add (str ([1] ++ vt id.toNat ++ vt op.toNat)) (str (vt a.toNat))).run Tryz.prog wx = .ok (.string (str ([1] ++ vt id.toNat ++ vt op.toNat ++ vt a.toNat))) wx := str_add _ _ (by simp; omega)
                have A4 : ∀ wx, (Op.stringOp .add (str ([1] ++ vt id.toNat ++ vt op.toNat ++ vt a.toNat)) (str (vt b.toNat))).run Tryz.prog wx = .ok (.string (str ([1] ++ vt id.toNat ++ vt op.toNat ++ vt a.toNat ++ vt b.toNat))) wx := str_add _ _ (by simp; omega)
                have FN : Hid (str ([1] ++ vt id.toNat ++ vt op.toNat ++ vt a.toNat ++ vt b.toNat) = str (1 :: (vt id.toNat ++ (vt op.toNat ++ (vt a.toNat ++ vt b.toNat))))) := by show _ = _; simp
                generalize str ([1] ++ vt id.toNat ++ vt op.toNat ++ vt a.toNat ++ vt b.toNat) = s4 at A4 FN
                generalize str ([1] ++ vt id.toNat ++ vt op.toNat ++ vt a.toNat) = s3 at A3 A4
                generalize str ([1] ++ vt id.toNat ++ vt op.toNat) = s2 at A2 A3
                generalize str ([1] ++ vt id.toNat) = s1 at A1 A2
                clear L1 L2 L3 L4
                have hS0 := HS.out _ (Good.refl u2).drew
                clear BX BY y0 y1 y2 y3 e0 e1 e2 e3 e4 e5
                obtain ⟨U, hU⟩ : ∃ U, U = u2 := ⟨_, rfl⟩
                clear hU
                go_upto_region 6 with fail
                go_region_held3 (fun u' => u'.cell? ⟨w.heap.size + 1, 0, none⟩ = some (.int .i64 id) ∧ u'.cell? ⟨w.heap.size + 1, 1, none⟩ = some (.int .i64 op) ∧ u'.cell? ⟨w.heap.size + 1, 2, none⟩ = some (.int .i64 a) ∧ u'.cell? ⟨w.heap.size + 1, 3, none⟩ = some (.int .i64 b) ∧ Good u2 u') (first | assumption)
                  ((go_at_call 27; refine (HV.out _ (by assumption) _ (And.right (And.right (And.right (And.right (by assumption)))))).mono ?_; rintro e z1 ⟨rfl, gz1⟩; have hz1 := HS.out _ gz1))
                have HGz := hideIt (HG.out.up (G2.up gz1))
                clear A1 A2 A3 A4
                go_wp2
                go_ret2
                exact ⟨by rw [hfin.out, ← FN.out]; rfl, HGz.out⟩
  · have d0 : (sh != 0) = true := by simpa using q0
    have x5 := (HC.out W1 (Good.refl _)).1.at 5 rfl
    have HGx := hideIt HG.out
    have hfin := hideIt (HNo.out (fun h => by exact q0 h.1))
    go_wp2
    go_ret2
    exact ⟨by rw [hfin.out]; rfl, HGx.out⟩
set_option maxRecDepth 100000 in
set_option maxHeartbeats 4000000 in
theorem rt_two (n id op a b sh anum : Int) (aok : Bool) (aes : List EdgeV) (als : List Int) (onum oop : Int) (oes : List EdgeV) (ov : Int) (a1 : Option Addr) (k1 c1 : Nat) (a2 : Option Addr) (k2 c2 : Nat) (a3 : Option Addr) (k3 c3 : Nat) (w : World) (h1 : Es w w.heap.size a1 k1 aes) (h2 : Is w w.heap.size a2 k2 als) (h3 : Es w w.heap.size a3 k3 oes) (l1 : k1 ≤ 1048576) (l2 : k2 ≤ 1048576) (_l3 : k3 ≤ 1048576) :
    Calls Tryz.prog 25 #[.int .i64 n, .agg #[.int .i64 2, .int .i64 id, .int .i64 op, .int .i64 a, .int .i64 b, .int .i64 sh, .int .i64 anum, .bool aok, .slice a1 k1 c1, .slice a2 k2 c2, .int .i64 onum, .int .i64 oop, .slice a3 k3 c3, .int .i64 ov]] w fun e w' => e = .returned (rtV n ⟨2, id, op, a, b, sh, ⟨anum, aok, aes, als⟩, ⟨onum, oop, oes, ov⟩⟩) ∧ Below w.heap.size w w' := by
  obtain ⟨W, hW⟩ : ∃ W, W = w.alloc (.cells #[.int .i64 2, .int .i64 id, .int .i64 op, .int .i64 a, .int .i64 b, .int .i64 sh, .int .i64 anum, .bool aok, .slice a1 k1 c1, .slice a2 k2 c2, .int .i64 onum, .int .i64 oop, .slice a3 k3 c3, .int .i64 ov] 40) := ⟨_, rfl⟩
  have G0 : Good w W := by rw [hW]; exact (Good.refl w).alloc _
  have HX : Hid (BxQ W w.heap.size 40 #[.int .i64 2, .int .i64 id, .int .i64 op, .int .i64 a, .int .i64 b, .int .i64 sh, .int .i64 anum, .bool aok, .slice a1 k1 c1, .slice a2 k2 c2, .int .i64 onum, .int .i64 oop, .slice a3 k3 c3, .int .i64 ov]) := by show BxQ _ _ _ _; rw [hW]; exact BxQ.new _ _ _
  have HG := hideIt G0
  have HC : Hid (∀ u, Good W u → BxQ u w.heap.size 40 #[.int .i64 2, .int .i64 id, .int .i64 op, .int .i64 a, .int .i64 b, .int .i64 sh, .int .i64 anum, .bool aok, .slice a1 k1 c1, .slice a2 k2 c2, .int .i64 onum, .int .i64 oop, .slice a3 k3 c3, .int .i64 ov]) := fun u hu => HX.out.gr (gr_below hu none) (by simp)
  have HT : Hid (∀ u, Good W u → Calls Tryz.prog 37 #[.int .i64 n, .agg #[.int .i64 anum, .bool aok, .slice a1 k1 c1, .slice a2 k2 c2]] u fun e v => e = .returned (atV n ⟨anum, aok, aes, als⟩) ∧ Below u.heap.size u v) := fun u hu => sAnswerText_any n anum aok aes als k1 a1 c1 l1 k2 a2 c2 l2 u (h1.up (G0.up hu)) (h2.up (G0.up hu))
  have HK := hideIt (blankK id op a b)
  have HO := hideIt (blankO onum oop ov a3 k3 c3)
  have io : Hid (ozB onum oop k3 ov = true ↔ (⟨onum, oop, oes, ov⟩ : OrdV) = zO) := ozB_iff h3.1
  have HI := hideIt in5
  have HNo : Hid (¬ (aB n ⟨anum, aok, aes, als⟩ = true ∧ kzB id op a b = true ∧ ozB onum oop k3 ov = true ∧ N5 sh) → rtV n ⟨2, id, op, a, b, sh, ⟨anum, aok, aes, als⟩, ⟨onum, oop, oes, ov⟩⟩ = .tuple #[.string ⟨#[]⟩, .bool false]) := fun hx => rtV_no (fun h => by
    rcases h with h | h | h
    · exact absurd h.1 (by simp)
    · exact hx ⟨h.2.2.2.1, kzB_iff.2 h.2.1, io.out.2 h.2.2.2.2, h.2.2.1⟩
    · exact absurd h.1 (by simp))
  have HYe : Hid (aB n ⟨anum, aok, aes, als⟩ = true → kzB id op a b = true → ozB onum oop k3 ov = true → N5 sh → rtV n ⟨2, id, op, a, b, sh, ⟨anum, aok, aes, als⟩, ⟨onum, oop, oes, ov⟩⟩ = .tuple #[.string (str (2 :: (vt sh.toNat ++ sht (aText ⟨anum, aok, aes, als⟩)))), .bool true]) := fun q0 q1 q2 q3 => by
    rw [rtV_yes (.inr (.inl ⟨rfl, kzB_iff.1 q1, q3, q0, io.out.1 q2⟩))]
    rfl
  have x0 := HX.out.at 0 rfl
  have x6 := HX.out.at 6 rfl
  have x7 := HX.out.at 7 rfl
  have x8 := HX.out.at 8 rfl
  have x9 := HX.out.at 9 rfl
  have HT0 := hideIt (HT.out W (Good.refl _))
  have hlen : (aText ⟨anum, aok, aes, als⟩).length ≤ 300 ∨ aB n ⟨anum, aok, aes, als⟩ = false := by
    cases hq : aB n ⟨anum, aok, aes, als⟩ with
    | false => exact .inr rfl
    | true => exact .inl (aText_len hq)
  clear h1 h2 h3 G0 io HT HX
  cases eB : aB n ⟨anum, aok, aes, als⟩ with
  | false =>
    rw [atV_no eB] at HT0
    go_enter Tryz.func25, Tryz.ntmps25
    go_upto_region 1 with fail
    rw [← hW]
    clear hW
    go_wp2_with (go_at_call 37; refine HT0.out.mono ?_; rintro e u1 ⟨rfl, g0⟩; refine Hid.out ?_)
    refine (show ∀ {p : Prop}, p → Hid p from fun h => h) ?_
    have G1 : Good W u1 := g0
    clear g0 HT0 x0 x6 x7 x8 x9
    have HGx := hideIt (HG.out.up G1)
    have hfin := hideIt (HNo.out (fun h => by rw [eB] at h; exact absurd h.1 (by simp)))
    go_wp2
    go_ret2
    exact ⟨by rw [hfin.out]; rfl, HGx.out⟩
  | true =>
    rw [atV_yes eB] at HT0
    have hlen := hlen.resolve_right (by rw [eB]; simp)
    go_enter Tryz.func25, Tryz.ntmps25
    go_upto_region 1 with fail
    rw [← hW]
    clear hW
    go_wp2_with (go_at_call 37; refine HT0.out.mono ?_; rintro e u1 ⟨rfl, g0⟩; refine Hid.out ?_)
    refine (show ∀ {p : Prop}, p → Hid p from fun h => h) ?_
    have G1 : Good W u1 := g0
    clear g0 HT0 x0 x6 x7 x8 x9
    have B0 := HC.out u1 G1
    have y1 := B0.at 1 rfl
    have y2 := B0.at 2 rfl
    have y3 := B0.at 3 rfl
    have y4 := B0.at 4 rfl
    clear B0
    have HQ := hideIt (HK.out u1)
    go_wp2_with (go_at_call 41; refine HQ.out.mono ?_; rintro e u2 ⟨rfl, g0⟩; refine Hid.out ?_)
    refine (show ∀ {p : Prop}, p → Hid p from fun h => h) ?_
    have G2 : Good W u2 := G1.up g0
    clear g0 HQ y1 y2 y3 y4
    cases e0 : kzB id op a b with
    | false =>
      have HGx := hideIt (HG.out.up G2)
      try rw [e0]
      have hfin := hideIt (HNo.out (fun h => by rw [e0] at h; exact absurd h.2.1 (by simp)))
      go_wp2
      go_ret2
      exact ⟨by rw [hfin.out]; rfl, HGx.out⟩
    | true =>
      try rw [e0]
      have B1 := HC.out u2 G2
      have y10 := B1.at 10 rfl
      have y11 := B1.at 11 rfl
      have y12 := B1.at 12 rfl
      have y13 := B1.at 13 rfl
      clear B1
      have HQ := hideIt (HO.out u2)
      go_wp2_with (go_at_call 40; refine HQ.out.mono ?_; rintro e u3 ⟨rfl, g1⟩; refine Hid.out ?_)
      refine (show ∀ {p : Prop}, p → Hid p from fun h => h) ?_
      have G3 : Good W u3 := G2.up g1
      clear g1 HQ y10 y11 y12 y13
      cases e1 : ozB onum oop k3 ov with
      | false =>
        have HGx := hideIt (HG.out.up G3)
        try rw [e1]
        have hfin := hideIt (HNo.out (fun h => by rw [e1] at h; exact absurd h.2.2.1 (by simp)))
        go_wp2
        go_ret2
        exact ⟨by rw [hfin.out]; rfl, HGx.out⟩
      | true =>
        try rw [e1]
        have B2 := HC.out u3 G3
        have y5 := B2.at 5 rfl
        clear B2
        have HQ := hideIt (HI.out sh u3)
        go_wp2_with (go_at_call 26; refine HQ.out.mono ?_; rintro e u4 ⟨rfl, hw⟩; have hw' := hw.symm; subst hw'; refine Hid.out ?_)
        refine (show ∀ {p : Prop}, p → Hid p from fun h => h) ?_
        clear HQ
        cases e2 : decide (N5 sh) with
        | false =>
          have HGx := hideIt (HG.out.up G3)
          try rw [e2]
          have hfin := hideIt (HNo.out (fun h => by exact absurd h.2.2.2 (of_decide_eq_false e2)))
          go_wp2
          go_ret2
          exact ⟨by rw [hfin.out]; rfl, HGx.out⟩
        | true =>
          try rw [e2]
          have n2 := of_decide_eq_true e2
          have L1 := vt_le5 sh.toNat (by have := n2.2; omega)
          have L2 := vt_le5 (aText ⟨anum, aok, aes, als⟩).length (by omega)
          have A1 : ∀ wx, (Op.stringOp .add ⟨#[2]⟩ (str (vt sh.toNat))).run Tryz.prog wx = .ok (.string (str ([2] ++ vt sh.toNat))) wx := str_add [2] _ (by simp; omega)
          have A2 : ∀ wx, (Op.stringOp .add (str ([2] ++ vt sh.toNat)) (str (vt (aText ⟨anum, aok, aes, als⟩).length))).run Tryz.prog wx = .ok (.string (str ([2] ++ vt sh.toNat ++ vt (aText ⟨anum, aok, aes, als⟩).length))) wx := str_add _ _ (by simp; omega)
          have A3 : ∀ wx, (Op.stringOp .add (str ([2] ++ vt sh.toNat ++ vt (aText ⟨anum, aok, aes, als⟩).length)) (str (aText ⟨anum, aok, aes, als⟩))).run Tryz.prog wx = .ok (.string (str ([2] ++ vt sh.toNat ++ vt (aText ⟨anum, aok, aes, als⟩).length ++ aText ⟨anum, aok, aes, als⟩))) wx := str_add _ _ (by simp; omega)
          have FN : Hid (str ([2] ++ vt sh.toNat ++ vt (aText ⟨anum, aok, aes, als⟩).length ++ aText ⟨anum, aok, aes, als⟩) = str (2 :: (vt sh.toNat ++ sht (aText ⟨anum, aok, aes, als⟩)))) := by show _ = _; unfold sht; simp
          have hfin := hideIt (HYe.out eB e0 e1 n2)
          have HV1 := hideIt (l01Var_str sh n2.1 (by have := n2.2; omega))
          have HV2 : Hid (∀ u', Calls Tryz.prog 27 #[.int .i64 ((aText ⟨anum, aok, aes, als⟩).length : Int)] u' fun e v => e = .returned (.string (str (vt (aText ⟨anum, aok, aes, als⟩).length))) ∧ Below u'.heap.size u' v) := fun u' => l01Var_str _ (by omega) (by omega) u'
          have sz : (str (aText ⟨anum, aok, aes, als⟩)).size = (aText ⟨anum, aok, aes, als⟩).length := str_size _
          generalize str ([2] ++ vt sh.toNat ++ vt (aText ⟨anum, aok, aes, als⟩).length ++ aText ⟨anum, aok, aes, als⟩) = s3 at A3 FN
          generalize str ([2] ++ vt sh.toNat ++ vt (aText ⟨anum, aok, aes, als⟩).length) = s2 at A2 A3
          generalize str ([2] ++ vt sh.toNat) = s1 at A1 A2
          generalize hst : str (aText ⟨anum, aok, aes, als⟩) = sT at *
          generalize str (vt (aText ⟨anum, aok, aes, als⟩).length) = sL at *
          generalize (aText ⟨anum, aok, aes, als⟩).length = lT at *
          clear L1 L2 hst
          go_wp2_with (go_at_call 27; refine (HV1.out _).mono ?_; rintro e z1 ⟨rfl, gz1⟩; refine Hid.out ?_)
          refine (show ∀ {p : Prop}, p → Hid p from fun h => h) ?_
          clear HV1
          go_wp2_with (go_at_call 27; refine (HV2.out _).mono ?_; rintro e z2 ⟨rfl, gz2⟩; refine Hid.out ?_)
          refine (show ∀ {p : Prop}, p → Hid p from fun h => h) ?_
          have HGz := hideIt ((HG.out.up (G3.up gz1)).up gz2)
          clear gz1 gz2
          go_wp2
          go_ret2
          exact ⟨by rw [hfin.out, ← FN.out]; rfl, HGz.out⟩
set_option maxRecDepth 100000 in
set_option maxHeartbeats 4000000 in
theorem rt_three (n id op a b sh anum : Int) (aok : Bool) (aes : List EdgeV) (als : List Int) (onum oop : Int) (oes : List EdgeV) (ov : Int) (a1 : Option Addr) (k1 c1 : Nat) (a2 : Option Addr) (k2 c2 : Nat) (a3 : Option Addr) (k3 c3 : Nat) (w : World) (h1 : Es w w.heap.size a1 k1 aes) (h2 : Is w w.heap.size a2 k2 als) (h3 : Es w w.heap.size a3 k3 oes) (_l1 : k1 ≤ 1048576) (_l2 : k2 ≤ 1048576) (l3 : k3 ≤ 1048576) :
    Calls Tryz.prog 25 #[.int .i64 n, .agg #[.int .i64 3, .int .i64 id, .int .i64 op, .int .i64 a, .int .i64 b, .int .i64 sh, .int .i64 anum, .bool aok, .slice a1 k1 c1, .slice a2 k2 c2, .int .i64 onum, .int .i64 oop, .slice a3 k3 c3, .int .i64 ov]] w fun e w' => e = .returned (rtV n ⟨3, id, op, a, b, sh, ⟨anum, aok, aes, als⟩, ⟨onum, oop, oes, ov⟩⟩) ∧ Below w.heap.size w w' := by
  obtain ⟨W, hW⟩ : ∃ W, W = w.alloc (.cells #[.int .i64 3, .int .i64 id, .int .i64 op, .int .i64 a, .int .i64 b, .int .i64 sh, .int .i64 anum, .bool aok, .slice a1 k1 c1, .slice a2 k2 c2, .int .i64 onum, .int .i64 oop, .slice a3 k3 c3, .int .i64 ov] 40) := ⟨_, rfl⟩
  have G0 : Good w W := by rw [hW]; exact (Good.refl w).alloc _
  have HX : Hid (BxQ W w.heap.size 40 #[.int .i64 3, .int .i64 id, .int .i64 op, .int .i64 a, .int .i64 b, .int .i64 sh, .int .i64 anum, .bool aok, .slice a1 k1 c1, .slice a2 k2 c2, .int .i64 onum, .int .i64 oop, .slice a3 k3 c3, .int .i64 ov]) := by show BxQ _ _ _ _; rw [hW]; exact BxQ.new _ _ _
  have HG := hideIt G0
  have HC : Hid (∀ u, Good W u → BxQ u w.heap.size 40 #[.int .i64 3, .int .i64 id, .int .i64 op, .int .i64 a, .int .i64 b, .int .i64 sh, .int .i64 anum, .bool aok, .slice a1 k1 c1, .slice a2 k2 c2, .int .i64 onum, .int .i64 oop, .slice a3 k3 c3, .int .i64 ov]) := fun u hu => HX.out.gr (gr_below hu none) (by simp)
  have HT : Hid (∀ u, Good W u → Calls Tryz.prog 38 #[.int .i64 n, .agg #[.int .i64 onum, .int .i64 oop, .slice a3 k3 c3, .int .i64 ov]] u fun e v => e = .returned (otV n ⟨onum, oop, oes, ov⟩) ∧ Below u.heap.size u v) := fun u hu => sOrderText_any n onum oop oes ov k3 a3 c3 l3 u (h3.up (G0.up hu))
  have HK := hideIt (blankK id op a b)
  have HO := hideIt (blankA anum aok a1 a2 k1 c1 k2 c2)
  have io : Hid (azB anum aok k1 k2 = true ↔ (⟨anum, aok, aes, als⟩ : AnsV) = zA) := azB_iff h1.1 h2.1
  have HNo : Hid (¬ (oB n ⟨onum, oop, oes, ov⟩ = true ∧ kzB id op a b = true ∧ azB anum aok k1 k2 = true ∧ sh = 0) → rtV n ⟨3, id, op, a, b, sh, ⟨anum, aok, aes, als⟩, ⟨onum, oop, oes, ov⟩⟩ = .tuple #[.string ⟨#[]⟩, .bool false]) := fun hx => rtV_no (fun h => by
    rcases h with h | h | h
    · exact absurd h.1 (by simp)
    · exact absurd h.1 (by simp)
    · exact hx ⟨h.2.2.2.2, kzB_iff.2 h.2.1, io.out.2 h.2.2.2.1, h.2.2.1⟩)
  have HYe : Hid (oB n ⟨onum, oop, oes, ov⟩ = true → kzB id op a b = true → azB anum aok k1 k2 = true → sh = 0 → rtV n ⟨3, id, op, a, b, sh, ⟨anum, aok, aes, als⟩, ⟨onum, oop, oes, ov⟩⟩ = .tuple #[.string (str (3 :: sht (oText ⟨onum, oop, oes, ov⟩))), .bool true]) := fun q0 q1 q2 q3 => by
    rw [rtV_yes (.inr (.inr ⟨rfl, kzB_iff.1 q1, q3, io.out.1 q2, q0⟩))]
    rfl
  have x0 := HX.out.at 0 rfl
  have x10 := HX.out.at 10 rfl
  have x11 := HX.out.at 11 rfl
  have x12 := HX.out.at 12 rfl
  have x13 := HX.out.at 13 rfl
  have HT0 := hideIt (HT.out W (Good.refl _))
  have hlen : (oText ⟨onum, oop, oes, ov⟩).length ≤ 300 ∨ oB n ⟨onum, oop, oes, ov⟩ = false := by
    cases hq : oB n ⟨onum, oop, oes, ov⟩ with
    | false => exact .inr rfl
    | true => exact .inl (oText_len hq)
  clear h1 h2 h3 G0 io HT HX
  cases eB : oB n ⟨onum, oop, oes, ov⟩ with
  | false =>
    rw [otV_no eB] at HT0
    go_enter Tryz.func25, Tryz.ntmps25
    go_upto_region 1 with fail
    rw [← hW]
    clear hW
    go_wp2_with (go_at_call 38; refine HT0.out.mono ?_; rintro e u1 ⟨rfl, g0⟩; refine Hid.out ?_)
    refine (show ∀ {p : Prop}, p → Hid p from fun h => h) ?_
    have G1 : Good W u1 := g0
    clear g0 HT0 x0 x10 x11 x12 x13
    have HGx := hideIt (HG.out.up G1)
    have hfin := hideIt (HNo.out (fun h => by rw [eB] at h; exact absurd h.1 (by simp)))
    go_wp2
    go_ret2
    exact ⟨by rw [hfin.out]; rfl, HGx.out⟩
  | true =>
    rw [otV_yes eB] at HT0
    have hlen := hlen.resolve_right (by rw [eB]; simp)
    go_enter Tryz.func25, Tryz.ntmps25
    go_upto_region 1 with fail
    rw [← hW]
    clear hW
    go_wp2_with (go_at_call 38; refine HT0.out.mono ?_; rintro e u1 ⟨rfl, g0⟩; refine Hid.out ?_)
    refine (show ∀ {p : Prop}, p → Hid p from fun h => h) ?_
    have G1 : Good W u1 := g0
    clear g0 HT0 x0 x10 x11 x12 x13
    have B0 := HC.out u1 G1
    have y1 := B0.at 1 rfl
    have y2 := B0.at 2 rfl
    have y3 := B0.at 3 rfl
    have y4 := B0.at 4 rfl
    clear B0
    have HQ := hideIt (HK.out u1)
    go_wp2_with (go_at_call 41; refine HQ.out.mono ?_; rintro e u2 ⟨rfl, g0⟩; refine Hid.out ?_)
    refine (show ∀ {p : Prop}, p → Hid p from fun h => h) ?_
    have G2 : Good W u2 := G1.up g0
    clear g0 HQ y1 y2 y3 y4
    cases e0 : kzB id op a b with
    | false =>
      have HGx := hideIt (HG.out.up G2)
      try rw [e0]
      have hfin := hideIt (HNo.out (fun h => by rw [e0] at h; exact absurd h.2.1 (by simp)))
      go_wp2
      go_ret2
      exact ⟨by rw [hfin.out]; rfl, HGx.out⟩
    | true =>
      try rw [e0]
      have B1 := HC.out u2 G2
      have y6 := B1.at 6 rfl
      have y7 := B1.at 7 rfl
      have y8 := B1.at 8 rfl
      have y9 := B1.at 9 rfl
      clear B1
      have HQ := hideIt (HO.out u2)
      go_wp2_with (go_at_call 39; refine HQ.out.mono ?_; rintro e u3 ⟨rfl, g1⟩; refine Hid.out ?_)
      refine (show ∀ {p : Prop}, p → Hid p from fun h => h) ?_
      have G3 : Good W u3 := G2.up g1
      clear g1 HQ y6 y7 y8 y9
      cases e1 : azB anum aok k1 k2 with
      | false =>
        have HGx := hideIt (HG.out.up G3)
        try rw [e1]
        have hfin := hideIt (HNo.out (fun h => by rw [e1] at h; exact absurd h.2.2.1 (by simp)))
        go_wp2
        go_ret2
        exact ⟨by rw [hfin.out]; rfl, HGx.out⟩
      | true =>
        try rw [e1]
        have B2 := HC.out u3 G3
        have y5 := B2.at 5 rfl
        clear B2
        by_cases q3 : sh = 0
        · have d0 : (sh != 0) = false := by simpa using q3
          have L2 := vt_le5 (oText ⟨onum, oop, oes, ov⟩).length (by omega)
          have A1 : ∀ wx, (Op.stringOp .add ⟨#[3]⟩ (str (vt (oText ⟨onum, oop, oes, ov⟩).length))).run Tryz.prog wx = .ok (.string (str ([3] ++ vt (oText ⟨onum, oop, oes, ov⟩).length))) wx := str_add [3] _ (by simp; omega)
          have A2 : ∀ wx, (Op.stringOp .add (str ([3] ++ vt (oText ⟨onum, oop, oes, ov⟩).length)) (str (oText ⟨onum, oop, oes, ov⟩))).run Tryz.prog wx = .ok (.string (str ([3] ++ vt (oText ⟨onum, oop, oes, ov⟩).length ++ oText ⟨onum, oop, oes, ov⟩))) wx := str_add _ _ (by simp; omega)
          have FN : Hid (str ([3] ++ vt (oText ⟨onum, oop, oes, ov⟩).length ++ oText ⟨onum, oop, oes, ov⟩) = str (3 :: sht (oText ⟨onum, oop, oes, ov⟩))) := by show _ = _; unfold sht; simp
          have hfin := hideIt (HYe.out eB e0 e1 q3)
          have HV2 : Hid (∀ u', Calls Tryz.prog 27 #[.int .i64 ((oText ⟨onum, oop, oes, ov⟩).length : Int)] u' fun e v => e = .returned (.string (str (vt (oText ⟨onum, oop, oes, ov⟩).length))) ∧ Below u'.heap.size u' v) := fun u' => l01Var_str _ (by omega) (by omega) u'
          have sz : (str (oText ⟨onum, oop, oes, ov⟩)).size = (oText ⟨onum, oop, oes, ov⟩).length := str_size _
          generalize str ([3] ++ vt (oText ⟨onum, oop, oes, ov⟩).length ++ oText ⟨onum, oop, oes, ov⟩) = s3 at A2 FN
          generalize str ([3] ++ vt (oText ⟨onum, oop, oes, ov⟩).length) = s2 at A1 A2
          generalize hst : str (oText ⟨onum, oop, oes, ov⟩) = sT at *
          generalize str (vt (oText ⟨onum, oop, oes, ov⟩).length) = sL at *
          generalize (oText ⟨onum, oop, oes, ov⟩).length = lT at *
          clear L2 hst
          go_wp2_with (go_at_call 27; refine (HV2.out _).mono ?_; rintro e z2 ⟨rfl, gz2⟩; refine Hid.out ?_)
          refine (show ∀ {p : Prop}, p → Hid p from fun h => h) ?_
          have HGz := hideIt (HG.out.up (G3.up gz2))
          clear gz2
          go_wp2
          go_ret2
          exact ⟨by rw [hfin.out, ← FN.out]; rfl, HGz.out⟩
        · have d0 : (sh != 0) = true := by simpa using q3
          have HGx := hideIt (HG.out.up G3)
          have hfin := hideIt (HNo.out (fun h => by exact q3 h.2.2.2))
          go_wp2
          go_ret2
          exact ⟨by rw [hfin.out]; rfl, HGx.out⟩
theorem sRecText_any (n kind id op a b sh anum : Int) (aok : Bool) (aes : List EdgeV) (als : List Int) (onum oop : Int) (oes : List EdgeV) (ov : Int) (a1 : Option Addr) (k1 c1 : Nat) (a2 : Option Addr) (k2 c2 : Nat) (a3 : Option Addr) (k3 c3 : Nat) (w : World) (h1 : Es w w.heap.size a1 k1 aes) (h2 : Is w w.heap.size a2 k2 als) (h3 : Es w w.heap.size a3 k3 oes) (l1 : k1 ≤ 1048576) (l2 : k2 ≤ 1048576) (l3 : k3 ≤ 1048576) :
    Calls Tryz.prog 25 #[.int .i64 n, .agg #[.int .i64 kind, .int .i64 id, .int .i64 op, .int .i64 a, .int .i64 b, .int .i64 sh, .int .i64 anum, .bool aok, .slice a1 k1 c1, .slice a2 k2 c2, .int .i64 onum, .int .i64 oop, .slice a3 k3 c3, .int .i64 ov]] w fun e w' => e = .returned (rtV n ⟨kind, id, op, a, b, sh, ⟨anum, aok, aes, als⟩, ⟨onum, oop, oes, ov⟩⟩) ∧ Below w.heap.size w w' := by
  by_cases e1 : kind = 1
  · subst e1; exact rt_one n id op a b sh anum aok aes als onum oop oes ov a1 k1 c1 a2 k2 c2 a3 k3 c3 w h1 h2 h3 l1 l2 l3
  · by_cases e2 : kind = 2
    · subst e2; exact rt_two n id op a b sh anum aok aes als onum oop oes ov a1 k1 c1 a2 k2 c2 a3 k3 c3 w h1 h2 h3 l1 l2 l3
    · by_cases e3 : kind = 3
      · subst e3; exact rt_three n id op a b sh anum aok aes als onum oop oes ov a1 k1 c1 a2 k2 c2 a3 k3 c3 w h1 h2 h3 l1 l2 l3
      · exact rt_other n kind id op a b sh anum aok aes als onum oop oes ov a1 k1 c1 a2 k2 c2 a3 k3 c3 w h1 h2 h3 l1 l2 l3 e1 e2 e3
end Go.Proofs.YtcieanhbipbhgaaGreatDoor
