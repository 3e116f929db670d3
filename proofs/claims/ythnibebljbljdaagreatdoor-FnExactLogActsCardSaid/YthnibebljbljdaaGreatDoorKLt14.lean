/- The law's own functions over records; the walk of FnExactRecText. -/
import Derived.Test.YthnibebljbljdaaGreatDoorKSRd10
import Derived.Test.YthnibebljbljdaaGreatDoorKRc14
namespace Go.Proofs.YthnibebljbljdaaGreatDoor
open Go.RowKit Vt

theorem own_lowQ {w : World} {B e s n G j : Nat} {x : Value} {xs : List Value} {y : Value} (h : w.ownsRow B e s x n xs) (hG : G < B) : (w.setCell ⟨G, j, none⟩ y).ownsRow B e s x n xs :=
  World.ownsRow.kept h (gr_set w G j y) (.inr (fun e => by have := (h.lt G e).1; omega))
theorem own_setQ {w : World} {B e s n G : Nat} {x : Value} {xs : List Value} (h : w.ownsRow B e s x n xs) (hG : G < B) (k : Nat) (vs : List Value) : (setQ w G k vs).ownsRow B e s x n xs := by
  induction vs generalizing w k with
  | nil => exact h
  | cons v vs ih => exact ih (own_lowQ h hG) (k + 1)
theorem below_setQ {w u : World} {C G : Nat} (h : Below C w u) (hb : C ≤ G) (k : Nat) (vs : List Value) : Below C w (setQ u G k vs) := by
  induction vs generalizing u k with
  | nil => exact h
  | cons v vs ih => exact ih (h.setCell (p := ⟨G, k, none⟩) hb v) (k + 1)
theorem BxQ.bel {w u : World} {b : Nat} {t : TypeId} {cs : Array Value} (h : BxQ w b t cs) (hb : Below w.heap.size w u) : BxQ u b t cs := h.gr (gr_below hb none) (by simp)
/-- where a function stands that lays a struct anew: what came in, the result's box, the new one's -/
structure TQ (w : World) (s : Nat) (tl ti : TypeId) (lv rv iv : List Value) (u : World) : Prop where
  lw : BxQ u s tl lv.toArray
  rs : BxQ u (s + 1) ti rv.toArray
  out : BxQ u (s + 1 + 1) ti iv.toArray
  below : Below s w u
section
variable {w u v : World} {s : Nat} {tl ti : TypeId} {lv rv iv : List Value}
theorem TQ.lt (h : TQ w s tl ti lv rv iv u) : s + 3 ≤ u.heap.size := h.out.lt
theorem TQ.up (h : TQ w s tl ti lv rv iv u) (hb : Below u.heap.size u v) : TQ w s tl ti lv rv iv v := ⟨h.lw.bel hb, h.rs.bel hb, h.out.bel hb, h.below.trans (hb.mono (by have := h.lt; omega))⟩
theorem TQ.set (h : TQ w s tl ti lv rv iv u) (k : Nat) (vs : List Value) : TQ w s tl ti lv rv (setL iv k vs) (setQ u (s + 1 + 1) k vs) := ⟨h.lw.setQO k vs (by omega), h.rs.setQO k vs (by omega), h.out.setQ k vs, below_setQ h.below (by omega) k vs⟩
theorem TQ.start (w : World) (tl ti : TypeId) (lv rv iv : List Value) : TQ w w.heap.size tl ti lv rv iv (((w.alloc (.cells lv.toArray tl)).alloc (.cells rv.toArray ti)).alloc (.cells iv.toArray ti)) := by
  have b1 : ∀ (u : World) (o : Obj), Below u.heap.size u (u.alloc o) := fun u o => (Below.refl _ _).alloc (Nat.le_refl _) _
  have h1 := (BxQ.new w tl lv.toArray).bel (b1 _ (.cells rv.toArray ti))
  have h2 := BxQ.new (w.alloc (.cells lv.toArray tl)) ti rv.toArray
  have h3 := BxQ.new ((w.alloc (.cells lv.toArray tl)).alloc (.cells rv.toArray ti)) ti iv.toArray
  exact ⟨h1.bel (b1 _ _), by simpa using h2.bel (b1 _ (.cells iv.toArray ti)), by simpa using h3, (((Below.refl _ _).alloc (Nat.le_refl _) _).alloc (by simp) _).alloc (by simp; omega) _⟩
end
theorem toAsk_new (i o a b : Int) (w : World) : Calls Tryz.prog 37 #[.agg #[.int .i64 i, .int .i64 o, .int .i64 a, .int .i64 b]] w fun e w' => e = .returned (.agg #[.int .i64 i, .int .i64 o, .int .i64 a, .int .i64 b]) ∧ Below w.heap.size w w' := by
  go_enter Tryz.func37, Tryz.ntmps37
  go_wp2
  refine bodyPost_ret (v := .agg #[.int .i64 i, .int .i64 o, .int .i64 a, .int .i64 b]) (by simp [results, Tryz.results37, go_sem]) rfl ⟨rfl, ?_⟩
  repeat refine Below.setCell ?_ (by simp; try omega) _
  exact (((Below.refl _ _).alloc (Nat.le_refl _) _).alloc (by simp) _).alloc (by simp; omega) _
set_option maxRecDepth 100000 in
set_option maxHeartbeats 2000000 in
theorem szRec_or (kind id op a b sh anum : Int) (aok : Bool) (onum oop ov : Int) (a1 : Option Addr) (k1 c1 : Nat) (a2 : Option Addr) (k2 c2 : Nat) (a3 : Option Addr) (k3 c3 : Nat) (g1 : k1 ≤ maxLen) (g2 : k2 ≤ maxLen) (g3 : k3 ≤ maxLen) (w : World) :
    Calls Tryz.prog 11 #[.agg #[.int .i64 kind, .int .i64 id, .int .i64 op, .int .i64 a, .int .i64 b, .int .i64 sh, .int .i64 anum, .bool aok, .slice a1 k1 c1, .slice a2 k2 c2, .int .i64 onum, .int .i64 oop, .slice a3 k3 c3, .int .i64 ov], .int .i64 1048576] w fun e w' => ∃ x : Int, e = .returned (.int .i64 x) ∧ (decide (x < 0) = true ∨ (decide (x < 0) = false ∧ k1 ≤ 1048576 ∧ k2 ≤ 1048576 ∧ k3 ≤ 1048576)) ∧ Below w.heap.size w w' := by
  obtain ⟨W, hW⟩ : ∃ W, W = w.alloc (.cells #[.int .i64 kind, .int .i64 id, .int .i64 op, .int .i64 a, .int .i64 b, .int .i64 sh, .int .i64 anum, .bool aok, .slice a1 k1 c1, .slice a2 k2 c2, .int .i64 onum, .int .i64 oop, .slice a3 k3 c3, .int .i64 ov] 40) := ⟨_, rfl⟩
  have bW : Good w W := by rw [hW]; exact (Good.refl w).alloc _
  have X : BxQ W w.heap.size 40 #[.int .i64 kind, .int .i64 id, .int .i64 op, .int .i64 a, .int .i64 b, .int .i64 sh, .int .i64 anum, .bool aok, .slice a1 k1 c1, .slice a2 k2 c2, .int .i64 onum, .int .i64 oop, .slice a3 k3 c3, .int .i64 ov] := by rw [hW]; exact BxQ.new _ _ _
  have HA := hideIt (szAnswer_any anum aok k1 a1 c1 g1 k2 a2 c2 g2 W)
  have x6 := X.at 6 rfl
  have x7 := X.at 7 rfl
  have x8 := X.at 8 rfl
  have x9 := X.at 9 rfl
  have HX := hideIt X
  have HB := hideIt bW
  clear X bW
  unfold szA at HA
  by_cases h1 : k1 + k2 ≤ 1048576
  · rw [if_pos h1] at HA
    have e1 : decide ((1048576 : Int) - (k1 : Int) - (k2 : Int) < 0) = false := decide_eq_false (by omega)
    have HO : Hid (∀ U, Calls Tryz.prog 34 #[.agg #[.int .i64 onum, .int .i64 oop, .slice a3 k3 c3, .int .i64 ov], .int .i64 ((1048576 : Int) - (k1 : Int) - (k2 : Int))] U fun e v => e = .returned (.int .i64 (if k3 ≤ 1048576 - k1 - k2 then (1048576 : Int) - (k1 : Int) - (k2 : Int) - (k3 : Int) else -1)) ∧ Below U.heap.size U v) := fun U => by
      have ek : ((1048576 - k1 - k2 : Nat) : Int) = (1048576 : Int) - (k1 : Int) - (k2 : Int) := by omega
      have := szOrd_gen onum oop ov k3 (1048576 - k1 - k2) a3 c3 g3 (by omega) U
      rw [ek] at this
      exact this
    by_cases h2 : k3 ≤ 1048576 - k1 - k2
    · rw [if_pos h2] at HO
      have e2 : decide (((1048576 : Int) - (k1 : Int) - (k2 : Int) - (k3 : Int)) < 0) = false := decide_eq_false (by omega)
      go_enter Tryz.func11, Tryz.ntmps11
      go_upto_region 1 with fail
      rw [← hW]
      clear hW
      go_wp2_with (go_at_call 33; refine HA.out.mono ?_; rintro e w1 ⟨rfl, b1⟩; refine Hid.out ?_)
      refine (show ∀ {p : Prop}, p → Hid p from fun h => h) ?_
      have Y := HX.out.bel b1
      have y10 := Y.at 10 rfl
      have y11 := Y.at 11 rfl
      have y12 := Y.at 12 rfl
      have y13 := Y.at 13 rfl
      have HB1 := hideIt (HB.out.up b1)
      have HO1 := hideIt (HO.out w1)
      clear Y b1 HA HO x6 x7 x8 x9
      go_wp2_with (go_at_call 34; refine HO1.out.mono ?_; rintro e w2 ⟨rfl, b2⟩)
      go_ret
      exact ⟨((1048576 : Int) - (k1 : Int) - (k2 : Int) - (k3 : Int)), rfl, .inr ⟨e2, by omega, by omega, by omega⟩, HB1.out.up b2⟩
    · rw [if_neg h2] at HO
      have e2 : decide ((-1 : Int) < 0) = true := by decide
      go_enter Tryz.func11, Tryz.ntmps11
      go_upto_region 1 with fail
      rw [← hW]
      clear hW
      go_wp2_with (go_at_call 33; refine HA.out.mono ?_; rintro e w1 ⟨rfl, b1⟩; refine Hid.out ?_)
      refine (show ∀ {p : Prop}, p → Hid p from fun h => h) ?_
      have Y := HX.out.bel b1
      have y10 := Y.at 10 rfl
      have y11 := Y.at 11 rfl
      have y12 := Y.at 12 rfl
      have y13 := Y.at 13 rfl
      have HB1 := hideIt (HB.out.up b1)
      have HO1 := hideIt (HO.out w1)
      clear Y b1 HA HO x6 x7 x8 x9
      go_wp2_with (go_at_call 34; refine HO1.out.mono ?_; rintro e w2 ⟨rfl, b2⟩)
      go_ret
      exact ⟨-1, rfl, .inl e2, HB1.out.up b2⟩
  · rw [if_neg h1] at HA
    have e1 : decide ((-1 : Int) < 0) = true := by decide
    go_enter Tryz.func11, Tryz.ntmps11
    go_upto_region 1 with fail
    rw [← hW]
    clear hW
    go_wp2_with (go_at_call 33; refine HA.out.mono ?_; rintro e w1 ⟨rfl, b1⟩)
    go_ret
    exact ⟨-1, rfl, .inl e1, HB.out.up b1⟩
set_option maxRecDepth 100000 in
set_option maxHeartbeats 4000000 in
theorem toRec_any (kind id op a b sh anum : Int) (aok : Bool) (onum oop ov : Int) (a1 : Option Addr) (k1 c1 : Nat) (a2 : Option Addr) (k2 c2 : Nat) (a3 : Option Addr) (k3 c3 : Nat) (aes : List EdgeV) (als : List Int) (oes : List EdgeV) (l1 : k1 ≤ 1048576) (l2 : k2 ≤ 1048576) (l3 : k3 ≤ 1048576) (w : World) (h1 : Es w w.heap.size a1 k1 aes) (h2 : Is w w.heap.size a2 k2 als) (h3 : Es w w.heap.size a3 k3 oes) :
    Calls Tryz.prog 14 #[.agg #[.int .i64 kind, .int .i64 id, .int .i64 op, .int .i64 a, .int .i64 b, .int .i64 sh, .int .i64 anum, .bool aok, .slice a1 k1 c1, .slice a2 k2 c2, .int .i64 onum, .int .i64 oop, .slice a3 k3 c3, .int .i64 ov]] w fun e w' => ∃ g1 g2 g3 : Nat, e = .returned (.agg #[.int .i64 kind, .int .i64 id, .int .i64 op, .int .i64 a, .int .i64 b, .int .i64 sh, .int .i64 anum, .bool aok, .slice (some ⟨g1, 0, none⟩) k1 k1, .slice (some ⟨g2, 0, none⟩) k2 k2, .int .i64 onum, .int .i64 oop, .slice (some ⟨g3, 0, none⟩) k3 k3, .int .i64 ov]) ∧ Es w' w'.heap.size (some ⟨g1, 0, none⟩) k1 aes ∧ Is w' w'.heap.size (some ⟨g2, 0, none⟩) k2 als ∧ Es w' w'.heap.size (some ⟨g3, 0, none⟩) k3 oes ∧ Below w.heap.size w w' := by
  obtain ⟨W1, hW1⟩ : ∃ W1, W1 = ((w.alloc (.cells #[.int .i64 kind, .int .i64 id, .int .i64 op, .int .i64 a, .int .i64 b, .int .i64 sh, .int .i64 anum, .bool aok, .slice a1 k1 c1, .slice a2 k2 c2, .int .i64 onum, .int .i64 oop, .slice a3 k3 c3, .int .i64 ov] 40)).alloc (.cells #[.int .i64 0, .int .i64 0, .int .i64 0, .int .i64 0, .int .i64 0, .int .i64 0, .int .i64 0, .bool false, .slice none 0 0, .slice none 0 0, .int .i64 0, .int .i64 0, .slice none 0 0, .int .i64 0] 57)).alloc (.cells #[.int .i64 kind, .int .i64 0, .int .i64 0, .int .i64 0, .int .i64 0, .int .i64 0, .int .i64 0, .bool false, .slice none 0 0, .slice none 0 0, .int .i64 0, .int .i64 0, .slice none 0 0, .int .i64 0] 57) := ⟨_, rfl⟩
  have S1 := TQ.start w 40 57 [.int .i64 kind, .int .i64 id, .int .i64 op, .int .i64 a, .int .i64 b, .int .i64 sh, .int .i64 anum, .bool aok, .slice a1 k1 c1, .slice a2 k2 c2, .int .i64 onum, .int .i64 oop, .slice a3 k3 c3, .int .i64 ov] [.int .i64 0, .int .i64 0, .int .i64 0, .int .i64 0, .int .i64 0, .int .i64 0, .int .i64 0, .bool false, .slice none 0 0, .slice none 0 0, .int .i64 0, .int .i64 0, .slice none 0 0, .int .i64 0] [.int .i64 kind, .int .i64 0, .int .i64 0, .int .i64 0, .int .i64 0, .int .i64 0, .int .i64 0, .bool false, .slice none 0 0, .slice none 0 0, .int .i64 0, .int .i64 0, .slice none 0 0, .int .i64 0]
  rw [← hW1] at S1
  have HT := hideIt (toAsk_new id op a b W1)
  have HE := hideIt (And.intro h1 (And.intro h2 h3))
  have x1 := S1.lw.at 1 rfl
  have x2 := S1.lw.at 2 rfl
  have x3 := S1.lw.at 3 rfl
  have x4 := S1.lw.at 4 rfl
  have HS1 := hideIt S1
  clear h1 h2 h3 S1
  go_enter Tryz.func14, Tryz.ntmps14
  go_upto_region 3 with fail
  rw [← hW1]
  clear hW1
  go_wp2_with (go_at_call 37; refine HT.out.mono ?_; rintro e w2 ⟨rfl, b2⟩; refine Hid.out ?_)
  refine (show ∀ {p : Prop}, p → Hid p from fun h => h) ?_
  have T2 := HS1.out.up b2
  have S2 := (T2.set 1 [.int .i64 id, .int .i64 op, .int .i64 a, .int .i64 b]).set 5 [.int .i64 sh]
  obtain ⟨W2, hW2⟩ : ∃ W2, W2 = setQ (setQ w2 (w.heap.size + 1 + 1) 1 [.int .i64 id, .int .i64 op, .int .i64 a, .int .i64 b]) (w.heap.size + 1 + 1) 5 [.int .i64 sh] := ⟨_, rfl⟩
  rw [← hW2] at S2
  dsimp only [setQ] at hW2
  have y1 := T2.out.at 1 rfl
  have y2 := T2.out.at 2 rfl
  have y3 := T2.out.at 3 rfl
  have y4 := T2.out.at 4 rfl
  have y5 := T2.out.at 5 rfl
  have f1 := T2.out.frozen 1
  have f2 := T2.out.frozen 2
  have f3 := T2.out.frozen 3
  have f4 := T2.out.frozen 4
  have f5 := T2.out.frozen 5
  have u5 := T2.lw.at 5 rfl
  have z6 := S2.lw.at 6 rfl
  have z7 := S2.lw.at 7 rfl
  have z8 := S2.lw.at 8 rfl
  have z9 := S2.lw.at 9 rfl
  have HS2 := hideIt S2
  have HO := hideIt (toAnswer_any anum aok aes als k1 a1 c1 l1 k2 a2 c2 l2 W2 (HE.out.1.up S2.below) (HE.out.2.1.up S2.below))
  clear x1 x2 x3 x4 HT T2 S2 HS1 b2
  go_upto_region 5 with fail
  rw [← hW2]
  clear hW2 y1 y2 y3 y4 y5 f1 f2 f3 f4 f5 u5
  go_wp2_with (go_at_call 38; refine HO.out.mono ?_; rintro e w3 ⟨g1, g2, rfl, o1, o2, b3⟩; refine Hid.out ?_)
  refine (show ∀ {p : Prop}, p → Hid p from fun h => h) ?_
  have T3 := HS2.out.up b3
  have S3 := T3.set 6 [.int .i64 anum, .bool aok, .slice (some ⟨g1, 0, none⟩) k1 k1, .slice (some ⟨g2, 0, none⟩) k2 k2]
  have zl := HS2.out.lt
  have p1 := own_setQ (own_mono o1 zl) (G := w.heap.size + 1 + 1) (by omega) 6 [.int .i64 anum, .bool aok, .slice (some ⟨g1, 0, none⟩) k1 k1, .slice (some ⟨g2, 0, none⟩) k2 k2]
  have p2 := own_setQ (own_mono o2 zl) (G := w.heap.size + 1 + 1) (by omega) 6 [.int .i64 anum, .bool aok, .slice (some ⟨g1, 0, none⟩) k1 k1, .slice (some ⟨g2, 0, none⟩) k2 k2]
  obtain ⟨W3, hW3⟩ : ∃ W3, W3 = setQ w3 (w.heap.size + 1 + 1) 6 [.int .i64 anum, .bool aok, .slice (some ⟨g1, 0, none⟩) k1 k1, .slice (some ⟨g2, 0, none⟩) k2 k2] := ⟨_, rfl⟩
  rw [← hW3] at S3 p1 p2
  dsimp only [setQ] at hW3
  have y6 := T3.out.at 6 rfl
  have y7 := T3.out.at 7 rfl
  have y8 := T3.out.at 8 rfl
  have y9 := T3.out.at 9 rfl
  have f6 := T3.out.frozen 6
  have f7 := T3.out.frozen 7
  have f8 := T3.out.frozen 8
  have f9 := T3.out.frozen 9
  have x10 := S3.lw.at 10 rfl
  have x11 := S3.lw.at 11 rfl
  have x12 := S3.lw.at 12 rfl
  have x13 := S3.lw.at 13 rfl
  have HS3 := hideIt S3
  have HP3 := hideIt (And.intro p1 p2)
  have HO2 := hideIt (toOrder_any onum oop ov oes k3 a3 c3 l3 W3 (HE.out.2.2.up S3.below))
  clear o1 o2 b3 T3 S3 p1 p2 HO HS2 HE zl z6 z7 z8 z9
  go_upto_region 6 with fail
  rw [← hW3]
  clear hW3 y6 y7 y8 y9 f6 f7 f8 f9
  go_wp2_with (go_at_call 39; refine HO2.out.mono ?_; rintro e w4 ⟨g3, rfl, o3, b4⟩; refine Hid.out ?_)
  refine (show ∀ {p : Prop}, p → Hid p from fun h => h) ?_
  have T4 := HS3.out.up b4
  have S4 := T4.set 10 [.int .i64 onum, .int .i64 oop, .slice (some ⟨g3, 0, none⟩) k3 k3, .int .i64 ov]
  have zl := HS3.out.lt
  have p1 := own_setQ (own_up10 HP3.out.1 b4) (G := w.heap.size + 1 + 1) (by omega) 10 [.int .i64 onum, .int .i64 oop, .slice (some ⟨g3, 0, none⟩) k3 k3, .int .i64 ov]
  have p2 := own_setQ (own_up10 HP3.out.2 b4) (G := w.heap.size + 1 + 1) (by omega) 10 [.int .i64 onum, .int .i64 oop, .slice (some ⟨g3, 0, none⟩) k3 k3, .int .i64 ov]
  have p3 := own_setQ (own_mono o3 zl) (G := w.heap.size + 1 + 1) (by omega) 10 [.int .i64 onum, .int .i64 oop, .slice (some ⟨g3, 0, none⟩) k3 k3, .int .i64 ov]
  obtain ⟨W4, hW4⟩ : ∃ W4, W4 = setQ w4 (w.heap.size + 1 + 1) 10 [.int .i64 onum, .int .i64 oop, .slice (some ⟨g3, 0, none⟩) k3 k3, .int .i64 ov] := ⟨_, rfl⟩
  rw [← hW4] at S4 p1 p2 p3
  dsimp only [setQ] at hW4
  have y10 := T4.out.at 10 rfl
  have y11 := T4.out.at 11 rfl
  have y12 := T4.out.at 12 rfl
  have y13 := T4.out.at 13 rfl
  have f10 := T4.out.frozen 10
  have f11 := T4.out.frozen 11
  have f12 := T4.out.frozen 12
  have f13 := T4.out.frozen 13
  have HS4 := hideIt S4
  have HP4 := hideIt (And.intro p1 (And.intro p2 p3))
  clear o3 b4 T4 S4 p1 p2 p3 HO2 HS3 HP3 zl x10 x11 x12 x13
  go_upto_region 7 with fail
  rw [← hW4]
  clear hW4 y10 y11 y12 y13 f10 f11 f12 f13
  have k_0 := HS4.out.out.at 0 rfl
  have k_1 := HS4.out.out.at 1 rfl
  have k_2 := HS4.out.out.at 2 rfl
  have k_3 := HS4.out.out.at 3 rfl
  have k_4 := HS4.out.out.at 4 rfl
  have k_5 := HS4.out.out.at 5 rfl
  have k_6 := HS4.out.out.at 6 rfl
  have k_7 := HS4.out.out.at 7 rfl
  have k_8 := HS4.out.out.at 8 rfl
  have k_9 := HS4.out.out.at 9 rfl
  have k_10 := HS4.out.out.at 10 rfl
  have k_11 := HS4.out.out.at 11 rfl
  have k_12 := HS4.out.out.at 12 rfl
  have k_13 := HS4.out.out.at 13 rfl
  have r_0 := HS4.out.rs.at 0 rfl
  have r_1 := HS4.out.rs.at 1 rfl
  have r_2 := HS4.out.rs.at 2 rfl
  have r_3 := HS4.out.rs.at 3 rfl
  have r_4 := HS4.out.rs.at 4 rfl
  have r_5 := HS4.out.rs.at 5 rfl
  have r_6 := HS4.out.rs.at 6 rfl
  have r_7 := HS4.out.rs.at 7 rfl
  have r_8 := HS4.out.rs.at 8 rfl
  have r_9 := HS4.out.rs.at 9 rfl
  have r_10 := HS4.out.rs.at 10 rfl
  have r_11 := HS4.out.rs.at 11 rfl
  have r_12 := HS4.out.rs.at 12 rfl
  have r_13 := HS4.out.rs.at 13 rfl
  have fz := HS4.out.rs.frozen
  have q0 := fz 0
  have q1 := fz 1
  have q2 := fz 2
  have q3 := fz 3
  have q4 := fz 4
  have q5 := fz 5
  have q6 := fz 6
  have q7 := fz 7
  have q8 := fz 8
  have q9 := fz 9
  have q10 := fz 10
  have q11 := fz 11
  have q12 := fz 12
  have q13 := fz 13
  have HF : Hid (Es (setQ W4 (w.heap.size + 1) 0 [.int .i64 kind, .int .i64 id, .int .i64 op, .int .i64 a, .int .i64 b, .int .i64 sh, .int .i64 anum, .bool aok, .slice (some ⟨g1, 0, none⟩) k1 k1, .slice (some ⟨g2, 0, none⟩) k2 k2, .int .i64 onum, .int .i64 oop, .slice (some ⟨g3, 0, none⟩) k3 k3, .int .i64 ov]) (setQ W4 (w.heap.size + 1) 0 [.int .i64 kind, .int .i64 id, .int .i64 op, .int .i64 a, .int .i64 b, .int .i64 sh, .int .i64 anum, .bool aok, .slice (some ⟨g1, 0, none⟩) k1 k1, .slice (some ⟨g2, 0, none⟩) k2 k2, .int .i64 onum, .int .i64 oop, .slice (some ⟨g3, 0, none⟩) k3 k3, .int .i64 ov]).heap.size (some ⟨g1, 0, none⟩) k1 aes ∧ Is (setQ W4 (w.heap.size + 1) 0 [.int .i64 kind, .int .i64 id, .int .i64 op, .int .i64 a, .int .i64 b, .int .i64 sh, .int .i64 anum, .bool aok, .slice (some ⟨g1, 0, none⟩) k1 k1, .slice (some ⟨g2, 0, none⟩) k2 k2, .int .i64 onum, .int .i64 oop, .slice (some ⟨g3, 0, none⟩) k3 k3, .int .i64 ov]) (setQ W4 (w.heap.size + 1) 0 [.int .i64 kind, .int .i64 id, .int .i64 op, .int .i64 a, .int .i64 b, .int .i64 sh, .int .i64 anum, .bool aok, .slice (some ⟨g1, 0, none⟩) k1 k1, .slice (some ⟨g2, 0, none⟩) k2 k2, .int .i64 onum, .int .i64 oop, .slice (some ⟨g3, 0, none⟩) k3 k3, .int .i64 ov]).heap.size (some ⟨g2, 0, none⟩) k2 als ∧ Es (setQ W4 (w.heap.size + 1) 0 [.int .i64 kind, .int .i64 id, .int .i64 op, .int .i64 a, .int .i64 b, .int .i64 sh, .int .i64 anum, .bool aok, .slice (some ⟨g1, 0, none⟩) k1 k1, .slice (some ⟨g2, 0, none⟩) k2 k2, .int .i64 onum, .int .i64 oop, .slice (some ⟨g3, 0, none⟩) k3 k3, .int .i64 ov]) (setQ W4 (w.heap.size + 1) 0 [.int .i64 kind, .int .i64 id, .int .i64 op, .int .i64 a, .int .i64 b, .int .i64 sh, .int .i64 anum, .bool aok, .slice (some ⟨g1, 0, none⟩) k1 k1, .slice (some ⟨g2, 0, none⟩) k2 k2, .int .i64 onum, .int .i64 oop, .slice (some ⟨g3, 0, none⟩) k3 k3, .int .i64 ov]).heap.size (some ⟨g3, 0, none⟩) k3 oes ∧ Below w.heap.size w (setQ W4 (w.heap.size + 1) 0 [.int .i64 kind, .int .i64 id, .int .i64 op, .int .i64 a, .int .i64 b, .int .i64 sh, .int .i64 anum, .bool aok, .slice (some ⟨g1, 0, none⟩) k1 k1, .slice (some ⟨g2, 0, none⟩) k2 k2, .int .i64 onum, .int .i64 oop, .slice (some ⟨g3, 0, none⟩) k3 k3, .int .i64 ov])) := ⟨Es_of_own (own_setQ HP4.out.1 (by omega) _ _), Is_of_own (own_setQ HP4.out.2.1 (by omega) _ _), Es_of_own (own_setQ HP4.out.2.2 (by omega) _ _), below_setQ HS4.out.below (by omega) _ _⟩
  have XF := HS4.out.rs.setQ 0 [.int .i64 kind, .int .i64 id, .int .i64 op, .int .i64 a, .int .i64 b, .int .i64 sh, .int .i64 anum, .bool aok, .slice (some ⟨g1, 0, none⟩) k1 k1, .slice (some ⟨g2, 0, none⟩) k2 k2, .int .i64 onum, .int .i64 oop, .slice (some ⟨g3, 0, none⟩) k3 k3, .int .i64 ov]
  have c_0 := XF.at 0 rfl
  have c_1 := XF.at 1 rfl
  have c_2 := XF.at 2 rfl
  have c_3 := XF.at 3 rfl
  have c_4 := XF.at 4 rfl
  have c_5 := XF.at 5 rfl
  have c_6 := XF.at 6 rfl
  have c_7 := XF.at 7 rfl
  have c_8 := XF.at 8 rfl
  have c_9 := XF.at 9 rfl
  have c_10 := XF.at 10 rfl
  have c_11 := XF.at 11 rfl
  have c_12 := XF.at 12 rfl
  have c_13 := XF.at 13 rfl
  dsimp only [setQ] at HF c_0 c_1 c_2 c_3 c_4 c_5 c_6 c_7 c_8 c_9 c_10 c_11 c_12 c_13
  have HC := hideIt (And.intro c_0 (And.intro c_1 (And.intro c_2 (And.intro c_3 (And.intro c_4 (And.intro c_5 (And.intro c_6 (And.intro c_7 (And.intro c_8 (And.intro c_9 (And.intro c_10 (And.intro c_11 (And.intro c_12 c_13)))))))))))))
  clear fz HP4 HS4 XF c_0 c_1 c_2 c_3 c_4 c_5 c_6 c_7 c_8 c_9 c_10 c_11 c_12 c_13
  go_wp2
  obtain ⟨c_0, c_1, c_2, c_3, c_4, c_5, c_6, c_7, c_8, c_9, c_10, c_11, c_12, c_13⟩ := HC.out
  exact bodyPost_ret (v := .agg #[.int .i64 kind, .int .i64 id, .int .i64 op, .int .i64 a, .int .i64 b, .int .i64 sh, .int .i64 anum, .bool aok, .slice (some ⟨g1, 0, none⟩) k1 k1, .slice (some ⟨g2, 0, none⟩) k2 k2, .int .i64 onum, .int .i64 oop, .slice (some ⟨g3, 0, none⟩) k3 k3, .int .i64 ov]) (by simp [results, Tryz.results14, go_sem, c_0, c_1, c_2, c_3, c_4, c_5, c_6, c_7, c_8, c_9, c_10, c_11, c_12, c_13]) rfl ⟨g1, g2, g3, rfl, HF.out.1, HF.out.2.1, HF.out.2.2.1, HF.out.2.2.2⟩
theorem eqAsk_yes (i o a b : Int) (w : World) : Calls Tryz.prog 44 #[.agg #[.int .i64 i, .int .i64 o, .int .i64 a, .int .i64 b], .agg #[.int .i64 i, .int .i64 o, .int .i64 a, .int .i64 b]] w fun e w' => e = .returned (.bool true) ∧ Below w.heap.size w w' := by
  have d1 : (i != i) = false := by simp
  have d2 : (o != o) = false := by simp
  have d3 : (a != a) = false := by simp
  have d4 : (b != b) = false := by simp
  go_enter Tryz.func44, Tryz.ntmps44
  go_wp2
  go_ret
  exact ⟨rfl, ((Below.refl _ _).alloc (Nat.le_refl _) _).alloc (by simp) _⟩
set_option maxRecDepth 100000 in
set_option maxHeartbeats 2000000 in
theorem eqRec_same (kind id op a b sh anum : Int) (aok : Bool) (onum oop ov : Int) (a1 : Option Addr) (k1 c1 : Nat) (a2 : Option Addr) (k2 c2 : Nat) (a3 : Option Addr) (k3 c3 : Nat) (b1 : Option Addr) (e1 : Nat) (b2 : Option Addr) (e2 : Nat) (b3 : Option Addr) (e3 : Nat) (aes : List EdgeV) (als : List Int) (oes : List EdgeV) (l1 : k1 ≤ 1048576) (l2 : k2 ≤ 1048576) (l3 : k3 ≤ 1048576) (w : World) (h1 : Es w w.heap.size a1 k1 aes) (h2 : Is w w.heap.size a2 k2 als) (h3 : Es w w.heap.size a3 k3 oes) (h1' : Es w w.heap.size b1 k1 aes) (h2' : Is w w.heap.size b2 k2 als) (h3' : Es w w.heap.size b3 k3 oes) :
    Calls Tryz.prog 18 #[.agg #[.int .i64 kind, .int .i64 id, .int .i64 op, .int .i64 a, .int .i64 b, .int .i64 sh, .int .i64 anum, .bool aok, .slice a1 k1 c1, .slice a2 k2 c2, .int .i64 onum, .int .i64 oop, .slice a3 k3 c3, .int .i64 ov], .agg #[.int .i64 kind, .int .i64 id, .int .i64 op, .int .i64 a, .int .i64 b, .int .i64 sh, .int .i64 anum, .bool aok, .slice b1 k1 e1, .slice b2 k2 e2, .int .i64 onum, .int .i64 oop, .slice b3 k3 e3, .int .i64 ov]] w fun e w' => e = .returned (.bool true) ∧ Below w.heap.size w w' := by
  obtain ⟨W, hW⟩ : ∃ W, W = (w.alloc (.cells #[.int .i64 kind, .int .i64 id, .int .i64 op, .int .i64 a, .int .i64 b, .int .i64 sh, .int .i64 anum, .bool aok, .slice a1 k1 c1, .slice a2 k2 c2, .int .i64 onum, .int .i64 oop, .slice a3 k3 c3, .int .i64 ov] 57)).alloc (.cells #[.int .i64 kind, .int .i64 id, .int .i64 op, .int .i64 a, .int .i64 b, .int .i64 sh, .int .i64 anum, .bool aok, .slice b1 k1 e1, .slice b2 k2 e2, .int .i64 onum, .int .i64 oop, .slice b3 k3 e3, .int .i64 ov] 57) := ⟨_, rfl⟩
  have bW : Good w W := by rw [hW]; exact ((Good.refl w).alloc _).alloc _
  have X : BxQ W w.heap.size 57 #[.int .i64 kind, .int .i64 id, .int .i64 op, .int .i64 a, .int .i64 b, .int .i64 sh, .int .i64 anum, .bool aok, .slice a1 k1 c1, .slice a2 k2 c2, .int .i64 onum, .int .i64 oop, .slice a3 k3 c3, .int .i64 ov] := by rw [hW]; exact (BxQ.new w _ _).gr (World.grownBy_alloc _ _ none) (by simp)
  have X' : BxQ W (w.heap.size + 1) 57 #[.int .i64 kind, .int .i64 id, .int .i64 op, .int .i64 a, .int .i64 b, .int .i64 sh, .int .i64 anum, .bool aok, .slice b1 k1 e1, .slice b2 k2 e2, .int .i64 onum, .int .i64 oop, .slice b3 k3 e3, .int .i64 ov] := by
    have h := BxQ.new (w.alloc (.cells #[.int .i64 kind, .int .i64 id, .int .i64 op, .int .i64 a, .int .i64 b, .int .i64 sh, .int .i64 anum, .bool aok, .slice a1 k1 c1, .slice a2 k2 c2, .int .i64 onum, .int .i64 oop, .slice a3 k3 c3, .int .i64 ov] 57)) 57 #[.int .i64 kind, .int .i64 id, .int .i64 op, .int .i64 a, .int .i64 b, .int .i64 sh, .int .i64 anum, .bool aok, .slice b1 k1 e1, .slice b2 k2 e2, .int .i64 onum, .int .i64 oop, .slice b3 k3 e3, .int .i64 ov]
    rw [show (w.alloc (.cells #[.int .i64 kind, .int .i64 id, .int .i64 op, .int .i64 a, .int .i64 b, .int .i64 sh, .int .i64 anum, .bool aok, .slice a1 k1 c1, .slice a2 k2 c2, .int .i64 onum, .int .i64 oop, .slice a3 k3 c3, .int .i64 ov] 57)).heap.size = w.heap.size + 1 by simp] at h
    rw [hW]; exact h
  have HK := hideIt (eqAsk_yes id op a b W)
  have HA : Hid (∀ U, Good w U → Calls Tryz.prog 45 #[.agg #[.int .i64 anum, .bool aok, .slice a1 k1 c1, .slice a2 k2 c2], .agg #[.int .i64 anum, .bool aok, .slice b1 k1 e1, .slice b2 k2 e2]] U fun e v => e = .returned (.bool true) ∧ Below U.heap.size U v) := fun U hU => eqAnswer_same anum aok aes als k1 a1 b1 c1 e1 l1 k2 a2 b2 c2 e2 l2 U (h1.up hU) (h1'.up hU) (h2.up hU) (h2'.up hU)
  have HO : Hid (∀ U, Good w U → Calls Tryz.prog 46 #[.agg #[.int .i64 onum, .int .i64 oop, .slice a3 k3 c3, .int .i64 ov], .agg #[.int .i64 onum, .int .i64 oop, .slice b3 k3 e3, .int .i64 ov]] U fun e v => e = .returned (.bool true) ∧ Below U.heap.size U v) := fun U hU => eqOrder_same onum oop ov oes k3 a3 b3 c3 e3 l3 U (h3.up hU) (h3'.up hU)
  have HB := hideIt bW
  have HX := hideIt X
  have HX' := hideIt X'
  have d1 : (kind != kind) = false := by simp
  have d2 : (sh != sh) = false := by simp
  have x0 := X.at 0 rfl
  have x1 := X.at 1 rfl
  have x2 := X.at 2 rfl
  have x3 := X.at 3 rfl
  have x4 := X.at 4 rfl
  have y0 := X'.at 0 rfl
  have y1 := X'.at 1 rfl
  have y2 := X'.at 2 rfl
  have y3 := X'.at 3 rfl
  have y4 := X'.at 4 rfl
  clear h1 h2 h3 h1' h2' h3' bW X X'
  go_enter Tryz.func18, Tryz.ntmps18
  go_upto_region 1 with fail
  rw [← hW]
  clear hW
  go_wp2_with (go_at_call 44; refine HK.out.mono ?_; rintro e w1 ⟨rfl, t1⟩; refine Hid.out ?_)
  refine (show ∀ {p : Prop}, p → Hid p from fun h => h) ?_
  have Y := HX.out.bel t1
  have Y' := HX'.out.bel t1
  have HG1 := hideIt (HB.out.up t1)
  have HA1 := hideIt (HA.out w1 HG1.out)
  clear x0 x1 x2 x3 x4 y0 y1 y2 y3 y4 HK t1
  have x5 := Y.at 5 rfl
  have x6 := Y.at 6 rfl
  have x7 := Y.at 7 rfl
  have x8 := Y.at 8 rfl
  have x9 := Y.at 9 rfl
  have y5 := Y'.at 5 rfl
  have y6 := Y'.at 6 rfl
  have y7 := Y'.at 7 rfl
  have y8 := Y'.at 8 rfl
  have y9 := Y'.at 9 rfl
  have HY := hideIt Y
  have HY' := hideIt Y'
  clear Y Y'
  go_wp2_with (go_at_call 45; refine HA1.out.mono ?_; rintro e w2 ⟨rfl, t2⟩; refine Hid.out ?_)
  refine (show ∀ {p : Prop}, p → Hid p from fun h => h) ?_
  have Z := HY.out.bel t2
  have Z' := HY'.out.bel t2
  have HG2 := hideIt (HG1.out.up t2)
  have HO1 := hideIt (HO.out w2 HG2.out)
  clear x5 x6 x7 x8 x9 y5 y6 y7 y8 y9 HA1 t2
  have x10 := Z.at 10 rfl
  have x11 := Z.at 11 rfl
  have x12 := Z.at 12 rfl
  have x13 := Z.at 13 rfl
  have y10 := Z'.at 10 rfl
  have y11 := Z'.at 11 rfl
  have y12 := Z'.at 12 rfl
  have y13 := Z'.at 13 rfl
  clear Z Z'
  go_wp2_with (go_at_call 46; refine HO1.out.mono ?_; rintro e w3 ⟨rfl, t3⟩)
  go_ret
  exact ⟨rfl, HG2.out.up t3⟩
end Go.Proofs.YthnibebljbljdaaGreatDoor
