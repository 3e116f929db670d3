/- A record laid anew is one's own; it is marked. -/
import Derived.Test.YthnibebljbljdaaGreatDoorKLu14
import Derived.Test.YthnibebljbljdaaGreatDoorKLt14
namespace Go.Proofs.YthnibebljbljdaaGreatDoor
open Go.RowKit Vt

theorem own_trnL {P : Nat → Prop} {w w' : World} {B e s n : Nat} {v : Value} {xs : List Value} (h : w.ownsRow B e s v n xs) (hg : Trn P w w') (hne : ∀ g, v.ownBlock = some g → ¬ P g) : w'.ownsRow B e s v n xs := by
  refine ⟨h.1, ?_⟩
  rcases h.2 with h3 | ⟨g, cap, cur, hv, hg1, hcur, hrest⟩
  · exact .inl h3
  · refine .inr ⟨g, cap, cur, hv, hg1, ?_, hrest⟩
    rw [hg.block g (h.lt g (by rw [hv]; rfl)).2 (hne g (by rw [hv]; rfl))]
    exact hcur
theorem BxQ.trnL {P : Nat → Prop} {w w' : World} {b : Nat} {t : TypeId} {vs : Array Value} (h : BxQ w b t vs) (hg : Trn P w w') (hne : ¬ P b) : BxQ w' b t vs := by
  unfold BxQ
  rw [hg.block b h.lt hne]
  exact h
theorem trn_belowL {w u : World} (h : Below w.heap.size w u) : Trn (fun _ => False) w u := ⟨h.os, h.tape, h.output, h.size, fun k hk _ => h.block k hk⟩
theorem trn_impL {P R : Nat → Prop} {u v : World} (h : Trn P u v) (hR : ∀ i, P i → R i) : Trn R u v := ⟨h.os, h.tape, h.output, h.size, fun i hi ho => h.block i hi (fun hp => ho (hR i hp))⟩
set_option maxRecDepth 100000 in
set_option maxHeartbeats 4000000 in
theorem toRec_own (kind id op a b sh anum : Int) (aok : Bool) (onum oop ov : Int) (a1 : Option Addr) (k1 c1 : Nat) (a2 : Option Addr) (k2 c2 : Nat) (a3 : Option Addr) (k3 c3 : Nat) (aes : List EdgeV) (als : List Int) (oes : List EdgeV) (l1 : k1 ≤ 1048576) (l2 : k2 ≤ 1048576) (l3 : k3 ≤ 1048576) (w : World) (h1 : Es w w.heap.size a1 k1 aes) (h2 : Is w w.heap.size a2 k2 als) (h3 : Es w w.heap.size a3 k3 oes) :
    Calls Tryz.prog 14 #[.agg #[.int .i64 kind, .int .i64 id, .int .i64 op, .int .i64 a, .int .i64 b, .int .i64 sh, .int .i64 anum, .bool aok, .slice a1 k1 c1, .slice a2 k2 c2, .int .i64 onum, .int .i64 oop, .slice a3 k3 c3, .int .i64 ov]] w fun e w' => ∃ g1 g2 g3 : Nat, e = .returned (.agg #[.int .i64 kind, .int .i64 id, .int .i64 op, .int .i64 a, .int .i64 b, .int .i64 sh, .int .i64 anum, .bool aok, .slice (some ⟨g1, 0, none⟩) k1 k1, .slice (some ⟨g2, 0, none⟩) k2 k2, .int .i64 onum, .int .i64 oop, .slice (some ⟨g3, 0, none⟩) k3 k3, .int .i64 ov]) ∧ (w').ownsRow w.heap.size 120 2 (.slice (some ⟨g1, 0, none⟩) k1 k1) k1 (ecells aes) ∧ (w').ownsRow w.heap.size 3 1 (.slice (some ⟨g2, 0, none⟩) k2 k2) k2 (ic als) ∧ (w').ownsRow w.heap.size 120 2 (.slice (some ⟨g3, 0, none⟩) k3 k3) k3 (ecells oes) ∧ g1 ≠ g3 ∧ Below w.heap.size w w' := by
  obtain ⟨W1, hW1⟩ : ∃ W1, W1 = ((w.alloc (.cells #[.int .i64 kind, .int .i64 id, .int .i64 op, .int .i64 a, .int .i64 b, .int .i64 sh, .int .i64 anum, .bool aok, .slice a1 k1 c1, .slice a2 k2 c2, .int .i64 onum, .int .i64 oop, .slice a3 k3 c3, .int .i64 ov] 40)).alloc (.cells #[.int .i64 0, .int .i64 0, .int .i64 0, .int .i64 0, .int .i64 0, .int .i64 0, .int .i64 0, .bool false, .slice none 0 0, .slice none 0 0, .int .i64 0, .int .i64 0, .slice none 0 0, .int .i64 0] 57)).alloc (.cells #[.int .i64 kind, .int .i64 0, .int .i64 0, .int .i64 0, .int .i64 0, .int .i64 0, .int .i64 0, .bool false, .slice none 0 0, .slice none 0 0, .int .i64 0, .int .i64 0, .slice none 0 0, .int .i64 0] 57) := ⟨_, rfl⟩
  have S1 := TQ.start w 40 57 [.int .i64 kind, .int .i64 id, .int .i64 op, .int .i64 a, .int .i64 b, .int .i64 sh, .int .i64 anum, .bool aok, .slice a1 k1 c1, .slice a2 k2 c2, .int .i64 onum, .int .i64 oop, .slice a3 k3 c3, .int .i64 ov] [.int .i64 0, .int .i64 0, .int .i64 0, .int .i64 0, .int .i64 0, .int .i64 0, .int .i64 0, .bool false, .slice none 0 0, .slice none 0 0, .int .i64 0, .int .i64 0, .slice none 0 0, .int .i64 0] [.int .i64 kind, .int .i64 0, .int .i64 0, .int .i64 0, .int .i64 0, .int .i64 0, .int .i64 0, .bool false, .slice none 0 0, .slice none 0 0, .int .i64 0, .int .i64 0, .slice none 0 0, .int .i64 0]
  rw [← hW1] at S1
  have HT := hideIt (toAsk_new id op a b W1)
  have HE := hideIt (And.intro h1 (And.intro h2 h3))
  have x1 := S1.lw.at 1 rfl
  have x2 := S1.lw.at 2 rfl
  have x3 := S1.lw.at 3 rfl
  have x4 := S1.lw.at 4 rfl
  have HS1 := hideIt S1
  clear h1 h2 h3 S1
  go_enter Tryz.func14, Tryz.ntmps14
  go_upto_region 3 with fail
  rw [← hW1]
  clear hW1
  go_wp2_with (go_at_call 37; refine HT.out.mono ?_; rintro e w2 ⟨rfl, b2⟩; refine Hid.out ?_)
  refine (show ∀ {p : Prop}, p → Hid p from fun h => h) ?_
  have T2 := HS1.out.up b2
  have S2 := (T2.set 1 [.int .i64 id, .int .i64 op, .int .i64 a, .int .i64 b]).set 5 [.int .i64 sh]
  obtain ⟨W2, hW2⟩ : ∃ W2, W2 = setQ (setQ w2 (w.heap.size + 1 + 1) 1 [.int .i64 id, .int .i64 op, .int .i64 a, .int .i64 b]) (w.heap.size + 1 + 1) 5 [.int .i64 sh] := ⟨_, rfl⟩
  rw [← hW2] at S2
  dsimp only [setQ] at hW2
  have y1 := T2.out.at 1 rfl
  have y2 := T2.out.at 2 rfl
  have y3 := T2.out.at 3 rfl
  have y4 := T2.out.at 4 rfl
  have y5 := T2.out.at 5 rfl
  have f1 := T2.out.frozen 1
  have f2 := T2.out.frozen 2
  have f3 := T2.out.frozen 3
  have f4 := T2.out.frozen 4
  have f5 := T2.out.frozen 5
  have u5 := T2.lw.at 5 rfl
  have z6 := S2.lw.at 6 rfl
  have z7 := S2.lw.at 7 rfl
  have z8 := S2.lw.at 8 rfl
  have z9 := S2.lw.at 9 rfl
  have HS2 := hideIt S2
  have HO := hideIt (toAnswer_any anum aok aes als k1 a1 c1 l1 k2 a2 c2 l2 W2 (HE.out.1.up S2.below) (HE.out.2.1.up S2.below))
  clear x1 x2 x3 x4 HT T2 S2 HS1 b2
  go_upto_region 5 with fail
  rw [← hW2]
  clear hW2 y1 y2 y3 y4 y5 f1 f2 f3 f4 f5 u5
  go_wp2_with (go_at_call 38; refine HO.out.mono ?_; rintro e w3 ⟨g1, g2, rfl, o1, o2, b3⟩; refine Hid.out ?_)
  refine (show ∀ {p : Prop}, p → Hid p from fun h => h) ?_
  have T3 := HS2.out.up b3
  have S3 := T3.set 6 [.int .i64 anum, .bool aok, .slice (some ⟨g1, 0, none⟩) k1 k1, .slice (some ⟨g2, 0, none⟩) k2 k2]
  have zl := HS2.out.lt
  have p1 := own_setQ (own_mono o1 zl) (G := w.heap.size + 1 + 1) (by omega) 6 [.int .i64 anum, .bool aok, .slice (some ⟨g1, 0, none⟩) k1 k1, .slice (some ⟨g2, 0, none⟩) k2 k2]
  have p2 := own_setQ (own_mono o2 zl) (G := w.heap.size + 1 + 1) (by omega) 6 [.int .i64 anum, .bool aok, .slice (some ⟨g1, 0, none⟩) k1 k1, .slice (some ⟨g2, 0, none⟩) k2 k2]
  obtain ⟨W3, hW3⟩ : ∃ W3, W3 = setQ w3 (w.heap.size + 1 + 1) 6 [.int .i64 anum, .bool aok, .slice (some ⟨g1, 0, none⟩) k1 k1, .slice (some ⟨g2, 0, none⟩) k2 k2] := ⟨_, rfl⟩
  rw [← hW3] at S3 p1 p2
  dsimp only [setQ] at hW3
  have y6 := T3.out.at 6 rfl
  have y7 := T3.out.at 7 rfl
  have y8 := T3.out.at 8 rfl
  have y9 := T3.out.at 9 rfl
  have f6 := T3.out.frozen 6
  have f7 := T3.out.frozen 7
  have f8 := T3.out.frozen 8
  have f9 := T3.out.frozen 9
  have x10 := S3.lw.at 10 rfl
  have x11 := S3.lw.at 11 rfl
  have x12 := S3.lw.at 12 rfl
  have x13 := S3.lw.at 13 rfl
  have HS3 := hideIt S3
  have HP3 := hideIt (And.intro p1 p2)
  have HO2 := hideIt (toOrder_any onum oop ov oes k3 a3 c3 l3 W3 (HE.out.2.2.up S3.below))
  clear o1 o2 b3 T3 S3 p1 p2 HO HS2 HE zl z6 z7 z8 z9
  go_upto_region 6 with fail
  rw [← hW3]
  clear hW3 y6 y7 y8 y9 f6 f7 f8 f9
  go_wp2_with (go_at_call 39; refine HO2.out.mono ?_; rintro e w4 ⟨g3, rfl, o3, b4⟩; refine Hid.out ?_)
  refine (show ∀ {p : Prop}, p → Hid p from fun h => h) ?_
  have T4 := HS3.out.up b4
  have S4 := T4.set 10 [.int .i64 onum, .int .i64 oop, .slice (some ⟨g3, 0, none⟩) k3 k3, .int .i64 ov]
  have zl := HS3.out.lt
  have p1 := own_setQ (own_up10 HP3.out.1 b4) (G := w.heap.size + 1 + 1) (by omega) 10 [.int .i64 onum, .int .i64 oop, .slice (some ⟨g3, 0, none⟩) k3 k3, .int .i64 ov]
  have p2 := own_setQ (own_up10 HP3.out.2 b4) (G := w.heap.size + 1 + 1) (by omega) 10 [.int .i64 onum, .int .i64 oop, .slice (some ⟨g3, 0, none⟩) k3 k3, .int .i64 ov]
  have p3 := own_setQ (own_mono o3 zl) (G := w.heap.size + 1 + 1) (by omega) 10 [.int .i64 onum, .int .i64 oop, .slice (some ⟨g3, 0, none⟩) k3 k3, .int .i64 ov]
  obtain ⟨W4, hW4⟩ : ∃ W4, W4 = setQ w4 (w.heap.size + 1 + 1) 10 [.int .i64 onum, .int .i64 oop, .slice (some ⟨g3, 0, none⟩) k3 k3, .int .i64 ov] := ⟨_, rfl⟩
  rw [← hW4] at S4 p1 p2 p3
  dsimp only [setQ] at hW4
  have y10 := T4.out.at 10 rfl
  have y11 := T4.out.at 11 rfl
  have y12 := T4.out.at 12 rfl
  have y13 := T4.out.at 13 rfl
  have f10 := T4.out.frozen 10
  have f11 := T4.out.frozen 11
  have f12 := T4.out.frozen 12
  have f13 := T4.out.frozen 13
  have HS4 := hideIt S4
  have HP4 := hideIt (And.intro p1 (And.intro p2 p3))
  have HNE := hideIt (show g1 ≠ g3 from fun e => by have q1 := (HP3.out.1.lt g1 rfl).2; have q3 := (o3.lt g3 rfl).1; omega)
  clear o3 b4 T4 S4 p1 p2 p3 HO2 HS3 HP3 zl x10 x11 x12 x13
  go_upto_region 7 with fail
  rw [← hW4]
  clear hW4 y10 y11 y12 y13 f10 f11 f12 f13
  have k_0 := HS4.out.out.at 0 rfl
  have k_1 := HS4.out.out.at 1 rfl
  have k_2 := HS4.out.out.at 2 rfl
  have k_3 := HS4.out.out.at 3 rfl
  have k_4 := HS4.out.out.at 4 rfl
  have k_5 := HS4.out.out.at 5 rfl
  have k_6 := HS4.out.out.at 6 rfl
  have k_7 := HS4.out.out.at 7 rfl
  have k_8 := HS4.out.out.at 8 rfl
  have k_9 := HS4.out.out.at 9 rfl
  have k_10 := HS4.out.out.at 10 rfl
  have k_11 := HS4.out.out.at 11 rfl
  have k_12 := HS4.out.out.at 12 rfl
  have k_13 := HS4.out.out.at 13 rfl
  have r_0 := HS4.out.rs.at 0 rfl
  have r_1 := HS4.out.rs.at 1 rfl
  have r_2 := HS4.out.rs.at 2 rfl
  have r_3 := HS4.out.rs.at 3 rfl
  have r_4 := HS4.out.rs.at 4 rfl
  have r_5 := HS4.out.rs.at 5 rfl
  have r_6 := HS4.out.rs.at 6 rfl
  have r_7 := HS4.out.rs.at 7 rfl
  have r_8 := HS4.out.rs.at 8 rfl
  have r_9 := HS4.out.rs.at 9 rfl
  have r_10 := HS4.out.rs.at 10 rfl
  have r_11 := HS4.out.rs.at 11 rfl
  have r_12 := HS4.out.rs.at 12 rfl
  have r_13 := HS4.out.rs.at 13 rfl
  have fz := HS4.out.rs.frozen
  have q0 := fz 0
  have q1 := fz 1
  have q2 := fz 2
  have q3 := fz 3
  have q4 := fz 4
  have q5 := fz 5
  have q6 := fz 6
  have q7 := fz 7
  have q8 := fz 8
  have q9 := fz 9
  have q10 := fz 10
  have q11 := fz 11
  have q12 := fz 12
  have q13 := fz 13
  have HF : Hid ((setQ W4 (w.heap.size + 1) 0 [.int .i64 kind, .int .i64 id, .int .i64 op, .int .i64 a, .int .i64 b, .int .i64 sh, .int .i64 anum, .bool aok, .slice (some ⟨g1, 0, none⟩) k1 k1, .slice (some ⟨g2, 0, none⟩) k2 k2, .int .i64 onum, .int .i64 oop, .slice (some ⟨g3, 0, none⟩) k3 k3, .int .i64 ov]).ownsRow w.heap.size 120 2 (.slice (some ⟨g1, 0, none⟩) k1 k1) k1 (ecells aes) ∧ (setQ W4 (w.heap.size + 1) 0 [.int .i64 kind, .int .i64 id, .int .i64 op, .int .i64 a, .int .i64 b, .int .i64 sh, .int .i64 anum, .bool aok, .slice (some ⟨g1, 0, none⟩) k1 k1, .slice (some ⟨g2, 0, none⟩) k2 k2, .int .i64 onum, .int .i64 oop, .slice (some ⟨g3, 0, none⟩) k3 k3, .int .i64 ov]).ownsRow w.heap.size 3 1 (.slice (some ⟨g2, 0, none⟩) k2 k2) k2 (ic als) ∧ (setQ W4 (w.heap.size + 1) 0 [.int .i64 kind, .int .i64 id, .int .i64 op, .int .i64 a, .int .i64 b, .int .i64 sh, .int .i64 anum, .bool aok, .slice (some ⟨g1, 0, none⟩) k1 k1, .slice (some ⟨g2, 0, none⟩) k2 k2, .int .i64 onum, .int .i64 oop, .slice (some ⟨g3, 0, none⟩) k3 k3, .int .i64 ov]).ownsRow w.heap.size 120 2 (.slice (some ⟨g3, 0, none⟩) k3 k3) k3 (ecells oes) ∧ g1 ≠ g3 ∧ Below w.heap.size w (setQ W4 (w.heap.size + 1) 0 [.int .i64 kind, .int .i64 id, .int .i64 op, .int .i64 a, .int .i64 b, .int .i64 sh, .int .i64 anum, .bool aok, .slice (some ⟨g1, 0, none⟩) k1 k1, .slice (some ⟨g2, 0, none⟩) k2 k2, .int .i64 onum, .int .i64 oop, .slice (some ⟨g3, 0, none⟩) k3 k3, .int .i64 ov])) := ⟨own_mono (own_setQ HP4.out.1 (by omega) _ _) (by omega), own_mono (own_setQ HP4.out.2.1 (by omega) _ _) (by omega), own_mono (own_setQ HP4.out.2.2 (by omega) _ _) (by omega), HNE.out, below_setQ HS4.out.below (by omega) _ _⟩
  have XF := HS4.out.rs.setQ 0 [.int .i64 kind, .int .i64 id, .int .i64 op, .int .i64 a, .int .i64 b, .int .i64 sh, .int .i64 anum, .bool aok, .slice (some ⟨g1, 0, none⟩) k1 k1, .slice (some ⟨g2, 0, none⟩) k2 k2, .int .i64 onum, .int .i64 oop, .slice (some ⟨g3, 0, none⟩) k3 k3, .int .i64 ov]
  have c_0 := XF.at 0 rfl
  have c_1 := XF.at 1 rfl
  have c_2 := XF.at 2 rfl
  have c_3 := XF.at 3 rfl
  have c_4 := XF.at 4 rfl
  have c_5 := XF.at 5 rfl
  have c_6 := XF.at 6 rfl
  have c_7 := XF.at 7 rfl
  have c_8 := XF.at 8 rfl
  have c_9 := XF.at 9 rfl
  have c_10 := XF.at 10 rfl
  have c_11 := XF.at 11 rfl
  have c_12 := XF.at 12 rfl
  have c_13 := XF.at 13 rfl
  dsimp only [setQ] at HF c_0 c_1 c_2 c_3 c_4 c_5 c_6 c_7 c_8 c_9 c_10 c_11 c_12 c_13
  have HC := hideIt (And.intro c_0 (And.intro c_1 (And.intro c_2 (And.intro c_3 (And.intro c_4 (And.intro c_5 (And.intro c_6 (And.intro c_7 (And.intro c_8 (And.intro c_9 (And.intro c_10 (And.intro c_11 (And.intro c_12 c_13)))))))))))))
  clear fz HP4 HS4 XF c_0 c_1 c_2 c_3 c_4 c_5 c_6 c_7 c_8 c_9 c_10 c_11 c_12 c_13
  go_wp2
  obtain ⟨c_0, c_1, c_2, c_3, c_4, c_5, c_6, c_7, c_8, c_9, c_10, c_11, c_12, c_13⟩ := HC.out
  exact bodyPost_ret (v := .agg #[.int .i64 kind, .int .i64 id, .int .i64 op, .int .i64 a, .int .i64 b, .int .i64 sh, .int .i64 anum, .bool aok, .slice (some ⟨g1, 0, none⟩) k1 k1, .slice (some ⟨g2, 0, none⟩) k2 k2, .int .i64 onum, .int .i64 oop, .slice (some ⟨g3, 0, none⟩) k3 k3, .int .i64 ov]) (by simp [results, Tryz.results14, go_sem, c_0, c_1, c_2, c_3, c_4, c_5, c_6, c_7, c_8, c_9, c_10, c_11, c_12, c_13]) rfl ⟨g1, g2, g3, rfl, HF.out.1, HF.out.2.1, HF.out.2.2.1, HF.out.2.2.2.1, HF.out.2.2.2.2⟩
set_option maxRecDepth 100000 in
set_option maxHeartbeats 4000000 in
theorem markRec_gen {u : World} {lo : Nat} (kind id op a b sh anum : Int) (aok : Bool) (onum oop ov : Int) (g1 g2 g3 k1 k2 k3 : Nat) (aes : List EdgeV) (als : List Int) (oes : List EdgeV) (k0 : Nat) (h1 : (u).ownsRow lo 120 2 (.slice (some ⟨g1, 0, none⟩) k1 k1) k1 (ecells aes)) (h2 : (u).ownsRow lo 3 1 (.slice (some ⟨g2, 0, none⟩) k2 k2) k2 (ic als)) (h3 : (u).ownsRow lo 120 2 (.slice (some ⟨g3, 0, none⟩) k3 k3) k3 (ecells oes)) (hne : g1 ≠ g3) (l1 : k1 ≤ 1048576) (l2 : k2 ≤ 1048576) (l3 : k3 ≤ 1048576) (hk : k0 ≤ 5000000) :
    Calls Tryz.prog 20 #[.agg #[.int .i64 kind, .int .i64 id, .int .i64 op, .int .i64 a, .int .i64 b, .int .i64 sh, .int .i64 anum, .bool aok, .slice (some ⟨g1, 0, none⟩) k1 k1, .slice (some ⟨g2, 0, none⟩) k2 k2, .int .i64 onum, .int .i64 oop, .slice (some ⟨g3, 0, none⟩) k3 k3, .int .i64 ov], .int .i64 (k0 : Int)] u fun e v => e = .returned (.int .i64 ((k0 : Int) + (k1 : Int) * 2 + (k2 : Int) + (k3 : Int) * 2)) ∧ Trn (fun k => k = g1 ∨ k = g2 ∨ k = g3) u v := by
  obtain ⟨W, hW⟩ : ∃ W, W = u.alloc (.cells #[.int .i64 kind, .int .i64 id, .int .i64 op, .int .i64 a, .int .i64 b, .int .i64 sh, .int .i64 anum, .bool aok, .slice (some ⟨g1, 0, none⟩) k1 k1, .slice (some ⟨g2, 0, none⟩) k2 k2, .int .i64 onum, .int .i64 oop, .slice (some ⟨g3, 0, none⟩) k3 k3, .int .i64 ov] 57) := ⟨_, rfl⟩
  have bW : Below u.heap.size u W := by rw [hW]; exact (Below.refl _ _).alloc (Nat.le_refl _) _
  have X : BxQ W u.heap.size 57 #[.int .i64 kind, .int .i64 id, .int .i64 op, .int .i64 a, .int .i64 b, .int .i64 sh, .int .i64 anum, .bool aok, .slice (some ⟨g1, 0, none⟩) k1 k1, .slice (some ⟨g2, 0, none⟩) k2 k2, .int .i64 onum, .int .i64 oop, .slice (some ⟨g3, 0, none⟩) k3 k3, .int .i64 ov] := by rw [hW]; exact BxQ.new _ _ _
  have q1 := (h1.lt g1 rfl).2
  have q2 := (h2.lt g2 rfl).2
  have q3 := (h3.lt g3 rfl).2
  have n23 : g2 ≠ g3 := fun e => rows_ne h2 h3 (by decide) g2 rfl (by rw [e]; rfl)
  have HA := hideIt (markAns_any anum aok (some ⟨g1, 0, none⟩) k1 k1 (some ⟨g2, 0, none⟩) k2 k2 aes als k0 (own_up10 h1 bW) (own_up10 h2 bW) l1 l2 hk)
  have HO : Hid (∀ U : World, U.ownsRow lo 120 2 (.slice (some ⟨g3, 0, none⟩) k3 k3) k3 (ecells oes) → Calls Tryz.prog 49 #[.agg #[.int .i64 onum, .int .i64 oop, .slice (some ⟨g3, 0, none⟩) k3 k3, .int .i64 ov], .int .i64 ((k0 : Int) + (k1 : Int) * 2 + (k2 : Int))] U fun e v => e = .returned (.int .i64 ((k0 : Int) + (k1 : Int) * 2 + (k2 : Int) + (k3 : Int) * 2)) ∧ Trn (fun k => (Value.slice (some ⟨g3, 0, none⟩) k3 k3).ownBlock = some k) U v) := fun U hU => by
    have := markOrd_any onum oop ov (some ⟨g3, 0, none⟩) k3 k3 oes (k0 + k1 * 2 + k2) hU l3 (by omega)
    rw [show ((k0 + k1 * 2 + k2 : Nat) : Int) = (k0 : Int) + (k1 : Int) * 2 + (k2 : Int) by omega] at this
    exact this
  have H3 := hideIt (own_up10 h3 bW)
  have HX := hideIt X
  have HB := hideIt bW
  have x6 := X.at 6 rfl
  have x7 := X.at 7 rfl
  have x8 := X.at 8 rfl
  have x9 := X.at 9 rfl
  have HN := hideIt (And.intro hne (And.intro n23 (And.intro q1 (And.intro q2 q3))))
  clear h1 h2 h3 bW X q1 q2 q3 n23 hne
  unfold ansV at HA
  go_enter Tryz.func20, Tryz.ntmps20
  go_upto_region 1 with fail
  rw [← hW]
  clear hW
  go_wp2_with (go_at_call 48; refine HA.out.mono ?_; rintro e w1 ⟨rfl, _, _, t1⟩; refine Hid.out ?_)
  refine (show ∀ {p : Prop}, p → Hid p from fun h => h) ?_
  have T1 : Trn (fun k => k = g1 ∨ k = g2) W w1 := trn_impL t1 (fun i hi => by
    rcases hi with h | h
    · simp [Value.ownBlock] at h; exact .inl h.symm
    · simp [Value.ownBlock] at h; exact .inr h.symm)
  obtain ⟨n13, n23, q1, q2, q3⟩ := HN.out
  have Y := HX.out.trnL T1 (fun h => by rcases h with h | h <;> omega)
  have H3b := hideIt (own_trnL H3.out T1 (fun g hg h => by simp [Value.ownBlock] at hg; rcases h with h | h <;> omega))
  have x10 := Y.at 10 rfl
  have x11 := Y.at 11 rfl
  have x12 := Y.at 12 rfl
  have x13 := Y.at 13 rfl
  have HT := hideIt T1
  clear x6 x7 x8 x9 t1 T1 Y HA H3 HX n13 n23 q1 q2 q3 HN
  go_wp2_with (go_at_call 49; refine (HO.out _ H3b.out).mono ?_; rintro e w2 ⟨rfl, t2⟩)
  go_ret
  refine ⟨rfl, trn_impL (((trn_belowL HB.out).trans HT.out).trans t2) (fun k hk => ?_)⟩
  rcases hk with (hk | hk) | hk
  · exact hk.elim
  · rcases hk with h | h
    · exact .inl h
    · exact .inr (.inl h)
  · simp [Value.ownBlock] at hk
    exact .inr (.inr hk.symm)
end Go.Proofs.YthnibebljbljdaaGreatDoor
