/- The specification's ReadRec. -/
import Derived.Test.YtcieanhbipbhgaaGreatDoorKSx14
import Derived.Test.YtcieanhbipbhgaaGreatDoorKSRa10
import Derived.Test.YtcieanhbipbhgaaGreatDoorKRy14
namespace Go.Proofs.YtcieanhbipbhgaaGreatDoor
open Go.RowKit Vt

/-- so many bytes are taken, if there are so many -/
def tkS (m : Nat) : Option (List UInt8) → List UInt8 × Option (List UInt8)
  | none => ([], none)
  | some L => if m ≤ L.length then (L.take m, some (L.drop m)) else ([], none)
set_option maxRecDepth 100000 in
set_option maxHeartbeats 4000000 in
theorem l09TakeM (m : Nat) (hm : m ≤ 1000000000) (s : ByteArray) (hs : s.size ≤ 1048576) (w : World) (G : Nat) (st : Option (List UInt8)) (h : RdAt False 55 w G s st) :
    Calls Tryz.prog 23 #[.pointer (some ⟨G, 0, none⟩), .int .i64 (m : Int)] w fun e w' => ∃ S : ByteArray, e = .returned (.string S) ∧ (S.data.toList = (tkS m st).1 ∧ S.size ≤ 1048576) ∧ RdAt False 55 w' G s (tkS m st).2 ∧ w.grownBy w' (some G) := by
  obtain ⟨p, f, hG, hp, hf⟩ := h
  have c0 : w.cell? ⟨G, 0, none⟩ = some (.string s) := by rw [cell_of_row w G 0 _ _ _ hG]; rfl
  have c1 : w.cell? ⟨G, 1, none⟩ = some (.int .i64 (p : Int)) := by rw [cell_of_row w G 1 _ _ _ hG]; rfl
  have c2 : w.cell? ⟨G, 2, none⟩ = some (.bool f) := by rw [cell_of_row w G 2 _ _ _ hG]; rfl
  have f1 : w.frozen? ⟨G, 1, none⟩ = false := frozen_of_row w G 1 _ _ hG
  have f2 : w.frozen? ⟨G, 2, none⟩ = false := frozen_of_row w G 2 _ _ hG
  have HG := hideIt hG
  have HP := hideIt hp
  clear hG
  cases hff : f with
  | true =>
    rw [hff] at c2 HG
    have HS : Hid (st = none) := by
      show _ = _
      rcases hf with ⟨h1, _⟩ | ⟨_, h2, _⟩
      · rw [hff] at h1; cases h1
      · exact h2
    clear hf
    go_enter Tryz.func23, Tryz.ntmps23
    go_wp2
    go_quiet (fail)
    go_wp2
    go_ret
    rw [HS.out]
    exact ⟨_, rfl, ⟨rfl, Nat.zero_le _⟩, ⟨p, true, st2 HG.out, HP.out, .inr ⟨rfl, rfl, fun h => h.elim⟩⟩, gr_trans (gr_drews _ _ _) (gr_set _ _ _ _)⟩
  | false =>
    rw [hff] at c2 HG
    have hst : st = some (from_ s p) := by
      rcases hf with ⟨_, h2⟩ | ⟨h1, _, _⟩
      · exact h2
      · rw [hff] at h1; cases h1
    subst hst
    clear hf
    have w1 : IntKind.i64.wrap ((s.size : Int) - (p : Int)) = (s.size : Int) - (p : Int) := by rw [IntKind.wrap_i64]; omega
    by_cases hlt : p + m ≤ s.size
    · have HS : Hid (tkS m (some (from_ s p)) = ((from_ s p).take m, some (from_ s (p + m)))) := by
        show _ = _
        unfold tkS
        dsimp only
        rw [if_pos (by rw [from_length]; omega), from_drop]
      have d1 : decide ((s.size : Int) - (p : Int) < (m : Int)) = false := by simp; omega
      have w2 : IntKind.i64.wrap ((p : Int) + (m : Int)) = (p : Int) + (m : Int) := by rw [IntKind.wrap_i64]; omega
      have w3 : IntKind.i64.wrap ((p : Int) + (m : Int) - (m : Int)) = (p : Int) := by rw [IntKind.wrap_i64]; omega
      have i1 : (0 : Int) ≤ (p : Int) := by omega
      have i2 : (p : Int) ≤ (p : Int) + (m : Int) := by omega
      have i3 : (p : Int) + (m : Int) ≤ (s.size : Int) := by omega
      have HX : Hid (s.extract p ((p : Int) + (m : Int)).toNat = s.extract p (p + m)) := by show _ = _; congr 1
      go_enter Tryz.func23, Tryz.ntmps23
      go_wp2
      go_quiet (fail)
      go_wp2
      go_quiet (fail)
      go_wp2
      go_ret
      rw [HS.out]
      refine ⟨s.extract p (p + m), ?_, ⟨extract_list s p m, cut_size s p m hs⟩, ⟨p + m, false, ?_, by omega, .inl ⟨rfl, rfl⟩⟩, ?_⟩
      · rw [← HX.out]; rfl
      · have := st1 (D := .int .i64 (((p + m : Nat)) : Int)) HG.out
        rw [Int.natCast_add] at this
        exact this
      · exact gr_trans (gr_trans (gr_drews _ _ _) (gr_set _ _ _ _)) (gr_drews _ _ _)
    · have HS : Hid (tkS m (some (from_ s p)) = ([], none)) := by
        show _ = _
        unfold tkS
        dsimp only
        rw [if_neg (by rw [from_length]; omega)]
      have d1 : decide ((s.size : Int) - (p : Int) < (m : Int)) = true := by simp; omega
      go_enter Tryz.func23, Tryz.ntmps23
      go_wp2
      go_quiet (fail)
      go_wp2
      go_ret
      rw [HS.out]
      exact ⟨_, rfl, ⟨rfl, Nat.zero_le _⟩, ⟨p, true, st2 HG.out, HP.out, .inr ⟨rfl, rfl, fun h => h.elim⟩⟩, gr_trans (gr_drews _ _ _) (gr_set _ _ _ _)⟩
/-- what is read is the right record of these bytes, if there is one -/
def Sp (n : Int) (L : List UInt8) (r : RecV) (st : Option (List UInt8)) : Prop := ∀ r0, RecB n r0 → rText r0 = L → r = r0 ∧ st ≠ none
theorem Sp.none_bad {n : Int} {L : List UInt8} {r : RecV} {st : Option (List UInt8)} (h : Sp n L r st) (hb : st = none ∨ ¬ RecB n r ∨ rText r ≠ L) : IsR n L none := by
  intro r0 h0 e
  obtain ⟨rfl, h2⟩ := h r0 h0 e
  rcases hb with hb | hb | hb
  · exact h2 hb
  · exact hb h0
  · exact hb e
theorem n5_nat {x : Int} (h : N5 x) : ((x.toNat : Nat) : Int) = x := by unfold N5 at h; omega
theorem sp1 {n : Int} {L : List UInt8} : Sp n (1 :: L) ⟨1, (((nx pN (some L)).1 : Nat) : Int), (((nx pN (nx pN (some L)).2).1 : Nat) : Int), (((nx pN (nx pN (nx pN (some L)).2).2).1 : Nat) : Int), (((nx pN (nx pN (nx pN (nx pN (some L)).2).2).2).1 : Nat) : Int), 0, zA, zO⟩ (nx pN (nx pN (nx pN (nx pN (some L)).2).2).2).2 := by
  intro r h e
  obtain ⟨L2, L3, L4, ⟨e1, e2, e3, e4⟩, ⟨a1, a2, a3, a4⟩, k, z1, z2, z3⟩ := cand1 h e
  obtain ⟨r1, r2, r3, r4, r5, r6, r7, r8⟩ := r
  dsimp only at *
  rw [e1]
  dsimp only
  rw [e2]
  dsimp only
  rw [e3]
  dsimp only
  rw [e4]
  dsimp only
  rw [n5_nat a1, n5_nat a2, n5_nat a3, n5_nat a4, k, z1, z2, z3]
  exact ⟨rfl, by simp⟩
theorem tkS_all (T : List UInt8) : tkS T.length (some T) = (T, some []) := by
  unfold tkS
  dsimp only
  rw [if_pos (Nat.le_refl _), List.take_length, List.drop_length]
theorem sp2 {n : Int} {L : List UInt8} {ra : Option AnsV} (hA : IsA n (tkS (nx pN (nx pN (some L)).2).1 (nx pN (nx pN (some L)).2).2).1 ra) : Sp n (2 :: L) ⟨2, 0, 0, 0, 0, (((nx pN (some L)).1 : Nat) : Int), orA ra, zO⟩ (tkS (nx pN (nx pN (some L)).2).1 (nx pN (nx pN (some L)).2).2).2 := by
  intro r h e
  obtain ⟨L2, T, ⟨e1, e2, e3, _⟩, ⟨n1, n2, n3, n4⟩, k, z1, z2, z3⟩ := cand2 h e
  obtain ⟨r1, r2, r3, r4, r5, r6, r7, r8⟩ := r
  dsimp only at *
  rw [e1] at hA ⊢
  dsimp only at hA ⊢
  rw [e2] at hA ⊢
  dsimp only at hA ⊢
  rw [tkS_all] at hA ⊢
  dsimp only at hA ⊢
  have := IsA.uniq hA (r' := some r7) ⟨z2, e3.symm⟩
  rw [this, n5_nat z1, k, n1, n2, n3, n4, z3]
  exact ⟨rfl, by simp⟩
theorem sp3 {n : Int} {L : List UInt8} {ra : Option OrdV} (hA : IsO n (tkS (nx pN (some L)).1 (nx pN (some L)).2).1 ra) : Sp n (3 :: L) ⟨3, 0, 0, 0, 0, 0, zA, orO ra⟩ (tkS (nx pN (some L)).1 (nx pN (some L)).2).2 := by
  intro r h e
  obtain ⟨T, ⟨e2, e3, _⟩, ⟨n1, n2, n3, n4⟩, k, z1, z2, z3⟩ := cand3 h e
  obtain ⟨r1, r2, r3, r4, r5, r6, r7, r8⟩ := r
  dsimp only at *
  rw [e2] at hA ⊢
  dsimp only at hA ⊢
  rw [tkS_all] at hA ⊢
  dsimp only at hA ⊢
  have := IsO.uniq hA (r' := some r8) ⟨z3, e3.symm⟩
  rw [this, k, n1, n2, n3, n4, z1, z2]
  exact ⟨rfl, by simp⟩
theorem sp0 {n : Int} {L : List UInt8} {r : RecV} {st : Option (List UInt8)} (h : ∀ c M, L = c :: M → c ≠ 1 ∧ c ≠ 2 ∧ c ≠ 3) : Sp n L r st := fun r0 h0 e => absurd e (no_first h r0 h0)
theorem RdAt.fl {w : World} {G : Nat} {s : ByteArray} {st : Option (List UInt8)} (h : RdAt False 55 w G s st) : w.cell? ⟨G, 2, none⟩ = some (.bool st.isNone) := h.flag
theorem bel_gr {w u v : World} {G : Nat} (h : Below w.heap.size w u) (hg : u.grownBy v (some G)) (hG : w.heap.size ≤ G) : Below w.heap.size w v := bel_grown h hg hG
set_option maxRecDepth 100000 in
set_option maxHeartbeats 8000000 in
theorem sread_other (n : Int) (s : ByteArray) (hs : s.size ≤ 1048576) (kk : Nat) (st0 : Option (List UInt8)) (hK : nx pO (some s.data.toList) = (kk, st0)) (h1 : kk ≠ 1) (h2 : kk ≠ 2) (h3 : kk ≠ 3) (hno : ∀ c M, s.data.toList = c :: M → c ≠ 1 ∧ c ≠ 2 ∧ c ≠ 3) (w : World) :
    Calls Tryz.prog 10 #[.int .i64 n, .string s] w fun e w' => ∃ r, IsR n s.data.toList r ∧ ReA w w' e r ∧ Below w.heap.size w w' := by
  obtain ⟨W, hW⟩ : ∃ W, W = (w.alloc (.cells #[.int .i64 0, .int .i64 0, .int .i64 0, .int .i64 0, .int .i64 0, .int .i64 0, .int .i64 0, .bool false, .slice none 0 0, .slice none 0 0, .int .i64 0, .int .i64 0, .slice none 0 0, .int .i64 0] 40)).alloc (.cells #[.string s, .int .i64 0, .bool false] 55) := ⟨_, rfl⟩
  have bW : Below w.heap.size w W := by rw [hW]; exact ((Below.refl _ _).alloc (Nat.le_refl _) _).alloc (by simp) _
  have HX0 : Hid (BxQ W w.heap.size 40 #[.int .i64 0, .int .i64 0, .int .i64 0, .int .i64 0, .int .i64 0, .int .i64 0, .int .i64 0, .bool false, .slice none 0 0, .slice none 0 0, .int .i64 0, .int .i64 0, .slice none 0 0, .int .i64 0]) := by show BxQ _ _ _ _; rw [hW]; exact (BxQ.new w _ _).gr (World.grownBy_alloc _ _ none) (by simp)
  have C0 : RdAt False 55 W (w.heap.size + 1) s (some s.data.toList) := by
    have h := BxQ.new (w.alloc (.cells #[.int .i64 0, .int .i64 0, .int .i64 0, .int .i64 0, .int .i64 0, .int .i64 0, .int .i64 0, .bool false, .slice none 0 0, .slice none 0 0, .int .i64 0, .int .i64 0, .slice none 0 0, .int .i64 0] 40)) 55 #[.string s, .int .i64 0, .bool false]
    rw [show (w.alloc (.cells #[.int .i64 0, .int .i64 0, .int .i64 0, .int .i64 0, .int .i64 0, .int .i64 0, .int .i64 0, .bool false, .slice none 0 0, .slice none 0 0, .int .i64 0, .int .i64 0, .slice none 0 0, .int .i64 0] 40)).heap.size = w.heap.size + 1 by simp] at h
    rw [hW]
    exact ⟨0, false, h, Nat.zero_le _, .inl ⟨rfl, by rw [from_zero]⟩⟩
  have HK := hideIt (l09One_any s hs W _ _ C0)
  rw [hK] at HK
  dsimp only at HK
  have HB := hideIt bW
  have zW : W.heap.size = w.heap.size + 2 := by rw [hW]; simp
  clear bW C0
  go_enter Tryz.func10, Tryz.ntmps10
  go_upto_region 2 with fail
  rw [← hW]
  clear hW
  go_wp2_with (go_at_call 20; refine HK.out.mono ?_; rintro e u1 ⟨rfl, C1, g1⟩; refine Hid.out ?_)
  refine (show ∀ {p : Prop}, p → Hid p from fun h => h) ?_
  obtain ⟨V1, hV1⟩ : ∃ V1, V1 = u1.alloc (.cells #[.int .i64 (kk : Int), .int .i64 0, .int .i64 0, .int .i64 0, .int .i64 0, .int .i64 0, .int .i64 0, .bool false, .slice none 0 0, .slice none 0 0, .int .i64 0, .int .i64 0, .slice none 0 0, .int .i64 0] 40) := ⟨_, rfl⟩
  have b1 : Below u1.heap.size u1 V1 := by rw [hV1]; exact (Below.refl _ _).alloc (Nat.le_refl _) _
  have B1 : BxQ V1 u1.heap.size 40 #[.int .i64 (kk : Int), .int .i64 0, .int .i64 0, .int .i64 0, .int .i64 0, .int .i64 0, .int .i64 0, .bool false, .slice none 0 0, .slice none 0 0, .int .i64 0, .int .i64 0, .slice none 0 0, .int .i64 0] := by rw [hV1]; exact BxQ.new _ _ _
  have Y1 := (HX0.out.gr g1 (by simp)).gr (gr_below b1 none) (by simp)
  have S1 := C1.below b1
  have HG1 : Hid (Below w.heap.size w V1) := (bel_grown HB.out g1 (by omega)).trans (b1.mono (by have := g1.size; omega))
  have lR : w.heap.size + 1 < u1.heap.size := by have := g1.size; omega
  clear HK HX0 HB C1 g1 b1 zW
  go_upto_region 3 with fail
  rw [← hV1]
  clear hV1
  generalize u1.heap.size = bR at *
  have q0 := B1.at 0 rfl
  have d1 : (((kk : Nat) : Int) == 1) = false := by simp; omega
  have d2 : (((kk : Nat) : Int) == 2) = false := by simp; omega
  have d3 : (((kk : Nat) : Int) == 3) = false := by simp; omega
  have HG0 := hideIt HG1.out
  go_upto_region 14 with fail
  clear q0 d1 d2 d3
  have HRT := hideIt (sRecText_any n (kk : Int) 0 0 0 0 0 0 false [] [] 0 0 [] 0 none 0 0 none 0 0 none 0 0 V1 ⟨rfl, .inl rfl⟩ ⟨rfl, .inl rfl⟩ ⟨rfl, .inl rfl⟩ (by omega) (by omega) (by omega))
  have m0 := B1.at 0 rfl
  have m1 := B1.at 1 rfl
  have m2 := B1.at 2 rfl
  have m3 := B1.at 3 rfl
  have m4 := B1.at 4 rfl
  have m5 := B1.at 5 rfl
  have m6 := B1.at 6 rfl
  have m7 := B1.at 7 rfl
  have m8 := B1.at 8 rfl
  have m9 := B1.at 9 rfl
  have m10 := B1.at 10 rfl
  have m11 := B1.at 11 rfl
  have m12 := B1.at 12 rfl
  have m13 := B1.at 13 rfl
  have hfl := S1.fl
  have HSt := hideIt S1
  have HBx := hideIt B1
  have HYx := hideIt Y1
  have HSp := hideIt (show Sp n s.data.toList ⟨(kk : Int), 0, 0, 0, 0, 0, ⟨0, false, [], []⟩, ⟨0, 0, [], 0⟩⟩ st0 from sp0 hno)
  obtain ⟨R, hR⟩ : ∃ R : RecV, R = ⟨(kk : Int), 0, 0, 0, 0, 0, ⟨0, false, [], []⟩, ⟨0, 0, [], 0⟩⟩ := ⟨_, rfl⟩
  rw [← hR] at HRT HSp
  have hRf := hideIt hR
  clear hR
  clear B1 Y1 S1
  have HSt2 : Hid (Option (List UInt8) → True) := fun _ => trivial
  obtain ⟨st', hst'⟩ : ∃ st', st' = st0 := ⟨_, rfl⟩
  rw [← hst'] at HSp HSt hfl
  clear HSt2 hst'
  by_cases hR : RecB n R
  · rw [rtV_yes hR] at HRT
    go_wp2_with (go_at_call 25; refine HRT.out.mono ?_; rintro e u9 ⟨rfl, g9⟩; refine Hid.out ?_)
    refine (show ∀ {p : Prop}, p → Hid p from fun h => h) ?_
    have Y9 := HYx.out.gr (gr_below g9 none) (by simp)
    have B9 := HBx.out.gr (gr_below g9 none) (by simp)
    have S9 := HSt.out.below g9
    have HG9 : Hid (Below w.heap.size w u9) := HG0.out.trans (g9.mono HG0.out.size)
    have fl := S9.fl
    clear HRT hfl m0 m1 m2 m3 m4 m5 m6 m7 m8 m9 m10 m11 m12 m13
    cases st' with
    | none =>
      have HI : Hid (IsR n s.data.toList none) := HSp.out.none_bad (.inl rfl)
      have y0 := Y9.at 0 rfl
      have y1 := Y9.at 1 rfl
      have y2 := Y9.at 2 rfl
      have y3 := Y9.at 3 rfl
      have y4 := Y9.at 4 rfl
      have y5 := Y9.at 5 rfl
      have y6 := Y9.at 6 rfl
      have y7 := Y9.at 7 rfl
      have y8 := Y9.at 8 rfl
      have y9 := Y9.at 9 rfl
      have y10 := Y9.at 10 rfl
      have y11 := Y9.at 11 rfl
      have y12 := Y9.at 12 rfl
      have y13 := Y9.at 13 rfl
      have f0 := Y9.frozen 0
      have f1 := Y9.frozen 1
      have f2 := Y9.frozen 2
      have f3 := Y9.frozen 3
      have f4 := Y9.frozen 4
      have f5 := Y9.frozen 5
      have f6 := Y9.frozen 6
      have f7 := Y9.frozen 7
      have f8 := Y9.frozen 8
      have f9 := Y9.frozen 9
      have f10 := Y9.frozen 10
      have f11 := Y9.frozen 11
      have f12 := Y9.frozen 12
      have f13 := Y9.frozen 13
      obtain ⟨V, hV⟩ : ∃ V, V = ((((((((((((((u9.setCell ⟨w.heap.size, 0, none⟩ (.int .i64 0)).setCell ⟨w.heap.size, 1, none⟩ (.int .i64 0)).setCell ⟨w.heap.size, 2, none⟩ (.int .i64 0)).setCell ⟨w.heap.size, 3, none⟩ (.int .i64 0)).setCell ⟨w.heap.size, 4, none⟩ (.int .i64 0)).setCell ⟨w.heap.size, 5, none⟩ (.int .i64 0)).setCell ⟨w.heap.size, 6, none⟩ (.int .i64 0)).setCell ⟨w.heap.size, 7, none⟩ (.bool false)).setCell ⟨w.heap.size, 8, none⟩ (.slice none 0 0)).setCell ⟨w.heap.size, 9, none⟩ (.slice none 0 0)).setCell ⟨w.heap.size, 10, none⟩ (.int .i64 0)).setCell ⟨w.heap.size, 11, none⟩ (.int .i64 0)).setCell ⟨w.heap.size, 12, none⟩ (.slice none 0 0)).setCell ⟨w.heap.size, 13, none⟩ (.int .i64 0)) := ⟨_, rfl⟩
      have eV : V = setQ u9 w.heap.size 0 [.int .i64 0, .int .i64 0, .int .i64 0, .int .i64 0, .int .i64 0, .int .i64 0, .int .i64 0, .bool false, .slice none 0 0, .slice none 0 0, .int .i64 0, .int .i64 0, .slice none 0 0, .int .i64 0] := hV
      have BR : BxQ V w.heap.size 40 #[.int .i64 0, .int .i64 0, .int .i64 0, .int .i64 0, .int .i64 0, .int .i64 0, .int .i64 0, .bool false, .slice none 0 0, .slice none 0 0, .int .i64 0, .int .i64 0, .slice none 0 0, .int .i64 0] := by rw [eV]; exact Y9.setQ 0 [.int .i64 0, .int .i64 0, .int .i64 0, .int .i64 0, .int .i64 0, .int .i64 0, .int .i64 0, .bool false, .slice none 0 0, .slice none 0 0, .int .i64 0, .int .i64 0, .slice none 0 0, .int .i64 0]
      have HG2 : Hid (Below w.heap.size w V) := by show Below _ _ _; rw [eV]; exact bel_grown HG9.out (gr_setQ 0 _) (Nat.le_refl _)
      have r0 := BR.at 0 rfl
      have r1 := BR.at 1 rfl
      have r2 := BR.at 2 rfl
      have r3 := BR.at 3 rfl
      have r4 := BR.at 4 rfl
      have r5 := BR.at 5 rfl
      have r6 := BR.at 6 rfl
      have r7 := BR.at 7 rfl
      have r8 := BR.at 8 rfl
      have r9 := BR.at 9 rfl
      have r10 := BR.at 10 rfl
      have r11 := BR.at 11 rfl
      have r12 := BR.at 12 rfl
      have r13 := BR.at 13 rfl
      clear eV BR Y9 B9 S9
      go_wp2
      rw [← hV]
      clear hV
      exact bodyPost_ret (v := .tuple #[.agg #[.int .i64 0, .int .i64 0, .int .i64 0, .int .i64 0, .int .i64 0, .int .i64 0, .int .i64 0, .bool false, .slice none 0 0, .slice none 0 0, .int .i64 0, .int .i64 0, .slice none 0 0, .int .i64 0], .bool false]) (by simp [results, Tryz.results10, go_sem, r0, r1, r2, r3, r4, r5, r6, r7, r8, r9, r10, r11, r12, r13]) rfl ⟨none, HI.out, ⟨none, 0, 0, none, 0, 0, none, 0, 0, rfl, ⟨nilR _ _ _ _, nilR _ _ _ _, nilR _ _ _ _⟩, ⟨by omega, by omega, by omega⟩, .inl ⟨rfl, rfl⟩⟩, HG2.out⟩
    | some M =>
      by_cases hT : rText R = s.data.toList
      · rw [str_eq hT]
        have dT : (s.toList == s.toList) = true := by simp
        have HI : Hid (IsR n s.data.toList (some R)) := ⟨hR, hT⟩
        have y0 := Y9.at 0 rfl
        have y1 := Y9.at 1 rfl
        have y2 := Y9.at 2 rfl
        have y3 := Y9.at 3 rfl
        have y4 := Y9.at 4 rfl
        have y5 := Y9.at 5 rfl
        have y6 := Y9.at 6 rfl
        have y7 := Y9.at 7 rfl
        have y8 := Y9.at 8 rfl
        have y9 := Y9.at 9 rfl
        have y10 := Y9.at 10 rfl
        have y11 := Y9.at 11 rfl
        have y12 := Y9.at 12 rfl
        have y13 := Y9.at 13 rfl
        have f0 := Y9.frozen 0
        have f1 := Y9.frozen 1
        have f2 := Y9.frozen 2
        have f3 := Y9.frozen 3
        have f4 := Y9.frozen 4
        have f5 := Y9.frozen 5
        have f6 := Y9.frozen 6
        have f7 := Y9.frozen 7
        have f8 := Y9.frozen 8
        have f9 := Y9.frozen 9
        have f10 := Y9.frozen 10
        have f11 := Y9.frozen 11
        have f12 := Y9.frozen 12
        have f13 := Y9.frozen 13
        have b0 := B9.at 0 rfl
        have b1 := B9.at 1 rfl
        have b2 := B9.at 2 rfl
        have b3 := B9.at 3 rfl
        have b4 := B9.at 4 rfl
        have b5 := B9.at 5 rfl
        have b6 := B9.at 6 rfl
        have b7 := B9.at 7 rfl
        have b8 := B9.at 8 rfl
        have b9 := B9.at 9 rfl
        have b10 := B9.at 10 rfl
        have b11 := B9.at 11 rfl
        have b12 := B9.at 12 rfl
        have b13 := B9.at 13 rfl
        obtain ⟨V, hV⟩ : ∃ V, V = ((((((((((((((u9.setCell ⟨w.heap.size, 0, none⟩ (.int .i64 (kk : Int))).setCell ⟨w.heap.size, 1, none⟩ (.int .i64 0)).setCell ⟨w.heap.size, 2, none⟩ (.int .i64 0)).setCell ⟨w.heap.size, 3, none⟩ (.int .i64 0)).setCell ⟨w.heap.size, 4, none⟩ (.int .i64 0)).setCell ⟨w.heap.size, 5, none⟩ (.int .i64 0)).setCell ⟨w.heap.size, 6, none⟩ (.int .i64 0)).setCell ⟨w.heap.size, 7, none⟩ (.bool false)).setCell ⟨w.heap.size, 8, none⟩ (.slice none 0 0)).setCell ⟨w.heap.size, 9, none⟩ (.slice none 0 0)).setCell ⟨w.heap.size, 10, none⟩ (.int .i64 0)).setCell ⟨w.heap.size, 11, none⟩ (.int .i64 0)).setCell ⟨w.heap.size, 12, none⟩ (.slice none 0 0)).setCell ⟨w.heap.size, 13, none⟩ (.int .i64 0)) := ⟨_, rfl⟩
        have eV : V = setQ u9 w.heap.size 0 [.int .i64 (kk : Int), .int .i64 0, .int .i64 0, .int .i64 0, .int .i64 0, .int .i64 0, .int .i64 0, .bool false, .slice none 0 0, .slice none 0 0, .int .i64 0, .int .i64 0, .slice none 0 0, .int .i64 0] := hV
        have BR : BxQ V w.heap.size 40 #[.int .i64 (kk : Int), .int .i64 0, .int .i64 0, .int .i64 0, .int .i64 0, .int .i64 0, .int .i64 0, .bool false, .slice none 0 0, .slice none 0 0, .int .i64 0, .int .i64 0, .slice none 0 0, .int .i64 0] := by rw [eV]; exact Y9.setQ 0 [.int .i64 (kk : Int), .int .i64 0, .int .i64 0, .int .i64 0, .int .i64 0, .int .i64 0, .int .i64 0, .bool false, .slice none 0 0, .slice none 0 0, .int .i64 0, .int .i64 0, .slice none 0 0, .int .i64 0]
        have HG2 : Hid (Below w.heap.size w V) := by show Below _ _ _; rw [eV]; exact bel_grown HG9.out (gr_setQ 0 _) (Nat.le_refl _)
        have HRV : Hid (RcR V w.heap.size ⟨(kk : Int), 0, 0, 0, 0, 0, ⟨0, false, [], []⟩, ⟨0, 0, [], 0⟩⟩ none 0 0 none 0 0 none 0 0) := ⟨⟨nilR _ _ _ _, nilR _ _ _ _, nilR _ _ _ _⟩, ⟨by omega, by omega, by omega⟩, .inl ⟨rfl, rfl⟩⟩
        have r0 := BR.at 0 rfl
        have r1 := BR.at 1 rfl
        have r2 := BR.at 2 rfl
        have r3 := BR.at 3 rfl
        have r4 := BR.at 4 rfl
        have r5 := BR.at 5 rfl
        have r6 := BR.at 6 rfl
        have r7 := BR.at 7 rfl
        have r8 := BR.at 8 rfl
        have r9 := BR.at 9 rfl
        have r10 := BR.at 10 rfl
        have r11 := BR.at 11 rfl
        have r12 := BR.at 12 rfl
        have r13 := BR.at 13 rfl
        clear eV BR Y9 B9 S9
        go_wp2
        rw [← hV]
        clear hV
        exact bodyPost_ret (v := .tuple #[.agg #[.int .i64 (kk : Int), .int .i64 0, .int .i64 0, .int .i64 0, .int .i64 0, .int .i64 0, .int .i64 0, .bool false, .slice none 0 0, .slice none 0 0, .int .i64 0, .int .i64 0, .slice none 0 0, .int .i64 0], .bool true]) (by simp [results, Tryz.results10, go_sem, r0, r1, r2, r3, r4, r5, r6, r7, r8, r9, r10, r11, r12, r13]) rfl ⟨some R, HI.out, ⟨none, 0, 0, none, 0, 0, none, 0, 0, by rw [hRf.out]; rfl, by rw [hRf.out]; exact HRV.out⟩, HG2.out⟩
      · have dT := str_neq hT
        have HI : Hid (IsR n s.data.toList none) := HSp.out.none_bad (.inr (.inr hT))
        have y0 := Y9.at 0 rfl
        have y1 := Y9.at 1 rfl
        have y2 := Y9.at 2 rfl
        have y3 := Y9.at 3 rfl
        have y4 := Y9.at 4 rfl
        have y5 := Y9.at 5 rfl
        have y6 := Y9.at 6 rfl
        have y7 := Y9.at 7 rfl
        have y8 := Y9.at 8 rfl
        have y9 := Y9.at 9 rfl
        have y10 := Y9.at 10 rfl
        have y11 := Y9.at 11 rfl
        have y12 := Y9.at 12 rfl
        have y13 := Y9.at 13 rfl
        have f0 := Y9.frozen 0
        have f1 := Y9.frozen 1
        have f2 := Y9.frozen 2
        have f3 := Y9.frozen 3
        have f4 := Y9.frozen 4
        have f5 := Y9.frozen 5
        have f6 := Y9.frozen 6
        have f7 := Y9.frozen 7
        have f8 := Y9.frozen 8
        have f9 := Y9.frozen 9
        have f10 := Y9.frozen 10
        have f11 := Y9.frozen 11
        have f12 := Y9.frozen 12
        have f13 := Y9.frozen 13
        obtain ⟨V, hV⟩ : ∃ V, V = ((((((((((((((u9.setCell ⟨w.heap.size, 0, none⟩ (.int .i64 0)).setCell ⟨w.heap.size, 1, none⟩ (.int .i64 0)).setCell ⟨w.heap.size, 2, none⟩ (.int .i64 0)).setCell ⟨w.heap.size, 3, none⟩ (.int .i64 0)).setCell ⟨w.heap.size, 4, none⟩ (.int .i64 0)).setCell ⟨w.heap.size, 5, none⟩ (.int .i64 0)).setCell ⟨w.heap.size, 6, none⟩ (.int .i64 0)).setCell ⟨w.heap.size, 7, none⟩ (.bool false)).setCell ⟨w.heap.size, 8, none⟩ (.slice none 0 0)).setCell ⟨w.heap.size, 9, none⟩ (.slice none 0 0)).setCell ⟨w.heap.size, 10, none⟩ (.int .i64 0)).setCell ⟨w.heap.size, 11, none⟩ (.int .i64 0)).setCell ⟨w.heap.size, 12, none⟩ (.slice none 0 0)).setCell ⟨w.heap.size, 13, none⟩ (.int .i64 0)) := ⟨_, rfl⟩
        have eV : V = setQ u9 w.heap.size 0 [.int .i64 0, .int .i64 0, .int .i64 0, .int .i64 0, .int .i64 0, .int .i64 0, .int .i64 0, .bool false, .slice none 0 0, .slice none 0 0, .int .i64 0, .int .i64 0, .slice none 0 0, .int .i64 0] := hV
        have BR : BxQ V w.heap.size 40 #[.int .i64 0, .int .i64 0, .int .i64 0, .int .i64 0, .int .i64 0, .int .i64 0, .int .i64 0, .bool false, .slice none 0 0, .slice none 0 0, .int .i64 0, .int .i64 0, .slice none 0 0, .int .i64 0] := by rw [eV]; exact Y9.setQ 0 [.int .i64 0, .int .i64 0, .int .i64 0, .int .i64 0, .int .i64 0, .int .i64 0, .int .i64 0, .bool false, .slice none 0 0, .slice none 0 0, .int .i64 0, .int .i64 0, .slice none 0 0, .int .i64 0]
        have HG2 : Hid (Below w.heap.size w V) := by show Below _ _ _; rw [eV]; exact bel_grown HG9.out (gr_setQ 0 _) (Nat.le_refl _)
        have r0 := BR.at 0 rfl
        have r1 := BR.at 1 rfl
        have r2 := BR.at 2 rfl
        have r3 := BR.at 3 rfl
        have r4 := BR.at 4 rfl
        have r5 := BR.at 5 rfl
        have r6 := BR.at 6 rfl
        have r7 := BR.at 7 rfl
        have r8 := BR.at 8 rfl
        have r9 := BR.at 9 rfl
        have r10 := BR.at 10 rfl
        have r11 := BR.at 11 rfl
        have r12 := BR.at 12 rfl
        have r13 := BR.at 13 rfl
        clear eV BR Y9 B9 S9
        go_wp2
        rw [← hV]
        clear hV
        exact bodyPost_ret (v := .tuple #[.agg #[.int .i64 0, .int .i64 0, .int .i64 0, .int .i64 0, .int .i64 0, .int .i64 0, .int .i64 0, .bool false, .slice none 0 0, .slice none 0 0, .int .i64 0, .int .i64 0, .slice none 0 0, .int .i64 0], .bool false]) (by simp [results, Tryz.results10, go_sem, r0, r1, r2, r3, r4, r5, r6, r7, r8, r9, r10, r11, r12, r13]) rfl ⟨none, HI.out, ⟨none, 0, 0, none, 0, 0, none, 0, 0, rfl, ⟨nilR _ _ _ _, nilR _ _ _ _, nilR _ _ _ _⟩, ⟨by omega, by omega, by omega⟩, .inl ⟨rfl, rfl⟩⟩, HG2.out⟩
  · rw [rtV_no hR] at HRT
    go_wp2_with (go_at_call 25; refine HRT.out.mono ?_; rintro e u9 ⟨rfl, g9⟩; refine Hid.out ?_)
    refine (show ∀ {p : Prop}, p → Hid p from fun h => h) ?_
    have Y9 := HYx.out.gr (gr_below g9 none) (by simp)
    have B9 := HBx.out.gr (gr_below g9 none) (by simp)
    have S9 := HSt.out.below g9
    have HG9 : Hid (Below w.heap.size w u9) := HG0.out.trans (g9.mono HG0.out.size)
    have fl := S9.fl
    clear HRT hfl m0 m1 m2 m3 m4 m5 m6 m7 m8 m9 m10 m11 m12 m13
    cases st' with
    | none =>
      have HI : Hid (IsR n s.data.toList none) := HSp.out.none_bad (.inl rfl)
      have y0 := Y9.at 0 rfl
      have y1 := Y9.at 1 rfl
      have y2 := Y9.at 2 rfl
      have y3 := Y9.at 3 rfl
      have y4 := Y9.at 4 rfl
      have y5 := Y9.at 5 rfl
      have y6 := Y9.at 6 rfl
      have y7 := Y9.at 7 rfl
      have y8 := Y9.at 8 rfl
      have y9 := Y9.at 9 rfl
      have y10 := Y9.at 10 rfl
      have y11 := Y9.at 11 rfl
      have y12 := Y9.at 12 rfl
      have y13 := Y9.at 13 rfl
      have f0 := Y9.frozen 0
      have f1 := Y9.frozen 1
      have f2 := Y9.frozen 2
      have f3 := Y9.frozen 3
      have f4 := Y9.frozen 4
      have f5 := Y9.frozen 5
      have f6 := Y9.frozen 6
      have f7 := Y9.frozen 7
      have f8 := Y9.frozen 8
      have f9 := Y9.frozen 9
      have f10 := Y9.frozen 10
      have f11 := Y9.frozen 11
      have f12 := Y9.frozen 12
      have f13 := Y9.frozen 13
      obtain ⟨V, hV⟩ : ∃ V, V = ((((((((((((((u9.setCell ⟨w.heap.size, 0, none⟩ (.int .i64 0)).setCell ⟨w.heap.size, 1, none⟩ (.int .i64 0)).setCell ⟨w.heap.size, 2, none⟩ (.int .i64 0)).setCell ⟨w.heap.size, 3, none⟩ (.int .i64 0)).setCell ⟨w.heap.size, 4, none⟩ (.int .i64 0)).setCell ⟨w.heap.size, 5, none⟩ (.int .i64 0)).setCell ⟨w.heap.size, 6, none⟩ (.int .i64 0)).setCell ⟨w.heap.size, 7, none⟩ (.bool false)).setCell ⟨w.heap.size, 8, none⟩ (.slice none 0 0)).setCell ⟨w.heap.size, 9, none⟩ (.slice none 0 0)).setCell ⟨w.heap.size, 10, none⟩ (.int .i64 0)).setCell ⟨w.heap.size, 11, none⟩ (.int .i64 0)).setCell ⟨w.heap.size, 12, none⟩ (.slice none 0 0)).setCell ⟨w.heap.size, 13, none⟩ (.int .i64 0)) := ⟨_, rfl⟩
      have eV : V = setQ u9 w.heap.size 0 [.int .i64 0, .int .i64 0, .int .i64 0, .int .i64 0, .int .i64 0, .int .i64 0, .int .i64 0, .bool false, .slice none 0 0, .slice none 0 0, .int .i64 0, .int .i64 0, .slice none 0 0, .int .i64 0] := hV
      have BR : BxQ V w.heap.size 40 #[.int .i64 0, .int .i64 0, .int .i64 0, .int .i64 0, .int .i64 0, .int .i64 0, .int .i64 0, .bool false, .slice none 0 0, .slice none 0 0, .int .i64 0, .int .i64 0, .slice none 0 0, .int .i64 0] := by rw [eV]; exact Y9.setQ 0 [.int .i64 0, .int .i64 0, .int .i64 0, .int .i64 0, .int .i64 0, .int .i64 0, .int .i64 0, .bool false, .slice none 0 0, .slice none 0 0, .int .i64 0, .int .i64 0, .slice none 0 0, .int .i64 0]
      have HG2 : Hid (Below w.heap.size w V) := by show Below _ _ _; rw [eV]; exact bel_grown HG9.out (gr_setQ 0 _) (Nat.le_refl _)
      have r0 := BR.at 0 rfl
      have r1 := BR.at 1 rfl
      have r2 := BR.at 2 rfl
      have r3 := BR.at 3 rfl
      have r4 := BR.at 4 rfl
      have r5 := BR.at 5 rfl
      have r6 := BR.at 6 rfl
      have r7 := BR.at 7 rfl
      have r8 := BR.at 8 rfl
      have r9 := BR.at 9 rfl
      have r10 := BR.at 10 rfl
      have r11 := BR.at 11 rfl
      have r12 := BR.at 12 rfl
      have r13 := BR.at 13 rfl
      clear eV BR Y9 B9 S9
      go_wp2
      rw [← hV]
      clear hV
      exact bodyPost_ret (v := .tuple #[.agg #[.int .i64 0, .int .i64 0, .int .i64 0, .int .i64 0, .int .i64 0, .int .i64 0, .int .i64 0, .bool false, .slice none 0 0, .slice none 0 0, .int .i64 0, .int .i64 0, .slice none 0 0, .int .i64 0], .bool false]) (by simp [results, Tryz.results10, go_sem, r0, r1, r2, r3, r4, r5, r6, r7, r8, r9, r10, r11, r12, r13]) rfl ⟨none, HI.out, ⟨none, 0, 0, none, 0, 0, none, 0, 0, rfl, ⟨nilR _ _ _ _, nilR _ _ _ _, nilR _ _ _ _⟩, ⟨by omega, by omega, by omega⟩, .inl ⟨rfl, rfl⟩⟩, HG2.out⟩
    | some M =>
      have HI : Hid (IsR n s.data.toList none) := HSp.out.none_bad (.inr (.inl hR))
      have y0 := Y9.at 0 rfl
      have y1 := Y9.at 1 rfl
      have y2 := Y9.at 2 rfl
      have y3 := Y9.at 3 rfl
      have y4 := Y9.at 4 rfl
      have y5 := Y9.at 5 rfl
      have y6 := Y9.at 6 rfl
      have y7 := Y9.at 7 rfl
      have y8 := Y9.at 8 rfl
      have y9 := Y9.at 9 rfl
      have y10 := Y9.at 10 rfl
      have y11 := Y9.at 11 rfl
      have y12 := Y9.at 12 rfl
      have y13 := Y9.at 13 rfl
      have f0 := Y9.frozen 0
      have f1 := Y9.frozen 1
      have f2 := Y9.frozen 2
      have f3 := Y9.frozen 3
      have f4 := Y9.frozen 4
      have f5 := Y9.frozen 5
      have f6 := Y9.frozen 6
      have f7 := Y9.frozen 7
      have f8 := Y9.frozen 8
      have f9 := Y9.frozen 9
      have f10 := Y9.frozen 10
      have f11 := Y9.frozen 11
      have f12 := Y9.frozen 12
      have f13 := Y9.frozen 13
      obtain ⟨V, hV⟩ : ∃ V, V = ((((((((((((((u9.setCell ⟨w.heap.size, 0, none⟩ (.int .i64 0)).setCell ⟨w.heap.size, 1, none⟩ (.int .i64 0)).setCell ⟨w.heap.size, 2, none⟩ (.int .i64 0)).setCell ⟨w.heap.size, 3, none⟩ (.int .i64 0)).setCell ⟨w.heap.size, 4, none⟩ (.int .i64 0)).setCell ⟨w.heap.size, 5, none⟩ (.int .i64 0)).setCell ⟨w.heap.size, 6, none⟩ (.int .i64 0)).setCell ⟨w.heap.size, 7, none⟩ (.bool false)).setCell ⟨w.heap.size, 8, none⟩ (.slice none 0 0)).setCell ⟨w.heap.size, 9, none⟩ (.slice none 0 0)).setCell ⟨w.heap.size, 10, none⟩ (.int .i64 0)).setCell ⟨w.heap.size, 11, none⟩ (.int .i64 0)).setCell ⟨w.heap.size, 12, none⟩ (.slice none 0 0)).setCell ⟨w.heap.size, 13, none⟩ (.int .i64 0)) := ⟨_, rfl⟩
      have eV : V = setQ u9 w.heap.size 0 [.int .i64 0, .int .i64 0, .int .i64 0, .int .i64 0, .int .i64 0, .int .i64 0, .int .i64 0, .bool false, .slice none 0 0, .slice none 0 0, .int .i64 0, .int .i64 0, .slice none 0 0, .int .i64 0] := hV
      have BR : BxQ V w.heap.size 40 #[.int .i64 0, .int .i64 0, .int .i64 0, .int .i64 0, .int .i64 0, .int .i64 0, .int .i64 0, .bool false, .slice none 0 0, .slice none 0 0, .int .i64 0, .int .i64 0, .slice none 0 0, .int .i64 0] := by rw [eV]; exact Y9.setQ 0 [.int .i64 0, .int .i64 0, .int .i64 0, .int .i64 0, .int .i64 0, .int .i64 0, .int .i64 0, .bool false, .slice none 0 0, .slice none 0 0, .int .i64 0, .int .i64 0, .slice none 0 0, .int .i64 0]
      have HG2 : Hid (Below w.heap.size w V) := by show Below _ _ _; rw [eV]; exact bel_grown HG9.out (gr_setQ 0 _) (Nat.le_refl _)
      have r0 := BR.at 0 rfl
      have r1 := BR.at 1 rfl
      have r2 := BR.at 2 rfl
      have r3 := BR.at 3 rfl
      have r4 := BR.at 4 rfl
      have r5 := BR.at 5 rfl
      have r6 := BR.at 6 rfl
      have r7 := BR.at 7 rfl
      have r8 := BR.at 8 rfl
      have r9 := BR.at 9 rfl
      have r10 := BR.at 10 rfl
      have r11 := BR.at 11 rfl
      have r12 := BR.at 12 rfl
      have r13 := BR.at 13 rfl
      clear eV BR Y9 B9 S9
      go_wp2
      rw [← hV]
      clear hV
      exact bodyPost_ret (v := .tuple #[.agg #[.int .i64 0, .int .i64 0, .int .i64 0, .int .i64 0, .int .i64 0, .int .i64 0, .int .i64 0, .bool false, .slice none 0 0, .slice none 0 0, .int .i64 0, .int .i64 0, .slice none 0 0, .int .i64 0], .bool false]) (by simp [results, Tryz.results10, go_sem, r0, r1, r2, r3, r4, r5, r6, r7, r8, r9, r10, r11, r12, r13]) rfl ⟨none, HI.out, ⟨none, 0, 0, none, 0, 0, none, 0, 0, rfl, ⟨nilR _ _ _ _, nilR _ _ _ _, nilR _ _ _ _⟩, ⟨by omega, by omega, by omega⟩, .inl ⟨rfl, rfl⟩⟩, HG2.out⟩
set_option maxRecDepth 100000 in
set_option maxHeartbeats 8000000 in
theorem sread_one (n : Int) (s : ByteArray) (hs : s.size ≤ 1048576) (hL : s.data.toList = 1 :: from_ s 1) (hK : nx pO (some s.data.toList) = (1, some (from_ s 1))) (w : World) :
    Calls Tryz.prog 10 #[.int .i64 n, .string s] w fun e w' => ∃ r, IsR n s.data.toList r ∧ ReA w w' e r ∧ Below w.heap.size w w' := by
  obtain ⟨W, hW⟩ : ∃ W, W = (w.alloc (.cells #[.int .i64 0, .int .i64 0, .int .i64 0, .int .i64 0, .int .i64 0, .int .i64 0, .int .i64 0, .bool false, .slice none 0 0, .slice none 0 0, .int .i64 0, .int .i64 0, .slice none 0 0, .int .i64 0] 40)).alloc (.cells #[.string s, .int .i64 0, .bool false] 55) := ⟨_, rfl⟩
  have bW : Below w.heap.size w W := by rw [hW]; exact ((Below.refl _ _).alloc (Nat.le_refl _) _).alloc (by simp) _
  have HX0 : Hid (BxQ W w.heap.size 40 #[.int .i64 0, .int .i64 0, .int .i64 0, .int .i64 0, .int .i64 0, .int .i64 0, .int .i64 0, .bool false, .slice none 0 0, .slice none 0 0, .int .i64 0, .int .i64 0, .slice none 0 0, .int .i64 0]) := by show BxQ _ _ _ _; rw [hW]; exact (BxQ.new w _ _).gr (World.grownBy_alloc _ _ none) (by simp)
  have C0 : RdAt False 55 W (w.heap.size + 1) s (some s.data.toList) := by
    have h := BxQ.new (w.alloc (.cells #[.int .i64 0, .int .i64 0, .int .i64 0, .int .i64 0, .int .i64 0, .int .i64 0, .int .i64 0, .bool false, .slice none 0 0, .slice none 0 0, .int .i64 0, .int .i64 0, .slice none 0 0, .int .i64 0] 40)) 55 #[.string s, .int .i64 0, .bool false]
    rw [show (w.alloc (.cells #[.int .i64 0, .int .i64 0, .int .i64 0, .int .i64 0, .int .i64 0, .int .i64 0, .int .i64 0, .bool false, .slice none 0 0, .slice none 0 0, .int .i64 0, .int .i64 0, .slice none 0 0, .int .i64 0] 40)).heap.size = w.heap.size + 1 by simp] at h
    rw [hW]
    exact ⟨0, false, h, Nat.zero_le _, .inl ⟨rfl, by rw [from_zero]⟩⟩
  have HK := hideIt (l09One_any s hs W _ _ C0)
  rw [hK] at HK
  dsimp only at HK
  have HB := hideIt bW
  have zW : W.heap.size = w.heap.size + 2 := by rw [hW]; simp
  clear bW C0
  go_enter Tryz.func10, Tryz.ntmps10
  go_upto_region 2 with fail
  rw [← hW]
  clear hW
  go_wp2_with (go_at_call 20; refine HK.out.mono ?_; rintro e u1 ⟨rfl, C1, g1⟩; refine Hid.out ?_)
  refine (show ∀ {p : Prop}, p → Hid p from fun h => h) ?_
  obtain ⟨V1, hV1⟩ : ∃ V1, V1 = u1.alloc (.cells #[.int .i64 1, .int .i64 0, .int .i64 0, .int .i64 0, .int .i64 0, .int .i64 0, .int .i64 0, .bool false, .slice none 0 0, .slice none 0 0, .int .i64 0, .int .i64 0, .slice none 0 0, .int .i64 0] 40) := ⟨_, rfl⟩
  have b1 : Below u1.heap.size u1 V1 := by rw [hV1]; exact (Below.refl _ _).alloc (Nat.le_refl _) _
  have B1 : BxQ V1 u1.heap.size 40 #[.int .i64 1, .int .i64 0, .int .i64 0, .int .i64 0, .int .i64 0, .int .i64 0, .int .i64 0, .bool false, .slice none 0 0, .slice none 0 0, .int .i64 0, .int .i64 0, .slice none 0 0, .int .i64 0] := by rw [hV1]; exact BxQ.new _ _ _
  have Y1 := (HX0.out.gr g1 (by simp)).gr (gr_below b1 none) (by simp)
  have S1 := C1.below b1
  have HG1 : Hid (Below w.heap.size w V1) := (bel_grown HB.out g1 (by omega)).trans (b1.mono (by have := g1.size; omega))
  have lR : w.heap.size + 1 < u1.heap.size := by have := g1.size; omega
  clear HK HX0 HB C1 g1 b1 zW
  go_upto_region 3 with fail
  rw [← hV1]
  clear hV1
  generalize u1.heap.size = bR at *
  have q0 := B1.at 0 rfl
  have d1 : ((1 : Int) == 1) = true := rfl
  have HG0_ := hideIt HG1.out
  have HV := hideIt (l09Var_any s hs V1 _ _ S1)
  have HBk := hideIt B1
  have HYk := hideIt Y1
  clear S1 B1 Y1
  go_wp2_with (go_at_call 21; refine HV.out.mono ?_; rintro e u2 ⟨rfl, C2, g2⟩; refine Hid.out ?_)
  refine (show ∀ {p : Prop}, p → Hid p from fun h => h) ?_
  have lb2 := HBk.out.lt
  have Bq := HBk.out.gr g2 (by simp; omega)
  have Yq := HYk.out.gr g2 (by simp)
  have HGq : Hid (Below w.heap.size w u2) := bel_grown HG1.out g2 (by omega)
  clear g2 HBk HYk HV
  obtain ⟨i, hi⟩ : ∃ i : Nat, i = (nx pN (some (from_ s 1))).1 := ⟨_, rfl⟩
  obtain ⟨t2, ht2⟩ : ∃ t2, t2 = (nx pN (some (from_ s 1))).2 := ⟨_, rfl⟩
  rw [← hi]
  rw [← ht2] at C2
  have Hi := hideIt hi
  have Ht2 := hideIt ht2
  clear hi ht2
  have xq := Bq.at 1 rfl
  have zq := Bq.frozen 1
  obtain ⟨V2, hV2⟩ : ∃ V2, V2 = u2.setCell ⟨bR, 1, none⟩ (.int .i64 (i : Int)) := ⟨_, rfl⟩
  have B2 : BxQ V2 bR 40 #[.int .i64 1, .int .i64 (i : Int), .int .i64 0, .int .i64 0, .int .i64 0, .int .i64 0, .int .i64 0, .bool false, .slice none 0 0, .slice none 0 0, .int .i64 0, .int .i64 0, .slice none 0 0, .int .i64 0] := by rw [hV2]; exact Bq.set 1 _
  have Y2 : BxQ V2 w.heap.size 40 #[.int .i64 0, .int .i64 0, .int .i64 0, .int .i64 0, .int .i64 0, .int .i64 0, .int .i64 0, .bool false, .slice none 0 0, .slice none 0 0, .int .i64 0, .int .i64 0, .slice none 0 0, .int .i64 0] := by rw [hV2]; exact Yq.setO _ (by omega)
  have S2 : RdAt False 55 V2 (w.heap.size + 1) s t2 := by rw [hV2]; exact C2.row (gr_set _ _ _ _) (by simp; omega)
  have HG2 : Hid (Below w.heap.size w V2) := by show Below _ _ _; rw [hV2]; exact bel_grown HGq.out (gr_set _ _ _ _) (by omega)
  clear Bq Yq C2 HGq
  go_upto_region 6 with fail
  rw [← hV2]
  clear hV2 xq zq
  have HV := hideIt (l09Var_any s hs V2 _ _ S2)
  have HBk := hideIt B2
  have HYk := hideIt Y2
  clear S2 B2 Y2
  go_wp2_with (go_at_call 21; refine HV.out.mono ?_; rintro e u3 ⟨rfl, C3, g3⟩; refine Hid.out ?_)
  refine (show ∀ {p : Prop}, p → Hid p from fun h => h) ?_
  have lb3 := HBk.out.lt
  have Bq := HBk.out.gr g3 (by simp; omega)
  have Yq := HYk.out.gr g3 (by simp)
  have HGq : Hid (Below w.heap.size w u3) := bel_grown HG2.out g3 (by omega)
  clear g3 HBk HYk HV
  obtain ⟨o, ho⟩ : ∃ o : Nat, o = (nx pN t2).1 := ⟨_, rfl⟩
  obtain ⟨t3, ht3⟩ : ∃ t3, t3 = (nx pN t2).2 := ⟨_, rfl⟩
  rw [← ho]
  rw [← ht3] at C3
  have Ho := hideIt ho
  have Ht3 := hideIt ht3
  clear ho ht3
  have xq := Bq.at 2 rfl
  have zq := Bq.frozen 2
  obtain ⟨V3, hV3⟩ : ∃ V3, V3 = u3.setCell ⟨bR, 2, none⟩ (.int .i64 (o : Int)) := ⟨_, rfl⟩
  have B3 : BxQ V3 bR 40 #[.int .i64 1, .int .i64 (i : Int), .int .i64 (o : Int), .int .i64 0, .int .i64 0, .int .i64 0, .int .i64 0, .bool false, .slice none 0 0, .slice none 0 0, .int .i64 0, .int .i64 0, .slice none 0 0, .int .i64 0] := by rw [hV3]; exact Bq.set 2 _
  have Y3 : BxQ V3 w.heap.size 40 #[.int .i64 0, .int .i64 0, .int .i64 0, .int .i64 0, .int .i64 0, .int .i64 0, .int .i64 0, .bool false, .slice none 0 0, .slice none 0 0, .int .i64 0, .int .i64 0, .slice none 0 0, .int .i64 0] := by rw [hV3]; exact Yq.setO _ (by omega)
  have S3 : RdAt False 55 V3 (w.heap.size + 1) s t3 := by rw [hV3]; exact C3.row (gr_set _ _ _ _) (by simp; omega)
  have HG3 : Hid (Below w.heap.size w V3) := by show Below _ _ _; rw [hV3]; exact bel_grown HGq.out (gr_set _ _ _ _) (by omega)
  clear Bq Yq C3 HGq
  go_upto_region 7 with fail
  rw [← hV3]
  clear hV3 xq zq
  have HV := hideIt (l09Var_any s hs V3 _ _ S3)
  have HBk := hideIt B3
  have HYk := hideIt Y3
  clear S3 B3 Y3
  go_wp2_with (go_at_call 21; refine HV.out.mono ?_; rintro e u4 ⟨rfl, C4, g4⟩; refine Hid.out ?_)
  refine (show ∀ {p : Prop}, p → Hid p from fun h => h) ?_
  have lb4 := HBk.out.lt
  have Bq := HBk.out.gr g4 (by simp; omega)
  have Yq := HYk.out.gr g4 (by simp)
  have HGq : Hid (Below w.heap.size w u4) := bel_grown HG3.out g4 (by omega)
  clear g4 HBk HYk HV
  obtain ⟨a, ha⟩ : ∃ a : Nat, a = (nx pN t3).1 := ⟨_, rfl⟩
  obtain ⟨t4, ht4⟩ : ∃ t4, t4 = (nx pN t3).2 := ⟨_, rfl⟩
  rw [← ha]
  rw [← ht4] at C4
  have Ha := hideIt ha
  have Ht4 := hideIt ht4
  clear ha ht4
  have xq := Bq.at 3 rfl
  have zq := Bq.frozen 3
  obtain ⟨V4, hV4⟩ : ∃ V4, V4 = u4.setCell ⟨bR, 3, none⟩ (.int .i64 (a : Int)) := ⟨_, rfl⟩
  have B4 : BxQ V4 bR 40 #[.int .i64 1, .int .i64 (i : Int), .int .i64 (o : Int), .int .i64 (a : Int), .int .i64 0, .int .i64 0, .int .i64 0, .bool false, .slice none 0 0, .slice none 0 0, .int .i64 0, .int .i64 0, .slice none 0 0, .int .i64 0] := by rw [hV4]; exact Bq.set 3 _
  have Y4 : BxQ V4 w.heap.size 40 #[.int .i64 0, .int .i64 0, .int .i64 0, .int .i64 0, .int .i64 0, .int .i64 0, .int .i64 0, .bool false, .slice none 0 0, .slice none 0 0, .int .i64 0, .int .i64 0, .slice none 0 0, .int .i64 0] := by rw [hV4]; exact Yq.setO _ (by omega)
  have S4 : RdAt False 55 V4 (w.heap.size + 1) s t4 := by rw [hV4]; exact C4.row (gr_set _ _ _ _) (by simp; omega)
  have HG4 : Hid (Below w.heap.size w V4) := by show Below _ _ _; rw [hV4]; exact bel_grown HGq.out (gr_set _ _ _ _) (by omega)
  clear Bq Yq C4 HGq
  go_upto_region 8 with fail
  rw [← hV4]
  clear hV4 xq zq
  have HV := hideIt (l09Var_any s hs V4 _ _ S4)
  have HBk := hideIt B4
  have HYk := hideIt Y4
  clear S4 B4 Y4
  go_wp2_with (go_at_call 21; refine HV.out.mono ?_; rintro e u5 ⟨rfl, C5, g5⟩; refine Hid.out ?_)
  refine (show ∀ {p : Prop}, p → Hid p from fun h => h) ?_
  have lb5 := HBk.out.lt
  have Bq := HBk.out.gr g5 (by simp; omega)
  have Yq := HYk.out.gr g5 (by simp)
  have HGq : Hid (Below w.heap.size w u5) := bel_grown HG4.out g5 (by omega)
  clear g5 HBk HYk HV
  obtain ⟨b, hb⟩ : ∃ b : Nat, b = (nx pN t4).1 := ⟨_, rfl⟩
  obtain ⟨t5, ht5⟩ : ∃ t5, t5 = (nx pN t4).2 := ⟨_, rfl⟩
  rw [← hb]
  rw [← ht5] at C5
  have Hb := hideIt hb
  have Ht5 := hideIt ht5
  clear hb ht5
  have xq := Bq.at 4 rfl
  have zq := Bq.frozen 4
  obtain ⟨V5, hV5⟩ : ∃ V5, V5 = u5.setCell ⟨bR, 4, none⟩ (.int .i64 (b : Int)) := ⟨_, rfl⟩
  have B5 : BxQ V5 bR 40 #[.int .i64 1, .int .i64 (i : Int), .int .i64 (o : Int), .int .i64 (a : Int), .int .i64 (b : Int), .int .i64 0, .int .i64 0, .bool false, .slice none 0 0, .slice none 0 0, .int .i64 0, .int .i64 0, .slice none 0 0, .int .i64 0] := by rw [hV5]; exact Bq.set 4 _
  have Y5 : BxQ V5 w.heap.size 40 #[.int .i64 0, .int .i64 0, .int .i64 0, .int .i64 0, .int .i64 0, .int .i64 0, .int .i64 0, .bool false, .slice none 0 0, .slice none 0 0, .int .i64 0, .int .i64 0, .slice none 0 0, .int .i64 0] := by rw [hV5]; exact Yq.setO _ (by omega)
  have S5 : RdAt False 55 V5 (w.heap.size + 1) s t5 := by rw [hV5]; exact C5.row (gr_set _ _ _ _) (by simp; omega)
  have HG5 : Hid (Below w.heap.size w V5) := by show Below _ _ _; rw [hV5]; exact bel_grown HGq.out (gr_set _ _ _ _) (by omega)
  clear Bq Yq C5 HGq
  go_upto_region 14 with fail
  rw [← hV5]
  clear hV5 xq zq
  have HG0 := hideIt HG5.out
  have HSP : Hid (Sp n s.data.toList ⟨1, (i : Int), (o : Int), (a : Int), (b : Int), 0, ⟨0, false, [], []⟩, ⟨0, 0, [], 0⟩⟩ t5) := by
    show Sp _ _ _ _
    rw [hL, Hi.out, Ho.out, Ha.out, Hb.out, Ht5.out, Ht4.out, Ht3.out, Ht2.out]
    exact sp1
  clear Hi Ho Ha Hb Ht2 Ht3 Ht4 Ht5
  have HRT := hideIt (sRecText_any n 1 (i : Int) (o : Int) (a : Int) (b : Int) 0 0 false [] [] 0 0 [] 0 none 0 0 none 0 0 none 0 0 V5 ⟨rfl, .inl rfl⟩ ⟨rfl, .inl rfl⟩ ⟨rfl, .inl rfl⟩ (by omega) (by omega) (by omega))
  have m0 := B5.at 0 rfl
  have m1 := B5.at 1 rfl
  have m2 := B5.at 2 rfl
  have m3 := B5.at 3 rfl
  have m4 := B5.at 4 rfl
  have m5 := B5.at 5 rfl
  have m6 := B5.at 6 rfl
  have m7 := B5.at 7 rfl
  have m8 := B5.at 8 rfl
  have m9 := B5.at 9 rfl
  have m10 := B5.at 10 rfl
  have m11 := B5.at 11 rfl
  have m12 := B5.at 12 rfl
  have m13 := B5.at 13 rfl
  have hfl := S5.fl
  have HSt := hideIt S5
  have HBx := hideIt B5
  have HYx := hideIt Y5
  have HSp := hideIt (HSP.out)
  obtain ⟨R, hR⟩ : ∃ R : RecV, R = ⟨1, (i : Int), (o : Int), (a : Int), (b : Int), 0, ⟨0, false, [], []⟩, ⟨0, 0, [], 0⟩⟩ := ⟨_, rfl⟩
  rw [← hR] at HRT HSp
  have hRf := hideIt hR
  clear hR
  clear B5 Y5 S5
  have HSt2 : Hid (Option (List UInt8) → True) := fun _ => trivial
  obtain ⟨st', hst'⟩ : ∃ st', st' = t5 := ⟨_, rfl⟩
  rw [← hst'] at HSp HSt hfl
  clear HSt2 hst'
  by_cases hR : RecB n R
  · rw [rtV_yes hR] at HRT
    go_wp2_with (go_at_call 25; refine HRT.out.mono ?_; rintro e u9 ⟨rfl, g9⟩; refine Hid.out ?_)
    refine (show ∀ {p : Prop}, p → Hid p from fun h => h) ?_
    have Y9 := HYx.out.gr (gr_below g9 none) (by simp)
    have B9 := HBx.out.gr (gr_below g9 none) (by simp)
    have S9 := HSt.out.below g9
    have HG9 : Hid (Below w.heap.size w u9) := HG0.out.trans (g9.mono HG0.out.size)
    have fl := S9.fl
    clear HRT hfl m0 m1 m2 m3 m4 m5 m6 m7 m8 m9 m10 m11 m12 m13
    cases st' with
    | none =>
      have HI : Hid (IsR n s.data.toList none) := HSp.out.none_bad (.inl rfl)
      have y0 := Y9.at 0 rfl
      have y1 := Y9.at 1 rfl
      have y2 := Y9.at 2 rfl
      have y3 := Y9.at 3 rfl
      have y4 := Y9.at 4 rfl
      have y5 := Y9.at 5 rfl
      have y6 := Y9.at 6 rfl
      have y7 := Y9.at 7 rfl
      have y8 := Y9.at 8 rfl
      have y9 := Y9.at 9 rfl
      have y10 := Y9.at 10 rfl
      have y11 := Y9.at 11 rfl
      have y12 := Y9.at 12 rfl
      have y13 := Y9.at 13 rfl
      have f0 := Y9.frozen 0
      have f1 := Y9.frozen 1
      have f2 := Y9.frozen 2
      have f3 := Y9.frozen 3
      have f4 := Y9.frozen 4
      have f5 := Y9.frozen 5
      have f6 := Y9.frozen 6
      have f7 := Y9.frozen 7
      have f8 := Y9.frozen 8
      have f9 := Y9.frozen 9
      have f10 := Y9.frozen 10
      have f11 := Y9.frozen 11
      have f12 := Y9.frozen 12
      have f13 := Y9.frozen 13
      obtain ⟨V, hV⟩ : ∃ V, V = ((((((((((((((u9.setCell ⟨w.heap.size, 0, none⟩ (.int .i64 0)).setCell ⟨w.heap.size, 1, none⟩ (.int .i64 0)).setCell ⟨w.heap.size, 2, none⟩ (.int .i64 0)).setCell ⟨w.heap.size, 3, none⟩ (.int .i64 0)).setCell ⟨w.heap.size, 4, none⟩ (.int .i64 0)).setCell ⟨w.heap.size, 5, none⟩ (.int .i64 0)).setCell ⟨w.heap.size, 6, none⟩ (.int .i64 0)).setCell ⟨w.heap.size, 7, none⟩ (.bool false)).setCell ⟨w.heap.size, 8, none⟩ (.slice none 0 0)).setCell ⟨w.heap.size, 9, none⟩ (.slice none 0 0)).setCell ⟨w.heap.size, 10, none⟩ (.int .i64 0)).setCell ⟨w.heap.size, 11, none⟩ (.int .i64 0)).setCell ⟨w.heap.size, 12, none⟩ (.slice none 0 0)).setCell ⟨w.heap.size, 13, none⟩ (.int .i64 0)) := ⟨_, rfl⟩
      have eV : V = setQ u9 w.heap.size 0 [.int .i64 0, .int .i64 0, .int .i64 0, .int .i64 0, .int .i64 0, .int .i64 0, .int .i64 0, .bool false, .slice none 0 0, .slice none 0 0, .int .i64 0, .int .i64 0, .slice none 0 0, .int .i64 0] := hV
      have BR : BxQ V w.heap.size 40 #[.int .i64 0, .int .i64 0, .int .i64 0, .int .i64 0, .int .i64 0, .int .i64 0, .int .i64 0, .bool false, .slice none 0 0, .slice none 0 0, .int .i64 0, .int .i64 0, .slice none 0 0, .int .i64 0] := by rw [eV]; exact Y9.setQ 0 [.int .i64 0, .int .i64 0, .int .i64 0, .int .i64 0, .int .i64 0, .int .i64 0, .int .i64 0, .bool false, .slice none 0 0, .slice none 0 0, .int .i64 0, .int .i64 0, .slice none 0 0, .int .i64 0]
      have HG2 : Hid (Below w.heap.size w V) := by show Below _ _ _; rw [eV]; exact bel_grown HG9.out (gr_setQ 0 _) (Nat.le_refl _)
      have r0 := BR.at 0 rfl
      have r1 := BR.at 1 rfl
      have r2 := BR.at 2 rfl
      have r3 := BR.at 3 rfl
      have r4 := BR.at 4 rfl
      have r5 := BR.at 5 rfl
      have r6 := BR.at 6 rfl
      have r7 := BR.at 7 rfl
      have r8 := BR.at 8 rfl
      have r9 := BR.at 9 rfl
      have r10 := BR.at 10 rfl
      have r11 := BR.at 11 rfl
      have r12 := BR.at 12 rfl
      have r13 := BR.at 13 rfl
      clear eV BR Y9 B9 S9
      go_wp2
      rw [← hV]
      clear hV
      exact bodyPost_ret (v := .tuple #[.agg #[.int .i64 0, .int .i64 0, .int .i64 0, .int .i64 0, .int .i64 0, .int .i64 0, .int .i64 0, .bool false, .slice none 0 0, .slice none 0 0, .int .i64 0, .int .i64 0, .slice none 0 0, .int .i64 0], .bool false]) (by simp [results, Tryz.results10, go_sem, r0, r1, r2, r3, r4, r5, r6, r7, r8, r9, r10, r11, r12, r13]) rfl ⟨none, HI.out, ⟨none, 0, 0, none, 0, 0, none, 0, 0, rfl, ⟨nilR _ _ _ _, nilR _ _ _ _, nilR _ _ _ _⟩, ⟨by omega, by omega, by omega⟩, .inl ⟨rfl, rfl⟩⟩, HG2.out⟩
    | some M =>
      by_cases hT : rText R = s.data.toList
      · rw [str_eq hT]
        have dT : (s.toList == s.toList) = true := by simp
        have HI : Hid (IsR n s.data.toList (some R)) := ⟨hR, hT⟩
        have y0 := Y9.at 0 rfl
        have y1 := Y9.at 1 rfl
        have y2 := Y9.at 2 rfl
        have y3 := Y9.at 3 rfl
        have y4 := Y9.at 4 rfl
        have y5 := Y9.at 5 rfl
        have y6 := Y9.at 6 rfl
        have y7 := Y9.at 7 rfl
        have y8 := Y9.at 8 rfl
        have y9 := Y9.at 9 rfl
        have y10 := Y9.at 10 rfl
        have y11 := Y9.at 11 rfl
        have y12 := Y9.at 12 rfl
        have y13 := Y9.at 13 rfl
        have f0 := Y9.frozen 0
        have f1 := Y9.frozen 1
        have f2 := Y9.frozen 2
        have f3 := Y9.frozen 3
        have f4 := Y9.frozen 4
        have f5 := Y9.frozen 5
        have f6 := Y9.frozen 6
        have f7 := Y9.frozen 7
        have f8 := Y9.frozen 8
        have f9 := Y9.frozen 9
        have f10 := Y9.frozen 10
        have f11 := Y9.frozen 11
        have f12 := Y9.frozen 12
        have f13 := Y9.frozen 13
        have b0 := B9.at 0 rfl
        have b1 := B9.at 1 rfl
        have b2 := B9.at 2 rfl
        have b3 := B9.at 3 rfl
        have b4 := B9.at 4 rfl
        have b5 := B9.at 5 rfl
        have b6 := B9.at 6 rfl
        have b7 := B9.at 7 rfl
        have b8 := B9.at 8 rfl
        have b9 := B9.at 9 rfl
        have b10 := B9.at 10 rfl
        have b11 := B9.at 11 rfl
        have b12 := B9.at 12 rfl
        have b13 := B9.at 13 rfl
        obtain ⟨V, hV⟩ : ∃ V, V = ((((((((((((((u9.setCell ⟨w.heap.size, 0, none⟩ (.int .i64 1)).setCell ⟨w.heap.size, 1, none⟩ (.int .i64 (i : Int))).setCell ⟨w.heap.size, 2, none⟩ (.int .i64 (o : Int))).setCell ⟨w.heap.size, 3, none⟩ (.int .i64 (a : Int))).setCell ⟨w.heap.size, 4, none⟩ (.int .i64 (b : Int))).setCell ⟨w.heap.size, 5, none⟩ (.int .i64 0)).setCell ⟨w.heap.size, 6, none⟩ (.int .i64 0)).setCell ⟨w.heap.size, 7, none⟩ (.bool false)).setCell ⟨w.heap.size, 8, none⟩ (.slice none 0 0)).setCell ⟨w.heap.size, 9, none⟩ (.slice none 0 0)).setCell ⟨w.heap.size, 10, none⟩ (.int .i64 0)).setCell ⟨w.heap.size, 11, none⟩ (.int .i64 0)).setCell ⟨w.heap.size, 12, none⟩ (.slice none 0 0)).setCell ⟨w.heap.size, 13, none⟩ (.int .i64 0)) := ⟨_, rfl⟩
        have eV : V = setQ u9 w.heap.size 0 [.int .i64 1, .int .i64 (i : Int), .int .i64 (o : Int), .int .i64 (a : Int), .int .i64 (b : Int), .int .i64 0, .int .i64 0, .bool false, .slice none 0 0, .slice none 0 0, .int .i64 0, .int .i64 0, .slice none 0 0, .int .i64 0] := hV
        have BR : BxQ V w.heap.size 40 #[.int .i64 1, .int .i64 (i : Int), .int .i64 (o : Int), .int .i64 (a : Int), .int .i64 (b : Int), .int .i64 0, .int .i64 0, .bool false, .slice none 0 0, .slice none 0 0, .int .i64 0, .int .i64 0, .slice none 0 0, .int .i64 0] := by rw [eV]; exact Y9.setQ 0 [.int .i64 1, .int .i64 (i : Int), .int .i64 (o : Int), .int .i64 (a : Int), .int .i64 (b : Int), .int .i64 0, .int .i64 0, .bool false, .slice none 0 0, .slice none 0 0, .int .i64 0, .int .i64 0, .slice none 0 0, .int .i64 0]
        have HG2 : Hid (Below w.heap.size w V) := by show Below _ _ _; rw [eV]; exact bel_grown HG9.out (gr_setQ 0 _) (Nat.le_refl _)
        have HRV : Hid (RcR V w.heap.size ⟨1, (i : Int), (o : Int), (a : Int), (b : Int), 0, ⟨0, false, [], []⟩, ⟨0, 0, [], 0⟩⟩ none 0 0 none 0 0 none 0 0) := ⟨⟨nilR _ _ _ _, nilR _ _ _ _, nilR _ _ _ _⟩, ⟨by omega, by omega, by omega⟩, .inl ⟨rfl, rfl⟩⟩
        have r0 := BR.at 0 rfl
        have r1 := BR.at 1 rfl
        have r2 := BR.at 2 rfl
        have r3 := BR.at 3 rfl
        have r4 := BR.at 4 rfl
        have r5 := BR.at 5 rfl
        have r6 := BR.at 6 rfl
        have r7 := BR.at 7 rfl
        have r8 := BR.at 8 rfl
        have r9 := BR.at 9 rfl
        have r10 := BR.at 10 rfl
        have r11 := BR.at 11 rfl
        have r12 := BR.at 12 rfl
        have r13 := BR.at 13 rfl
        clear eV BR Y9 B9 S9
        go_wp2
        rw [← hV]
        clear hV
        exact bodyPost_ret (v := .tuple #[.agg #[.int .i64 1, .int .i64 (i : Int), .int .i64 (o : Int), .int .i64 (a : Int), .int .i64 (b : Int), .int .i64 0, .int .i64 0, .bool false, .slice none 0 0, .slice none 0 0, .int .i64 0, .int .i64 0, .slice none 0 0, .int .i64 0], .bool true]) (by simp [results, Tryz.results10, go_sem, r0, r1, r2, r3, r4, r5, r6, r7, r8, r9, r10, r11, r12, r13]) rfl ⟨some R, HI.out, ⟨none, 0, 0, none, 0, 0, none, 0, 0, by rw [hRf.out]; rfl, by rw [hRf.out]; exact HRV.out⟩, HG2.out⟩
      · have dT := str_neq hT
        have HI : Hid (IsR n s.data.toList none) := HSp.out.none_bad (.inr (.inr hT))
        have y0 := Y9.at 0 rfl
        have y1 := Y9.at 1 rfl
        have y2 := Y9.at 2 rfl
        have y3 := Y9.at 3 rfl
        have y4 := Y9.at 4 rfl
        have y5 := Y9.at 5 rfl
        have y6 := Y9.at 6 rfl
        have y7 := Y9.at 7 rfl
        have y8 := Y9.at 8 rfl
        have y9 := Y9.at 9 rfl
        have y10 := Y9.at 10 rfl
        have y11 := Y9.at 11 rfl
        have y12 := Y9.at 12 rfl
        have y13 := Y9.at 13 rfl
        have f0 := Y9.frozen 0
        have f1 := Y9.frozen 1
        have f2 := Y9.frozen 2
        have f3 := Y9.frozen 3
        have f4 := Y9.frozen 4
        have f5 := Y9.frozen 5
        have f6 := Y9.frozen 6
        have f7 := Y9.frozen 7
        have f8 := Y9.frozen 8
        have f9 := Y9.frozen 9
        have f10 := Y9.frozen 10
        have f11 := Y9.frozen 11
        have f12 := Y9.frozen 12
        have f13 := Y9.frozen 13
        obtain ⟨V, hV⟩ : ∃ V, V = ((((((((((((((u9.setCell ⟨w.heap.size, 0, none⟩ (.int .i64 0)).setCell ⟨w.heap.size, 1, none⟩ (.int .i64 0)).setCell ⟨w.heap.size, 2, none⟩ (.int .i64 0)).setCell ⟨w.heap.size, 3, none⟩ (.int .i64 0)).setCell ⟨w.heap.size, 4, none⟩ (.int .i64 0)).setCell ⟨w.heap.size, 5, none⟩ (.int .i64 0)).setCell ⟨w.heap.size, 6, none⟩ (.int .i64 0)).setCell ⟨w.heap.size, 7, none⟩ (.bool false)).setCell ⟨w.heap.size, 8, none⟩ (.slice none 0 0)).setCell ⟨w.heap.size, 9, none⟩ (.slice none 0 0)).setCell ⟨w.heap.size, 10, none⟩ (.int .i64 0)).setCell ⟨w.heap.size, 11, none⟩ (.int .i64 0)).setCell ⟨w.heap.size, 12, none⟩ (.slice none 0 0)).setCell ⟨w.heap.size, 13, none⟩ (.int .i64 0)) := ⟨_, rfl⟩
        have eV : V = setQ u9 w.heap.size 0 [.int .i64 0, .int .i64 0, .int .i64 0, .int .i64 0, .int .i64 0, .int .i64 0, .int .i64 0, .bool false, .slice none 0 0, .slice none 0 0, .int .i64 0, .int .i64 0, .slice none 0 0, .int .i64 0] := hV
        have BR : BxQ V w.heap.size 40 #[.int .i64 0, .int .i64 0, .int .i64 0, .int .i64 0, .int .i64 0, .int .i64 0, .int .i64 0, .bool false, .slice none 0 0, .slice none 0 0, .int .i64 0, .int .i64 0, .slice none 0 0, .int .i64 0] := by rw [eV]; exact Y9.setQ 0 [.int .i64 0, .int .i64 0, .int .i64 0, .int .i64 0, .int .i64 0, .int .i64 0, .int .i64 0, .bool false, .slice none 0 0, .slice none 0 0, .int .i64 0, .int .i64 0, .slice none 0 0, .int .i64 0]
        have HG2 : Hid (Below w.heap.size w V) := by show Below _ _ _; rw [eV]; exact bel_grown HG9.out (gr_setQ 0 _) (Nat.le_refl _)
        have r0 := BR.at 0 rfl
        have r1 := BR.at 1 rfl
        have r2 := BR.at 2 rfl
        have r3 := BR.at 3 rfl
        have r4 := BR.at 4 rfl
        have r5 := BR.at 5 rfl
        have r6 := BR.at 6 rfl
        have r7 := BR.at 7 rfl
        have r8 := BR.at 8 rfl
        have r9 := BR.at 9 rfl
        have r10 := BR.at 10 rfl
        have r11 := BR.at 11 rfl
        have r12 := BR.at 12 rfl
        have r13 := BR.at 13 rfl
        clear eV BR Y9 B9 S9
        go_wp2
        rw [← hV]
        clear hV
        exact bodyPost_ret (v := .tuple #[.agg #[.int .i64 0, .int .i64 0, .int .i64 0, .int .i64 0, .int .i64 0, .int .i64 0, .int .i64 0, .bool false, .slice none 0 0, .slice none 0 0, .int .i64 0, .int .i64 0, .slice none 0 0, .int .i64 0], .bool false]) (by simp [results, Tryz.results10, go_sem, r0, r1, r2, r3, r4, r5, r6, r7, r8, r9, r10, r11, r12, r13]) rfl ⟨none, HI.out, ⟨none, 0, 0, none, 0, 0, none, 0, 0, rfl, ⟨nilR _ _ _ _, nilR _ _ _ _, nilR _ _ _ _⟩, ⟨by omega, by omega, by omega⟩, .inl ⟨rfl, rfl⟩⟩, HG2.out⟩
  · rw [rtV_no hR] at HRT
    go_wp2_with (go_at_call 25; refine HRT.out.mono ?_; rintro e u9 ⟨rfl, g9⟩; refine Hid.out ?_)
    refine (show ∀ {p : Prop}, p → Hid p from fun h => h) ?_
    have Y9 := HYx.out.gr (gr_below g9 none) (by simp)
    have B9 := HBx.out.gr (gr_below g9 none) (by simp)
    have S9 := HSt.out.below g9
    have HG9 : Hid (Below w.heap.size w u9) := HG0.out.trans (g9.mono HG0.out.size)
    have fl := S9.fl
    clear HRT hfl m0 m1 m2 m3 m4 m5 m6 m7 m8 m9 m10 m11 m12 m13
    cases st' with
    | none =>
      have HI : Hid (IsR n s.data.toList none) := HSp.out.none_bad (.inl rfl)
      have y0 := Y9.at 0 rfl
      have y1 := Y9.at 1 rfl
      have y2 := Y9.at 2 rfl
      have y3 := Y9.at 3 rfl
      have y4 := Y9.at 4 rfl
      have y5 := Y9.at 5 rfl
      have y6 := Y9.at 6 rfl
      have y7 := Y9.at 7 rfl
      have y8 := Y9.at 8 rfl
      have y9 := Y9.at 9 rfl
      have y10 := Y9.at 10 rfl
      have y11 := Y9.at 11 rfl
      have y12 := Y9.at 12 rfl
      have y13 := Y9.at 13 rfl
      have f0 := Y9.frozen 0
      have f1 := Y9.frozen 1
      have f2 := Y9.frozen 2
      have f3 := Y9.frozen 3
      have f4 := Y9.frozen 4
      have f5 := Y9.frozen 5
      have f6 := Y9.frozen 6
      have f7 := Y9.frozen 7
      have f8 := Y9.frozen 8
      have f9 := Y9.frozen 9
      have f10 := Y9.frozen 10
      have f11 := Y9.frozen 11
      have f12 := Y9.frozen 12
      have f13 := Y9.frozen 13
      obtain ⟨V, hV⟩ : ∃ V, V = ((((((((((((((u9.setCell ⟨w.heap.size, 0, none⟩ (.int .i64 0)).setCell ⟨w.heap.size, 1, none⟩ (.int .i64 0)).setCell ⟨w.heap.size, 2, none⟩ (.int .i64 0)).setCell ⟨w.heap.size, 3, none⟩ (.int .i64 0)).setCell ⟨w.heap.size, 4, none⟩ (.int .i64 0)).setCell ⟨w.heap.size, 5, none⟩ (.int .i64 0)).setCell ⟨w.heap.size, 6, none⟩ (.int .i64 0)).setCell ⟨w.heap.size, 7, none⟩ (.bool false)).setCell ⟨w.heap.size, 8, none⟩ (.slice none 0 0)).setCell ⟨w.heap.size, 9, none⟩ (.slice none 0 0)).setCell ⟨w.heap.size, 10, none⟩ (.int .i64 0)).setCell ⟨w.heap.size, 11, none⟩ (.int .i64 0)).setCell ⟨w.heap.size, 12, none⟩ (.slice none 0 0)).setCell ⟨w.heap.size, 13, none⟩ (.int .i64 0)) := ⟨_, rfl⟩
      have eV : V = setQ u9 w.heap.size 0 [.int .i64 0, .int .i64 0, .int .i64 0, .int .i64 0, .int .i64 0, .int .i64 0, .int .i64 0, .bool false, .slice none 0 0, .slice none 0 0, .int .i64 0, .int .i64 0, .slice none 0 0, .int .i64 0] := hV
      have BR : BxQ V w.heap.size 40 #[.int .i64 0, .int .i64 0, .int .i64 0, .int .i64 0, .int .i64 0, .int .i64 0, .int .i64 0, .bool false, .slice none 0 0, .slice none 0 0, .int .i64 0, .int .i64 0, .slice none 0 0, .int .i64 0] := by rw [eV]; exact Y9.setQ 0 [.int .i64 0, .int .i64 0, .int .i64 0, .int .i64 0, .int .i64 0, .int .i64 0, .int .i64 0, .bool false, .slice none 0 0, .slice none 0 0, .int .i64 0, .int .i64 0, .slice none 0 0, .int .i64 0]
      have HG2 : Hid (Below w.heap.size w V) := by show Below _ _ _; rw [eV]; exact bel_grown HG9.out (gr_setQ 0 _) (Nat.le_refl _)
      have r0 := BR.at 0 rfl
      have r1 := BR.at 1 rfl
      have r2 := BR.at 2 rfl
      have r3 := BR.at 3 rfl
      have r4 := BR.at 4 rfl
      have r5 := BR.at 5 rfl
      have r6 := BR.at 6 rfl
      have r7 := BR.at 7 rfl
      have r8 := BR.at 8 rfl
      have r9 := BR.at 9 rfl
      have r10 := BR.at 10 rfl
      have r11 := BR.at 11 rfl
      have r12 := BR.at 12 rfl
      have r13 := BR.at 13 rfl
      clear eV BR Y9 B9 S9
      go_wp2
      rw [← hV]
      clear hV
      exact bodyPost_ret (v := .tuple #[.agg #[.int .i64 0, .int .i64 0, .int .i64 0, .int .i64 0, .int .i64 0, .int .i64 0, .int .i64 0, .bool false, .slice none 0 0, .slice none 0 0, .int .i64 0, .int .i64 0, .slice none 0 0, .int .i64 0], .bool false]) (by simp [results, Tryz.results10, go_sem, r0, r1, r2, r3, r4, r5, r6, r7, r8, r9, r10, r11, r12, r13]) rfl ⟨none, HI.out, ⟨none, 0, 0, none, 0, 0, none, 0, 0, rfl, ⟨nilR _ _ _ _, nilR _ _ _ _, nilR _ _ _ _⟩, ⟨by omega, by omega, by omega⟩, .inl ⟨rfl, rfl⟩⟩, HG2.out⟩
    | some M =>
      have HI : Hid (IsR n s.data.toList none) := HSp.out.none_bad (.inr (.inl hR))
      have y0 := Y9.at 0 rfl
      have y1 := Y9.at 1 rfl
      have y2 := Y9.at 2 rfl
      have y3 := Y9.at 3 rfl
      have y4 := Y9.at 4 rfl
      have y5 := Y9.at 5 rfl
      have y6 := Y9.at 6 rfl
      have y7 := Y9.at 7 rfl
      have y8 := Y9.at 8 rfl
      have y9 := Y9.at 9 rfl
      have y10 := Y9.at 10 rfl
      have y11 := Y9.at 11 rfl
      have y12 := Y9.at 12 rfl
      have y13 := Y9.at 13 rfl
      have f0 := Y9.frozen 0
      have f1 := Y9.frozen 1
      have f2 := Y9.frozen 2
      have f3 := Y9.frozen 3
      have f4 := Y9.frozen 4
      have f5 := Y9.frozen 5
      have f6 := Y9.frozen 6
      have f7 := Y9.frozen 7
      have f8 := Y9.frozen 8
      have f9 := Y9.frozen 9
      have f10 := Y9.frozen 10
      have f11 := Y9.frozen 11
      have f12 := Y9.frozen 12
      have f13 := Y9.frozen 13
      obtain ⟨V, hV⟩ : ∃ V, V = ((((((((((((((u9.setCell ⟨w.heap.size, 0, none⟩ (.int .i64 0)).setCell ⟨w.heap.size, 1, none⟩ (.int .i64 0)).setCell ⟨w.heap.size, 2, none⟩ (.int .i64 0)).setCell ⟨w.heap.size, 3, none⟩ (.int .i64 0)).setCell ⟨w.heap.size, 4, none⟩ (.int .i64 0)).setCell ⟨w.heap.size, 5, none⟩ (.int .i64 0)).setCell ⟨w.heap.size, 6, none⟩ (.int .i64 0)).setCell ⟨w.heap.size, 7, none⟩ (.bool false)).setCell ⟨w.heap.size, 8, none⟩ (.slice none 0 0)).setCell ⟨w.heap.size, 9, none⟩ (.slice none 0 0)).setCell ⟨w.heap.size, 10, none⟩ (.int .i64 0)).setCell ⟨w.heap.size, 11, none⟩ (.int .i64 0)).setCell ⟨w.heap.size, 12, none⟩ (.slice none 0 0)).setCell ⟨w.heap.size, 13, none⟩ (.int .i64 0)) := ⟨_, rfl⟩
      have eV : V = setQ u9 w.heap.size 0 [.int .i64 0, .int .i64 0, .int .i64 0, .int .i64 0, .int .i64 0, .int .i64 0, .int .i64 0, .bool false, .slice none 0 0, .slice none 0 0, .int .i64 0, .int .i64 0, .slice none 0 0, .int .i64 0] := hV
      have BR : BxQ V w.heap.size 40 #[.int .i64 0, .int .i64 0, .int .i64 0, .int .i64 0, .int .i64 0, .int .i64 0, .int .i64 0, .bool false, .slice none 0 0, .slice none 0 0, .int .i64 0, .int .i64 0, .slice none 0 0, .int .i64 0] := by rw [eV]; exact Y9.setQ 0 [.int .i64 0, .int .i64 0, .int .i64 0, .int .i64 0, .int .i64 0, .int .i64 0, .int .i64 0, .bool false, .slice none 0 0, .slice none 0 0, .int .i64 0, .int .i64 0, .slice none 0 0, .int .i64 0]
      have HG2 : Hid (Below w.heap.size w V) := by show Below _ _ _; rw [eV]; exact bel_grown HG9.out (gr_setQ 0 _) (Nat.le_refl _)
      have r0 := BR.at 0 rfl
      have r1 := BR.at 1 rfl
      have r2 := BR.at 2 rfl
      have r3 := BR.at 3 rfl
      have r4 := BR.at 4 rfl
      have r5 := BR.at 5 rfl
      have r6 := BR.at 6 rfl
      have r7 := BR.at 7 rfl
      have r8 := BR.at 8 rfl
      have r9 := BR.at 9 rfl
      have r10 := BR.at 10 rfl
      have r11 := BR.at 11 rfl
      have r12 := BR.at 12 rfl
      have r13 := BR.at 13 rfl
      clear eV BR Y9 B9 S9
      go_wp2
      rw [← hV]
      clear hV
      exact bodyPost_ret (v := .tuple #[.agg #[.int .i64 0, .int .i64 0, .int .i64 0, .int .i64 0, .int .i64 0, .int .i64 0, .int .i64 0, .bool false, .slice none 0 0, .slice none 0 0, .int .i64 0, .int .i64 0, .slice none 0 0, .int .i64 0], .bool false]) (by simp [results, Tryz.results10, go_sem, r0, r1, r2, r3, r4, r5, r6, r7, r8, r9, r10, r11, r12, r13]) rfl ⟨none, HI.out, ⟨none, 0, 0, none, 0, 0, none, 0, 0, rfl, ⟨nilR _ _ _ _, nilR _ _ _ _, nilR _ _ _ _⟩, ⟨by omega, by omega, by omega⟩, .inl ⟨rfl, rfl⟩⟩, HG2.out⟩
set_option maxRecDepth 100000 in
set_option maxHeartbeats 8000000 in
theorem sread_two (n : Int) (s : ByteArray) (hs : s.size ≤ 1048576) (hL : s.data.toList = 2 :: from_ s 1) (hK : nx pO (some s.data.toList) = (2, some (from_ s 1))) (w : World) :
    Calls Tryz.prog 10 #[.int .i64 n, .string s] w fun e w' => ∃ r, IsR n s.data.toList r ∧ ReA w w' e r ∧ Below w.heap.size w w' := by
  obtain ⟨W, hW⟩ : ∃ W, W = (w.alloc (.cells #[.int .i64 0, .int .i64 0, .int .i64 0, .int .i64 0, .int .i64 0, .int .i64 0, .int .i64 0, .bool false, .slice none 0 0, .slice none 0 0, .int .i64 0, .int .i64 0, .slice none 0 0, .int .i64 0] 40)).alloc (.cells #[.string s, .int .i64 0, .bool false] 55) := ⟨_, rfl⟩
  have bW : Below w.heap.size w W := by rw [hW]; exact ((Below.refl _ _).alloc (Nat.le_refl _) _).alloc (by simp) _
  have HX0 : Hid (BxQ W w.heap.size 40 #[.int .i64 0, .int .i64 0, .int .i64 0, .int .i64 0, .int .i64 0, .int .i64 0, .int .i64 0, .bool false, .slice none 0 0, .slice none 0 0, .int .i64 0, .int .i64 0, .slice none 0 0, .int .i64 0]) := by show BxQ _ _ _ _; rw [hW]; exact (BxQ.new w _ _).gr (World.grownBy_alloc _ _ none) (by simp)
  have C0 : RdAt False 55 W (w.heap.size + 1) s (some s.data.toList) := by
    have h := BxQ.new (w.alloc (.cells #[.int .i64 0, .int .i64 0, .int .i64 0, .int .i64 0, .int .i64 0, .int .i64 0, .int .i64 0, .bool false, .slice none 0 0, .slice none 0 0, .int .i64 0, .int .i64 0, .slice none 0 0, .int .i64 0] 40)) 55 #[.string s, .int .i64 0, .bool false]
    rw [show (w.alloc (.cells #[.int .i64 0, .int .i64 0, .int .i64 0, .int .i64 0, .int .i64 0, .int .i64 0, .int .i64 0, .bool false, .slice none 0 0, .slice none 0 0, .int .i64 0, .int .i64 0, .slice none 0 0, .int .i64 0] 40)).heap.size = w.heap.size + 1 by simp] at h
    rw [hW]
    exact ⟨0, false, h, Nat.zero_le _, .inl ⟨rfl, by rw [from_zero]⟩⟩
  have HK := hideIt (l09One_any s hs W _ _ C0)
  rw [hK] at HK
  dsimp only at HK
  have HB := hideIt bW
  have zW : W.heap.size = w.heap.size + 2 := by rw [hW]; simp
  clear bW C0
  go_enter Tryz.func10, Tryz.ntmps10
  go_upto_region 2 with fail
  rw [← hW]
  clear hW
  go_wp2_with (go_at_call 20; refine HK.out.mono ?_; rintro e u1 ⟨rfl, C1, g1⟩; refine Hid.out ?_)
  refine (show ∀ {p : Prop}, p → Hid p from fun h => h) ?_
  obtain ⟨V1, hV1⟩ : ∃ V1, V1 = u1.alloc (.cells #[.int .i64 2, .int .i64 0, .int .i64 0, .int .i64 0, .int .i64 0, .int .i64 0, .int .i64 0, .bool false, .slice none 0 0, .slice none 0 0, .int .i64 0, .int .i64 0, .slice none 0 0, .int .i64 0] 40) := ⟨_, rfl⟩
  have b1 : Below u1.heap.size u1 V1 := by rw [hV1]; exact (Below.refl _ _).alloc (Nat.le_refl _) _
  have B1 : BxQ V1 u1.heap.size 40 #[.int .i64 2, .int .i64 0, .int .i64 0, .int .i64 0, .int .i64 0, .int .i64 0, .int .i64 0, .bool false, .slice none 0 0, .slice none 0 0, .int .i64 0, .int .i64 0, .slice none 0 0, .int .i64 0] := by rw [hV1]; exact BxQ.new _ _ _
  have Y1 := (HX0.out.gr g1 (by simp)).gr (gr_below b1 none) (by simp)
  have S1 := C1.below b1
  have HG1 : Hid (Below w.heap.size w V1) := (bel_grown HB.out g1 (by omega)).trans (b1.mono (by have := g1.size; omega))
  have lR : w.heap.size + 1 < u1.heap.size := by have := g1.size; omega
  clear HK HX0 HB C1 g1 b1 zW
  go_upto_region 3 with fail
  rw [← hV1]
  clear hV1
  generalize u1.heap.size = bR at *
  have q0 := B1.at 0 rfl
  have HV := hideIt (l09Var_any s hs V1 _ _ S1)
  have HBk := hideIt B1
  have HYk := hideIt Y1
  clear S1 B1 Y1
  go_wp2_with (go_at_call 21; refine HV.out.mono ?_; rintro e u2 ⟨rfl, C2, g2⟩; refine Hid.out ?_)
  refine (show ∀ {p : Prop}, p → Hid p from fun h => h) ?_
  have lb2 := HBk.out.lt
  have Bq := HBk.out.gr g2 (by simp; omega)
  have Yq := HYk.out.gr g2 (by simp)
  have HGq : Hid (Below w.heap.size w u2) := bel_grown HG1.out g2 (by omega)
  clear g2 HBk HYk HV
  obtain ⟨i, hi⟩ : ∃ i : Nat, i = (nx pN (some (from_ s 1))).1 := ⟨_, rfl⟩
  obtain ⟨t2, ht2⟩ : ∃ t2, t2 = (nx pN (some (from_ s 1))).2 := ⟨_, rfl⟩
  rw [← hi]
  rw [← ht2] at C2
  have Hi := hideIt hi
  have Ht2 := hideIt ht2
  clear hi ht2
  have xq := Bq.at 5 rfl
  have zq := Bq.frozen 5
  obtain ⟨V2, hV2⟩ : ∃ V2, V2 = u2.setCell ⟨bR, 5, none⟩ (.int .i64 (i : Int)) := ⟨_, rfl⟩
  have B2 : BxQ V2 bR 40 #[.int .i64 2, .int .i64 0, .int .i64 0, .int .i64 0, .int .i64 0, .int .i64 (i : Int), .int .i64 0, .bool false, .slice none 0 0, .slice none 0 0, .int .i64 0, .int .i64 0, .slice none 0 0, .int .i64 0] := by rw [hV2]; exact Bq.set 5 _
  have Y2 : BxQ V2 w.heap.size 40 #[.int .i64 0, .int .i64 0, .int .i64 0, .int .i64 0, .int .i64 0, .int .i64 0, .int .i64 0, .bool false, .slice none 0 0, .slice none 0 0, .int .i64 0, .int .i64 0, .slice none 0 0, .int .i64 0] := by rw [hV2]; exact Yq.setO _ (by omega)
  have S2 : RdAt False 55 V2 (w.heap.size + 1) s t2 := by rw [hV2]; exact C2.row (gr_set _ _ _ _) (by simp; omega)
  have HG2_ : Hid (Below w.heap.size w V2) := by show Below _ _ _; rw [hV2]; exact bel_grown HGq.out (gr_set _ _ _ _) (by omega)
  clear Bq Yq C2 HGq
  go_upto_region 11 with fail
  rw [← hV2]
  clear hV2 xq zq
  have HV := hideIt (l09Var_any s hs V2 _ _ S2)
  have HBk := hideIt B2
  have HYk := hideIt Y2
  clear S2 B2 Y2
  go_wp2_with (go_at_call 21; refine HV.out.mono ?_; rintro e u3 ⟨rfl, C3, g3⟩; refine Hid.out ?_)
  refine (show ∀ {p : Prop}, p → Hid p from fun h => h) ?_
  have lb3 := HBk.out.lt
  have Bq := HBk.out.gr g3 (by simp; omega)
  have Yq := HYk.out.gr g3 (by simp)
  have HGq : Hid (Below w.heap.size w u3) := bel_grown HG2_.out g3 (by omega)
  clear g3 HBk HYk HV
  have hmb := nx_pN_le t2
  obtain ⟨m, hm⟩ : ∃ m : Nat, m = (nx pN t2).1 := ⟨_, rfl⟩
  obtain ⟨t3, ht3⟩ : ∃ t3, t3 = (nx pN t2).2 := ⟨_, rfl⟩
  rw [← hm] at hmb ⊢
  rw [← ht3] at C3
  have Hm := hideIt hm
  have Ht3 := hideIt ht3
  clear hm ht3
  have HV := hideIt (l09TakeM m hmb s hs u3 _ _ C3)
  have HBk := hideIt Bq
  have HYk := hideIt Yq
  clear C3 Bq Yq
  go_wp2_with (go_at_call 23; refine HV.out.mono ?_; rintro e u4 ⟨TT, rfl, hTT, C4, g4⟩; refine Hid.out ?_)
  refine (show ∀ {p : Prop}, p → Hid p from fun h => h) ?_
  have Bq := HBk.out.gr g4 (by simp; omega)
  have Yq := HYk.out.gr g4 (by simp)
  have HGr : Hid (Below w.heap.size w u4) := bel_grown HGq.out g4 (by omega)
  have lb4 := Bq.lt
  clear g4 HBk HYk HV HGq
  have HV := hideIt (sReadAnswer_any n TT hTT.2 u4)
  have HTT := hideIt hTT
  have HBk := hideIt Bq
  have HYk := hideIt Yq
  have HC4 := hideIt C4
  clear C4 Bq Yq hTT
  go_wp2_with (go_at_call 22; refine HV.out.mono ?_; rintro e u5 ⟨ra, hra, a, k9, c, a2, k2, c2, rfl, R1, R2, l1, l2, g5⟩; refine Hid.out ?_)
  refine (show ∀ {p : Prop}, p → Hid p from fun h => h) ?_
  have Bq := HBk.out.gr (gr_below g5 none) (by simp)
  have Yq := HYk.out.gr (gr_below g5 none) (by simp)
  have C5 := HC4.out.below g5
  have HGs : Hid (Below w.heap.size w u5) := HGr.out.trans (g5.mono HGr.out.size)
  have HR1 := hideIt R1
  have HR2 := hideIt R2
  have Hra := hideIt hra
  clear g5 HBk HYk HV HC4 HGr R1 hra R2
  have x0 := Bq.at 6 rfl
  have x1 := Bq.at 7 rfl
  have x2 := Bq.at 8 rfl
  have x3 := Bq.at 9 rfl
  have z0 := Bq.frozen 6
  have z1 := Bq.frozen 7
  have z2 := Bq.frozen 8
  have z3 := Bq.frozen 9
  obtain ⟨V3, hV3⟩ : ∃ V3, V3 = ((((u5.setCell ⟨bR, 6, none⟩ (.int .i64 (orA ra).num)).setCell ⟨bR, 7, none⟩ (.bool (orA ra).ok)).setCell ⟨bR, 8, none⟩ (.slice a k9 c)).setCell ⟨bR, 9, none⟩ (.slice a2 k2 c2)) := ⟨_, rfl⟩
  have e3 : V3 = setQ u5 bR 6 [.int .i64 (orA ra).num, .bool (orA ra).ok, .slice a k9 c, .slice a2 k2 c2] := hV3
  have B3 : BxQ V3 bR 40 #[.int .i64 2, .int .i64 0, .int .i64 0, .int .i64 0, .int .i64 0, .int .i64 (i : Int), .int .i64 (orA ra).num, .bool (orA ra).ok, .slice a k9 c, .slice a2 k2 c2, .int .i64 0, .int .i64 0, .slice none 0 0, .int .i64 0] := by rw [e3]; exact Bq.setQ 6 [.int .i64 (orA ra).num, .bool (orA ra).ok, .slice a k9 c, .slice a2 k2 c2]
  have Y3 : BxQ V3 w.heap.size 40 #[.int .i64 0, .int .i64 0, .int .i64 0, .int .i64 0, .int .i64 0, .int .i64 0, .int .i64 0, .bool false, .slice none 0 0, .slice none 0 0, .int .i64 0, .int .i64 0, .slice none 0 0, .int .i64 0] := by rw [e3]; exact Yq.setQO 6 _ (by omega)
  have S3 : RdAt False 55 V3 (w.heap.size + 1) s (tkS m t3).2 := by rw [e3]; exact C5.row (gr_setQ 6 _) (by simp; omega)
  have HG3 : Hid (Below w.heap.size w V3) := by show Below _ _ _; rw [e3]; exact bel_grown HGs.out (gr_setQ 6 _) (by omega)
  have HW1 : Hid (V3.ownsRow (w.heap.size + 1) 79 2 (.slice a k9 c) k9 (ecells (orA ra).es)) := by show World.ownsRow _ _ _ _ _ _ _; rw [e3]; exact own_mono (own_kQ HR1.out Bq (by decide) 6 _) (by omega)
  have HW2 : Hid (V3.ownsRow (w.heap.size + 1) 3 1 (.slice a2 k2 c2) k2 (ic (orA ra).ls)) := by show World.ownsRow _ _ _ _ _ _ _; rw [e3]; exact own_mono (own_kQ HR2.out Bq (by decide) 6 _) (by omega)
  clear e3 Bq Yq C5 HGs HR1 HR2
  go_upto_region 14 with fail
  rw [← hV3]
  clear hV3 x0 x1 x2 x3 z0 z1 z2 z3
  have HSP : Hid (Sp n s.data.toList ⟨2, 0, 0, 0, 0, (i : Int), ⟨(orA ra).num, (orA ra).ok, (orA ra).es, (orA ra).ls⟩, ⟨0, 0, [], 0⟩⟩ (tkS m t3).2) := by
    have h := Hra.out
    rw [HTT.out.1] at h
    show Sp _ _ _ _
    rw [Hm.out, Ht3.out, Ht2.out] at h ⊢
    rw [hL, Hi.out]
    exact sp2 h
  have HG0 := hideIt HG3.out
  have HRT := hideIt (sRecText_any n 2 0 0 0 0 (i : Int) (orA ra).num (orA ra).ok (orA ra).es (orA ra).ls 0 0 [] 0 a k9 c a2 k2 c2 none 0 0 V3 (Es_of_own HW1.out) (Is_of_own HW2.out) ⟨rfl, .inl rfl⟩ (by omega) (by omega) (by omega))
  have m0 := B3.at 0 rfl
  have m1 := B3.at 1 rfl
  have m2 := B3.at 2 rfl
  have m3 := B3.at 3 rfl
  have m4 := B3.at 4 rfl
  have m5 := B3.at 5 rfl
  have m6 := B3.at 6 rfl
  have m7 := B3.at 7 rfl
  have m8 := B3.at 8 rfl
  have m9 := B3.at 9 rfl
  have m10 := B3.at 10 rfl
  have m11 := B3.at 11 rfl
  have m12 := B3.at 12 rfl
  have m13 := B3.at 13 rfl
  have hfl := S3.fl
  have HSt := hideIt S3
  have HBx := hideIt B3
  have HYx := hideIt Y3
  have HSp := hideIt (HSP.out)
  obtain ⟨R, hR⟩ : ∃ R : RecV, R = ⟨2, 0, 0, 0, 0, (i : Int), ⟨(orA ra).num, (orA ra).ok, (orA ra).es, (orA ra).ls⟩, ⟨0, 0, [], 0⟩⟩ := ⟨_, rfl⟩
  rw [← hR] at HRT HSp
  have hRf := hideIt hR
  clear hR
  clear B3 Y3 S3
  have HSt2 : Hid (Option (List UInt8) → True) := fun _ => trivial
  obtain ⟨st', hst'⟩ : ∃ st', st' = (tkS m t3).2 := ⟨_, rfl⟩
  rw [← hst'] at HSp HSt hfl
  clear HSt2 hst'
  by_cases hR : RecB n R
  · rw [rtV_yes hR] at HRT
    go_wp2_with (go_at_call 25; refine HRT.out.mono ?_; rintro e u9 ⟨rfl, g9⟩; refine Hid.out ?_)
    refine (show ∀ {p : Prop}, p → Hid p from fun h => h) ?_
    have Y9 := HYx.out.gr (gr_below g9 none) (by simp)
    have B9 := HBx.out.gr (gr_below g9 none) (by simp)
    have S9 := HSt.out.below g9
    have HG9 : Hid (Below w.heap.size w u9) := HG0.out.trans (g9.mono HG0.out.size)
    have fl := S9.fl
    clear HRT hfl m0 m1 m2 m3 m4 m5 m6 m7 m8 m9 m10 m11 m12 m13
    cases st' with
    | none =>
      have HI : Hid (IsR n s.data.toList none) := HSp.out.none_bad (.inl rfl)
      have y0 := Y9.at 0 rfl
      have y1 := Y9.at 1 rfl
      have y2 := Y9.at 2 rfl
      have y3 := Y9.at 3 rfl
      have y4 := Y9.at 4 rfl
      have y5 := Y9.at 5 rfl
      have y6 := Y9.at 6 rfl
      have y7 := Y9.at 7 rfl
      have y8 := Y9.at 8 rfl
      have y9 := Y9.at 9 rfl
      have y10 := Y9.at 10 rfl
      have y11 := Y9.at 11 rfl
      have y12 := Y9.at 12 rfl
      have y13 := Y9.at 13 rfl
      have f0 := Y9.frozen 0
      have f1 := Y9.frozen 1
      have f2 := Y9.frozen 2
      have f3 := Y9.frozen 3
      have f4 := Y9.frozen 4
      have f5 := Y9.frozen 5
      have f6 := Y9.frozen 6
      have f7 := Y9.frozen 7
      have f8 := Y9.frozen 8
      have f9 := Y9.frozen 9
      have f10 := Y9.frozen 10
      have f11 := Y9.frozen 11
      have f12 := Y9.frozen 12
      have f13 := Y9.frozen 13
      obtain ⟨V, hV⟩ : ∃ V, V = ((((((((((((((u9.setCell ⟨w.heap.size, 0, none⟩ (.int .i64 0)).setCell ⟨w.heap.size, 1, none⟩ (.int .i64 0)).setCell ⟨w.heap.size, 2, none⟩ (.int .i64 0)).setCell ⟨w.heap.size, 3, none⟩ (.int .i64 0)).setCell ⟨w.heap.size, 4, none⟩ (.int .i64 0)).setCell ⟨w.heap.size, 5, none⟩ (.int .i64 0)).setCell ⟨w.heap.size, 6, none⟩ (.int .i64 0)).setCell ⟨w.heap.size, 7, none⟩ (.bool false)).setCell ⟨w.heap.size, 8, none⟩ (.slice none 0 0)).setCell ⟨w.heap.size, 9, none⟩ (.slice none 0 0)).setCell ⟨w.heap.size, 10, none⟩ (.int .i64 0)).setCell ⟨w.heap.size, 11, none⟩ (.int .i64 0)).setCell ⟨w.heap.size, 12, none⟩ (.slice none 0 0)).setCell ⟨w.heap.size, 13, none⟩ (.int .i64 0)) := ⟨_, rfl⟩
      have eV : V = setQ u9 w.heap.size 0 [.int .i64 0, .int .i64 0, .int .i64 0, .int .i64 0, .int .i64 0, .int .i64 0, .int .i64 0, .bool false, .slice none 0 0, .slice none 0 0, .int .i64 0, .int .i64 0, .slice none 0 0, .int .i64 0] := hV
      have BR : BxQ V w.heap.size 40 #[.int .i64 0, .int .i64 0, .int .i64 0, .int .i64 0, .int .i64 0, .int .i64 0, .int .i64 0, .bool false, .slice none 0 0, .slice none 0 0, .int .i64 0, .int .i64 0, .slice none 0 0, .int .i64 0] := by rw [eV]; exact Y9.setQ 0 [.int .i64 0, .int .i64 0, .int .i64 0, .int .i64 0, .int .i64 0, .int .i64 0, .int .i64 0, .bool false, .slice none 0 0, .slice none 0 0, .int .i64 0, .int .i64 0, .slice none 0 0, .int .i64 0]
      have HG2 : Hid (Below w.heap.size w V) := by show Below _ _ _; rw [eV]; exact bel_grown HG9.out (gr_setQ 0 _) (Nat.le_refl _)
      have r0 := BR.at 0 rfl
      have r1 := BR.at 1 rfl
      have r2 := BR.at 2 rfl
      have r3 := BR.at 3 rfl
      have r4 := BR.at 4 rfl
      have r5 := BR.at 5 rfl
      have r6 := BR.at 6 rfl
      have r7 := BR.at 7 rfl
      have r8 := BR.at 8 rfl
      have r9 := BR.at 9 rfl
      have r10 := BR.at 10 rfl
      have r11 := BR.at 11 rfl
      have r12 := BR.at 12 rfl
      have r13 := BR.at 13 rfl
      clear eV BR Y9 B9 S9
      go_wp2
      rw [← hV]
      clear hV
      exact bodyPost_ret (v := .tuple #[.agg #[.int .i64 0, .int .i64 0, .int .i64 0, .int .i64 0, .int .i64 0, .int .i64 0, .int .i64 0, .bool false, .slice none 0 0, .slice none 0 0, .int .i64 0, .int .i64 0, .slice none 0 0, .int .i64 0], .bool false]) (by simp [results, Tryz.results10, go_sem, r0, r1, r2, r3, r4, r5, r6, r7, r8, r9, r10, r11, r12, r13]) rfl ⟨none, HI.out, ⟨none, 0, 0, none, 0, 0, none, 0, 0, rfl, ⟨nilR _ _ _ _, nilR _ _ _ _, nilR _ _ _ _⟩, ⟨by omega, by omega, by omega⟩, .inl ⟨rfl, rfl⟩⟩, HG2.out⟩
    | some M =>
      by_cases hT : rText R = s.data.toList
      · rw [str_eq hT]
        have dT : (s.toList == s.toList) = true := by simp
        have HI : Hid (IsR n s.data.toList (some R)) := ⟨hR, hT⟩
        have y0 := Y9.at 0 rfl
        have y1 := Y9.at 1 rfl
        have y2 := Y9.at 2 rfl
        have y3 := Y9.at 3 rfl
        have y4 := Y9.at 4 rfl
        have y5 := Y9.at 5 rfl
        have y6 := Y9.at 6 rfl
        have y7 := Y9.at 7 rfl
        have y8 := Y9.at 8 rfl
        have y9 := Y9.at 9 rfl
        have y10 := Y9.at 10 rfl
        have y11 := Y9.at 11 rfl
        have y12 := Y9.at 12 rfl
        have y13 := Y9.at 13 rfl
        have f0 := Y9.frozen 0
        have f1 := Y9.frozen 1
        have f2 := Y9.frozen 2
        have f3 := Y9.frozen 3
        have f4 := Y9.frozen 4
        have f5 := Y9.frozen 5
        have f6 := Y9.frozen 6
        have f7 := Y9.frozen 7
        have f8 := Y9.frozen 8
        have f9 := Y9.frozen 9
        have f10 := Y9.frozen 10
        have f11 := Y9.frozen 11
        have f12 := Y9.frozen 12
        have f13 := Y9.frozen 13
        have b0 := B9.at 0 rfl
        have b1 := B9.at 1 rfl
        have b2 := B9.at 2 rfl
        have b3 := B9.at 3 rfl
        have b4 := B9.at 4 rfl
        have b5 := B9.at 5 rfl
        have b6 := B9.at 6 rfl
        have b7 := B9.at 7 rfl
        have b8 := B9.at 8 rfl
        have b9 := B9.at 9 rfl
        have b10 := B9.at 10 rfl
        have b11 := B9.at 11 rfl
        have b12 := B9.at 12 rfl
        have b13 := B9.at 13 rfl
        obtain ⟨V, hV⟩ : ∃ V, V = ((((((((((((((u9.setCell ⟨w.heap.size, 0, none⟩ (.int .i64 2)).setCell ⟨w.heap.size, 1, none⟩ (.int .i64 0)).setCell ⟨w.heap.size, 2, none⟩ (.int .i64 0)).setCell ⟨w.heap.size, 3, none⟩ (.int .i64 0)).setCell ⟨w.heap.size, 4, none⟩ (.int .i64 0)).setCell ⟨w.heap.size, 5, none⟩ (.int .i64 (i : Int))).setCell ⟨w.heap.size, 6, none⟩ (.int .i64 (orA ra).num)).setCell ⟨w.heap.size, 7, none⟩ (.bool (orA ra).ok)).setCell ⟨w.heap.size, 8, none⟩ (.slice a k9 c)).setCell ⟨w.heap.size, 9, none⟩ (.slice a2 k2 c2)).setCell ⟨w.heap.size, 10, none⟩ (.int .i64 0)).setCell ⟨w.heap.size, 11, none⟩ (.int .i64 0)).setCell ⟨w.heap.size, 12, none⟩ (.slice none 0 0)).setCell ⟨w.heap.size, 13, none⟩ (.int .i64 0)) := ⟨_, rfl⟩
        have eV : V = setQ u9 w.heap.size 0 [.int .i64 2, .int .i64 0, .int .i64 0, .int .i64 0, .int .i64 0, .int .i64 (i : Int), .int .i64 (orA ra).num, .bool (orA ra).ok, .slice a k9 c, .slice a2 k2 c2, .int .i64 0, .int .i64 0, .slice none 0 0, .int .i64 0] := hV
        have BR : BxQ V w.heap.size 40 #[.int .i64 2, .int .i64 0, .int .i64 0, .int .i64 0, .int .i64 0, .int .i64 (i : Int), .int .i64 (orA ra).num, .bool (orA ra).ok, .slice a k9 c, .slice a2 k2 c2, .int .i64 0, .int .i64 0, .slice none 0 0, .int .i64 0] := by rw [eV]; exact Y9.setQ 0 [.int .i64 2, .int .i64 0, .int .i64 0, .int .i64 0, .int .i64 0, .int .i64 (i : Int), .int .i64 (orA ra).num, .bool (orA ra).ok, .slice a k9 c, .slice a2 k2 c2, .int .i64 0, .int .i64 0, .slice none 0 0, .int .i64 0]
        have HG2 : Hid (Below w.heap.size w V) := by show Below _ _ _; rw [eV]; exact bel_grown HG9.out (gr_setQ 0 _) (Nat.le_refl _)
        have HW19 : V.ownsRow (w.heap.size + 1) 79 2 (.slice a k9 c) k9 (ecells (orA ra).es) ∧ V.ownsRow (w.heap.size + 1) 3 1 (.slice a2 k2 c2) k2 (ic (orA ra).ls) := by rw [eV]; exact ⟨own_kQ (own_up10 HW1.out g9) Y9 (by decide) 0 _, own_kQ (own_up10 HW2.out g9) Y9 (by decide) 0 _⟩
        have HRV : Hid (RcR V w.heap.size ⟨2, 0, 0, 0, 0, (i : Int), ⟨(orA ra).num, (orA ra).ok, (orA ra).es, (orA ra).ls⟩, ⟨0, 0, [], 0⟩⟩ a k9 c a2 k2 c2 none 0 0) := ⟨⟨own_mono HW19.1 (by omega), own_mono HW19.2 (by omega), nilR _ _ _ _⟩, ⟨l1, l2, by omega⟩, .inr ⟨rfl, rfl⟩⟩
        have r0 := BR.at 0 rfl
        have r1 := BR.at 1 rfl
        have r2 := BR.at 2 rfl
        have r3 := BR.at 3 rfl
        have r4 := BR.at 4 rfl
        have r5 := BR.at 5 rfl
        have r6 := BR.at 6 rfl
        have r7 := BR.at 7 rfl
        have r8 := BR.at 8 rfl
        have r9 := BR.at 9 rfl
        have r10 := BR.at 10 rfl
        have r11 := BR.at 11 rfl
        have r12 := BR.at 12 rfl
        have r13 := BR.at 13 rfl
        clear eV BR Y9 B9 S9
        go_wp2
        rw [← hV]
        clear hV
        exact bodyPost_ret (v := .tuple #[.agg #[.int .i64 2, .int .i64 0, .int .i64 0, .int .i64 0, .int .i64 0, .int .i64 (i : Int), .int .i64 (orA ra).num, .bool (orA ra).ok, .slice a k9 c, .slice a2 k2 c2, .int .i64 0, .int .i64 0, .slice none 0 0, .int .i64 0], .bool true]) (by simp [results, Tryz.results10, go_sem, r0, r1, r2, r3, r4, r5, r6, r7, r8, r9, r10, r11, r12, r13]) rfl ⟨some R, HI.out, ⟨a, k9, c, a2, k2, c2, none, 0, 0, by rw [hRf.out]; rfl, by rw [hRf.out]; exact HRV.out⟩, HG2.out⟩
      · have dT := str_neq hT
        have HI : Hid (IsR n s.data.toList none) := HSp.out.none_bad (.inr (.inr hT))
        have y0 := Y9.at 0 rfl
        have y1 := Y9.at 1 rfl
        have y2 := Y9.at 2 rfl
        have y3 := Y9.at 3 rfl
        have y4 := Y9.at 4 rfl
        have y5 := Y9.at 5 rfl
        have y6 := Y9.at 6 rfl
        have y7 := Y9.at 7 rfl
        have y8 := Y9.at 8 rfl
        have y9 := Y9.at 9 rfl
        have y10 := Y9.at 10 rfl
        have y11 := Y9.at 11 rfl
        have y12 := Y9.at 12 rfl
        have y13 := Y9.at 13 rfl
        have f0 := Y9.frozen 0
        have f1 := Y9.frozen 1
        have f2 := Y9.frozen 2
        have f3 := Y9.frozen 3
        have f4 := Y9.frozen 4
        have f5 := Y9.frozen 5
        have f6 := Y9.frozen 6
        have f7 := Y9.frozen 7
        have f8 := Y9.frozen 8
        have f9 := Y9.frozen 9
        have f10 := Y9.frozen 10
        have f11 := Y9.frozen 11
        have f12 := Y9.frozen 12
        have f13 := Y9.frozen 13
        obtain ⟨V, hV⟩ : ∃ V, V = ((((((((((((((u9.setCell ⟨w.heap.size, 0, none⟩ (.int .i64 0)).setCell ⟨w.heap.size, 1, none⟩ (.int .i64 0)).setCell ⟨w.heap.size, 2, none⟩ (.int .i64 0)).setCell ⟨w.heap.size, 3, none⟩ (.int .i64 0)).setCell ⟨w.heap.size, 4, none⟩ (.int .i64 0)).setCell ⟨w.heap.size, 5, none⟩ (.int .i64 0)).setCell ⟨w.heap.size, 6, none⟩ (.int .i64 0)).setCell ⟨w.heap.size, 7, none⟩ (.bool false)).setCell ⟨w.heap.size, 8, none⟩ (.slice none 0 0)).setCell ⟨w.heap.size, 9, none⟩ (.slice none 0 0)).setCell ⟨w.heap.size, 10, none⟩ (.int .i64 0)).setCell ⟨w.heap.size, 11, none⟩ (.int .i64 0)).setCell ⟨w.heap.size, 12, none⟩ (.slice none 0 0)).setCell ⟨w.heap.size, 13, none⟩ (.int .i64 0)) := ⟨_, rfl⟩
        have eV : V = setQ u9 w.heap.size 0 [.int .i64 0, .int .i64 0, .int .i64 0, .int .i64 0, .int .i64 0, .int .i64 0, .int .i64 0, .bool false, .slice none 0 0, .slice none 0 0, .int .i64 0, .int .i64 0, .slice none 0 0, .int .i64 0] := hV
        have BR : BxQ V w.heap.size 40 #[.int .i64 0, .int .i64 0, .int .i64 0, .int .i64 0, .int .i64 0, .int .i64 0, .int .i64 0, .bool false, .slice none 0 0, .slice none 0 0, .int .i64 0, .int .i64 0, .slice none 0 0, .int .i64 0] := by rw [eV]; exact Y9.setQ 0 [.int .i64 0, .int .i64 0, .int .i64 0, .int .i64 0, .int .i64 0, .int .i64 0, .int .i64 0, .bool false, .slice none 0 0, .slice none 0 0, .int .i64 0, .int .i64 0, .slice none 0 0, .int .i64 0]
        have HG2 : Hid (Below w.heap.size w V) := by show Below _ _ _; rw [eV]; exact bel_grown HG9.out (gr_setQ 0 _) (Nat.le_refl _)
        have r0 := BR.at 0 rfl
        have r1 := BR.at 1 rfl
        have r2 := BR.at 2 rfl
        have r3 := BR.at 3 rfl
        have r4 := BR.at 4 rfl
        have r5 := BR.at 5 rfl
        have r6 := BR.at 6 rfl
        have r7 := BR.at 7 rfl
        have r8 := BR.at 8 rfl
        have r9 := BR.at 9 rfl
        have r10 := BR.at 10 rfl
        have r11 := BR.at 11 rfl
        have r12 := BR.at 12 rfl
        have r13 := BR.at 13 rfl
        clear eV BR Y9 B9 S9
        go_wp2
        rw [← hV]
        clear hV
        exact bodyPost_ret (v := .tuple #[.agg #[.int .i64 0, .int .i64 0, .int .i64 0, .int .i64 0, .int .i64 0, .int .i64 0, .int .i64 0, .bool false, .slice none 0 0, .slice none 0 0, .int .i64 0, .int .i64 0, .slice none 0 0, .int .i64 0], .bool false]) (by simp [results, Tryz.results10, go_sem, r0, r1, r2, r3, r4, r5, r6, r7, r8, r9, r10, r11, r12, r13]) rfl ⟨none, HI.out, ⟨none, 0, 0, none, 0, 0, none, 0, 0, rfl, ⟨nilR _ _ _ _, nilR _ _ _ _, nilR _ _ _ _⟩, ⟨by omega, by omega, by omega⟩, .inl ⟨rfl, rfl⟩⟩, HG2.out⟩
  · rw [rtV_no hR] at HRT
    go_wp2_with (go_at_call 25; refine HRT.out.mono ?_; rintro e u9 ⟨rfl, g9⟩; refine Hid.out ?_)
    refine (show ∀ {p : Prop}, p → Hid p from fun h => h) ?_
    have Y9 := HYx.out.gr (gr_below g9 none) (by simp)
    have B9 := HBx.out.gr (gr_below g9 none) (by simp)
    have S9 := HSt.out.below g9
    have HG9 : Hid (Below w.heap.size w u9) := HG0.out.trans (g9.mono HG0.out.size)
    have fl := S9.fl
    clear HRT hfl m0 m1 m2 m3 m4 m5 m6 m7 m8 m9 m10 m11 m12 m13
    cases st' with
    | none =>
      have HI : Hid (IsR n s.data.toList none) := HSp.out.none_bad (.inl rfl)
      have y0 := Y9.at 0 rfl
      have y1 := Y9.at 1 rfl
      have y2 := Y9.at 2 rfl
      have y3 := Y9.at 3 rfl
      have y4 := Y9.at 4 rfl
      have y5 := Y9.at 5 rfl
      have y6 := Y9.at 6 rfl
      have y7 := Y9.at 7 rfl
      have y8 := Y9.at 8 rfl
      have y9 := Y9.at 9 rfl
      have y10 := Y9.at 10 rfl
      have y11 := Y9.at 11 rfl
      have y12 := Y9.at 12 rfl
      have y13 := Y9.at 13 rfl
      have f0 := Y9.frozen 0
      have f1 := Y9.frozen 1
      have f2 := Y9.frozen 2
      have f3 := Y9.frozen 3
      have f4 := Y9.frozen 4
      have f5 := Y9.frozen 5
      have f6 := Y9.frozen 6
      have f7 := Y9.frozen 7
      have f8 := Y9.frozen 8
      have f9 := Y9.frozen 9
      have f10 := Y9.frozen 10
      have f11 := Y9.frozen 11
      have f12 := Y9.frozen 12
      have f13 := Y9.frozen 13
      obtain ⟨V, hV⟩ : ∃ V, V = ((((((((((((((u9.setCell ⟨w.heap.size, 0, none⟩ (.int .i64 0)).setCell ⟨w.heap.size, 1, none⟩ (.int .i64 0)).setCell ⟨w.heap.size, 2, none⟩ (.int .i64 0)).setCell ⟨w.heap.size, 3, none⟩ (.int .i64 0)).setCell ⟨w.heap.size, 4, none⟩ (.int .i64 0)).setCell ⟨w.heap.size, 5, none⟩ (.int .i64 0)).setCell ⟨w.heap.size, 6, none⟩ (.int .i64 0)).setCell ⟨w.heap.size, 7, none⟩ (.bool false)).setCell ⟨w.heap.size, 8, none⟩ (.slice none 0 0)).setCell ⟨w.heap.size, 9, none⟩ (.slice none 0 0)).setCell ⟨w.heap.size, 10, none⟩ (.int .i64 0)).setCell ⟨w.heap.size, 11, none⟩ (.int .i64 0)).setCell ⟨w.heap.size, 12, none⟩ (.slice none 0 0)).setCell ⟨w.heap.size, 13, none⟩ (.int .i64 0)) := ⟨_, rfl⟩
      have eV : V = setQ u9 w.heap.size 0 [.int .i64 0, .int .i64 0, .int .i64 0, .int .i64 0, .int .i64 0, .int .i64 0, .int .i64 0, .bool false, .slice none 0 0, .slice none 0 0, .int .i64 0, .int .i64 0, .slice none 0 0, .int .i64 0] := hV
      have BR : BxQ V w.heap.size 40 #[.int .i64 0, .int .i64 0, .int .i64 0, .int .i64 0, .int .i64 0, .int .i64 0, .int .i64 0, .bool false, .slice none 0 0, .slice none 0 0, .int .i64 0, .int .i64 0, .slice none 0 0, .int .i64 0] := by rw [eV]; exact Y9.setQ 0 [.int .i64 0, .int .i64 0, .int .i64 0, .int .i64 0, .int .i64 0, .int .i64 0, .int .i64 0, .bool false, .slice none 0 0, .slice none 0 0, .int .i64 0, .int .i64 0, .slice none 0 0, .int .i64 0]
      have HG2 : Hid (Below w.heap.size w V) := by show Below _ _ _; rw [eV]; exact bel_grown HG9.out (gr_setQ 0 _) (Nat.le_refl _)
      have r0 := BR.at 0 rfl
      have r1 := BR.at 1 rfl
      have r2 := BR.at 2 rfl
      have r3 := BR.at 3 rfl
      have r4 := BR.at 4 rfl
      have r5 := BR.at 5 rfl
      have r6 := BR.at 6 rfl
      have r7 := BR.at 7 rfl
      have r8 := BR.at 8 rfl
      have r9 := BR.at 9 rfl
      have r10 := BR.at 10 rfl
      have r11 := BR.at 11 rfl
      have r12 := BR.at 12 rfl
      have r13 := BR.at 13 rfl
      clear eV BR Y9 B9 S9
      go_wp2
      rw [← hV]
      clear hV
      exact bodyPost_ret (v := .tuple #[.agg #[.int .i64 0, .int .i64 0, .int .i64 0, .int .i64 0, .int .i64 0, .int .i64 0, .int .i64 0, .bool false, .slice none 0 0, .slice none 0 0, .int .i64 0, .int .i64 0, .slice none 0 0, .int .i64 0], .bool false]) (by simp [results, Tryz.results10, go_sem, r0, r1, r2, r3, r4, r5, r6, r7, r8, r9, r10, r11, r12, r13]) rfl ⟨none, HI.out, ⟨none, 0, 0, none, 0, 0, none, 0, 0, rfl, ⟨nilR _ _ _ _, nilR _ _ _ _, nilR _ _ _ _⟩, ⟨by omega, by omega, by omega⟩, .inl ⟨rfl, rfl⟩⟩, HG2.out⟩
    | some M =>
      have HI : Hid (IsR n s.data.toList none) := HSp.out.none_bad (.inr (.inl hR))
      have y0 := Y9.at 0 rfl
      have y1 := Y9.at 1 rfl
      have y2 := Y9.at 2 rfl
      have y3 := Y9.at 3 rfl
      have y4 := Y9.at 4 rfl
      have y5 := Y9.at 5 rfl
      have y6 := Y9.at 6 rfl
      have y7 := Y9.at 7 rfl
      have y8 := Y9.at 8 rfl
      have y9 := Y9.at 9 rfl
      have y10 := Y9.at 10 rfl
      have y11 := Y9.at 11 rfl
      have y12 := Y9.at 12 rfl
      have y13 := Y9.at 13 rfl
      have f0 := Y9.frozen 0
      have f1 := Y9.frozen 1
      have f2 := Y9.frozen 2
      have f3 := Y9.frozen 3
      have f4 := Y9.frozen 4
      have f5 := Y9.frozen 5
      have f6 := Y9.frozen 6
      have f7 := Y9.frozen 7
      have f8 := Y9.frozen 8
      have f9 := Y9.frozen 9
      have f10 := Y9.frozen 10
      have f11 := Y9.frozen 11
      have f12 := Y9.frozen 12
      have f13 := Y9.frozen 13
      obtain ⟨V, hV⟩ : ∃ V, V = ((((((((((((((u9.setCell ⟨w.heap.size, 0, none⟩ (.int .i64 0)).setCell ⟨w.heap.size, 1, none⟩ (.int .i64 0)).setCell ⟨w.heap.size, 2, none⟩ (.int .i64 0)).setCell ⟨w.heap.size, 3, none⟩ (.int .i64 0)).setCell ⟨w.heap.size, 4, none⟩ (.int .i64 0)).setCell ⟨w.heap.size, 5, none⟩ (.int .i64 0)).setCell ⟨w.heap.size, 6, none⟩ (.int .i64 0)).setCell ⟨w.heap.size, 7, none⟩ (.bool false)).setCell ⟨w.heap.size, 8, none⟩ (.slice none 0 0)).setCell ⟨w.heap.size, 9, none⟩ (.slice none 0 0)).setCell ⟨w.heap.size, 10, none⟩ (.int .i64 0)).setCell ⟨w.heap.size, 11, none⟩ (.int .i64 0)).setCell ⟨w.heap.size, 12, none⟩ (.slice none 0 0)).setCell ⟨w.heap.size, 13, none⟩ (.int .i64 0)) := ⟨_, rfl⟩
      have eV : V = setQ u9 w.heap.size 0 [.int .i64 0, .int .i64 0, .int .i64 0, .int .i64 0, .int .i64 0, .int .i64 0, .int .i64 0, .bool false, .slice none 0 0, .slice none 0 0, .int .i64 0, .int .i64 0, .slice none 0 0, .int .i64 0] := hV
      have BR : BxQ V w.heap.size 40 #[.int .i64 0, .int .i64 0, .int .i64 0, .int .i64 0, .int .i64 0, .int .i64 0, .int .i64 0, .bool false, .slice none 0 0, .slice none 0 0, .int .i64 0, .int .i64 0, .slice none 0 0, .int .i64 0] := by rw [eV]; exact Y9.setQ 0 [.int .i64 0, .int .i64 0, .int .i64 0, .int .i64 0, .int .i64 0, .int .i64 0, .int .i64 0, .bool false, .slice none 0 0, .slice none 0 0, .int .i64 0, .int .i64 0, .slice none 0 0, .int .i64 0]
      have HG2 : Hid (Below w.heap.size w V) := by show Below _ _ _; rw [eV]; exact bel_grown HG9.out (gr_setQ 0 _) (Nat.le_refl _)
      have r0 := BR.at 0 rfl
      have r1 := BR.at 1 rfl
      have r2 := BR.at 2 rfl
      have r3 := BR.at 3 rfl
      have r4 := BR.at 4 rfl
      have r5 := BR.at 5 rfl
      have r6 := BR.at 6 rfl
      have r7 := BR.at 7 rfl
      have r8 := BR.at 8 rfl
      have r9 := BR.at 9 rfl
      have r10 := BR.at 10 rfl
      have r11 := BR.at 11 rfl
      have r12 := BR.at 12 rfl
      have r13 := BR.at 13 rfl
      clear eV BR Y9 B9 S9
      go_wp2
      rw [← hV]
      clear hV
      exact bodyPost_ret (v := .tuple #[.agg #[.int .i64 0, .int .i64 0, .int .i64 0, .int .i64 0, .int .i64 0, .int .i64 0, .int .i64 0, .bool false, .slice none 0 0, .slice none 0 0, .int .i64 0, .int .i64 0, .slice none 0 0, .int .i64 0], .bool false]) (by simp [results, Tryz.results10, go_sem, r0, r1, r2, r3, r4, r5, r6, r7, r8, r9, r10, r11, r12, r13]) rfl ⟨none, HI.out, ⟨none, 0, 0, none, 0, 0, none, 0, 0, rfl, ⟨nilR _ _ _ _, nilR _ _ _ _, nilR _ _ _ _⟩, ⟨by omega, by omega, by omega⟩, .inl ⟨rfl, rfl⟩⟩, HG2.out⟩
set_option maxRecDepth 100000 in
set_option maxHeartbeats 8000000 in
theorem sread_three (n : Int) (s : ByteArray) (hs : s.size ≤ 1048576) (hL : s.data.toList = 3 :: from_ s 1) (hK : nx pO (some s.data.toList) = (3, some (from_ s 1))) (w : World) :
    Calls Tryz.prog 10 #[.int .i64 n, .string s] w fun e w' => ∃ r, IsR n s.data.toList r ∧ ReA w w' e r ∧ Below w.heap.size w w' := by
  obtain ⟨W, hW⟩ : ∃ W, W = (w.alloc (.cells #[.int .i64 0, .int .i64 0, .int .i64 0, .int .i64 0, .int .i64 0, .int .i64 0, .int .i64 0, .bool false, .slice none 0 0, .slice none 0 0, .int .i64 0, .int .i64 0, .slice none 0 0, .int .i64 0] 40)).alloc (.cells #[.string s, .int .i64 0, .bool false] 55) := ⟨_, rfl⟩
  have bW : Below w.heap.size w W := by rw [hW]; exact ((Below.refl _ _).alloc (Nat.le_refl _) _).alloc (by simp) _
  have HX0 : Hid (BxQ W w.heap.size 40 #[.int .i64 0, .int .i64 0, .int .i64 0, .int .i64 0, .int .i64 0, .int .i64 0, .int .i64 0, .bool false, .slice none 0 0, .slice none 0 0, .int .i64 0, .int .i64 0, .slice none 0 0, .int .i64 0]) := by show BxQ _ _ _ _; rw [hW]; exact (BxQ.new w _ _).gr (World.grownBy_alloc _ _ none) (by simp)
  have C0 : RdAt False 55 W (w.heap.size + 1) s (some s.data.toList) := by
    have h := BxQ.new (w.alloc (.cells #[.int .i64 0, .int .i64 0, .int .i64 0, .int .i64 0, .int .i64 0, .int .i64 0, .int .i64 0, .bool false, .slice none 0 0, .slice none 0 0, .int .i64 0, .int .i64 0, .slice none 0 0, .int .i64 0] 40)) 55 #[.string s, .int .i64 0, .bool false]
    rw [show (w.alloc (.cells #[.int .i64 0, .int .i64 0, .int .i64 0, .int .i64 0, .int .i64 0, .int .i64 0, .int .i64 0, .bool false, .slice none 0 0, .slice none 0 0, .int .i64 0, .int .i64 0, .slice none 0 0, .int .i64 0] 40)).heap.size = w.heap.size + 1 by simp] at h
    rw [hW]
    exact ⟨0, false, h, Nat.zero_le _, .inl ⟨rfl, by rw [from_zero]⟩⟩
  have HK := hideIt (l09One_any s hs W _ _ C0)
  rw [hK] at HK
  dsimp only at HK
  have HB := hideIt bW
  have zW : W.heap.size = w.heap.size + 2 := by rw [hW]; simp
  clear bW C0
  go_enter Tryz.func10, Tryz.ntmps10
  go_upto_region 2 with fail
  rw [← hW]
  clear hW
  go_wp2_with (go_at_call 20; refine HK.out.mono ?_; rintro e u1 ⟨rfl, C1, g1⟩; refine Hid.out ?_)
  refine (show ∀ {p : Prop}, p → Hid p from fun h => h) ?_
  obtain ⟨V1, hV1⟩ : ∃ V1, V1 = u1.alloc (.cells #[.int .i64 3, .int .i64 0, .int .i64 0, .int .i64 0, .int .i64 0, .int .i64 0, .int .i64 0, .bool false, .slice none 0 0, .slice none 0 0, .int .i64 0, .int .i64 0, .slice none 0 0, .int .i64 0] 40) := ⟨_, rfl⟩
  have b1 : Below u1.heap.size u1 V1 := by rw [hV1]; exact (Below.refl _ _).alloc (Nat.le_refl _) _
  have B1 : BxQ V1 u1.heap.size 40 #[.int .i64 3, .int .i64 0, .int .i64 0, .int .i64 0, .int .i64 0, .int .i64 0, .int .i64 0, .bool false, .slice none 0 0, .slice none 0 0, .int .i64 0, .int .i64 0, .slice none 0 0, .int .i64 0] := by rw [hV1]; exact BxQ.new _ _ _
  have Y1 := (HX0.out.gr g1 (by simp)).gr (gr_below b1 none) (by simp)
  have S1 := C1.below b1
  have HG1 : Hid (Below w.heap.size w V1) := (bel_grown HB.out g1 (by omega)).trans (b1.mono (by have := g1.size; omega))
  have lR : w.heap.size + 1 < u1.heap.size := by have := g1.size; omega
  clear HK HX0 HB C1 g1 b1 zW
  go_upto_region 3 with fail
  rw [← hV1]
  clear hV1
  generalize u1.heap.size = bR at *
  have q0 := B1.at 0 rfl
  have HV := hideIt (l09Var_any s hs V1 _ _ S1)
  have HBk := hideIt B1
  have HYk := hideIt Y1
  clear S1 B1 Y1
  go_wp2_with (go_at_call 21; refine HV.out.mono ?_; rintro e u3 ⟨rfl, C3, g3⟩; refine Hid.out ?_)
  refine (show ∀ {p : Prop}, p → Hid p from fun h => h) ?_
  have lb3 := HBk.out.lt
  have Bq := HBk.out.gr g3 (by simp; omega)
  have Yq := HYk.out.gr g3 (by simp)
  have HGq : Hid (Below w.heap.size w u3) := bel_grown HG1.out g3 (by omega)
  clear g3 HBk HYk HV
  have hmb := nx_pN_le (some (from_ s 1))
  obtain ⟨m, hm⟩ : ∃ m : Nat, m = (nx pN (some (from_ s 1))).1 := ⟨_, rfl⟩
  obtain ⟨t3, ht3⟩ : ∃ t3, t3 = (nx pN (some (from_ s 1))).2 := ⟨_, rfl⟩
  rw [← hm] at hmb ⊢
  rw [← ht3] at C3
  have Hm := hideIt hm
  have Ht3 := hideIt ht3
  clear hm ht3
  have HV := hideIt (l09TakeM m hmb s hs u3 _ _ C3)
  have HBk := hideIt Bq
  have HYk := hideIt Yq
  clear C3 Bq Yq
  go_wp2_with (go_at_call 23; refine HV.out.mono ?_; rintro e u4 ⟨TT, rfl, hTT, C4, g4⟩; refine Hid.out ?_)
  refine (show ∀ {p : Prop}, p → Hid p from fun h => h) ?_
  have Bq := HBk.out.gr g4 (by simp; omega)
  have Yq := HYk.out.gr g4 (by simp)
  have HGr : Hid (Below w.heap.size w u4) := bel_grown HGq.out g4 (by omega)
  have lb4 := Bq.lt
  clear g4 HBk HYk HV HGq
  have HV := hideIt (sReadOrder_any n TT hTT.2 u4)
  have HTT := hideIt hTT
  have HBk := hideIt Bq
  have HYk := hideIt Yq
  have HC4 := hideIt C4
  clear C4 Bq Yq hTT
  go_wp2_with (go_at_call 24; refine HV.out.mono ?_; rintro e u5 ⟨ra, hra, a, k9, c, rfl, R1, l1, g5⟩; refine Hid.out ?_)
  refine (show ∀ {p : Prop}, p → Hid p from fun h => h) ?_
  have Bq := HBk.out.gr (gr_below g5 none) (by simp)
  have Yq := HYk.out.gr (gr_below g5 none) (by simp)
  have C5 := HC4.out.below g5
  have HGs : Hid (Below w.heap.size w u5) := HGr.out.trans (g5.mono HGr.out.size)
  have HR1 := hideIt R1
  have Hra := hideIt hra
  clear g5 HBk HYk HV HC4 HGr R1 hra
  have x0 := Bq.at 10 rfl
  have x1 := Bq.at 11 rfl
  have x2 := Bq.at 12 rfl
  have x3 := Bq.at 13 rfl
  have z0 := Bq.frozen 10
  have z1 := Bq.frozen 11
  have z2 := Bq.frozen 12
  have z3 := Bq.frozen 13
  obtain ⟨V3, hV3⟩ : ∃ V3, V3 = ((((u5.setCell ⟨bR, 10, none⟩ (.int .i64 (orO ra).num)).setCell ⟨bR, 11, none⟩ (.int .i64 (orO ra).op)).setCell ⟨bR, 12, none⟩ (.slice a k9 c)).setCell ⟨bR, 13, none⟩ (.int .i64 (orO ra).v)) := ⟨_, rfl⟩
  have e3 : V3 = setQ u5 bR 10 [.int .i64 (orO ra).num, .int .i64 (orO ra).op, .slice a k9 c, .int .i64 (orO ra).v] := hV3
  have B3 : BxQ V3 bR 40 #[.int .i64 3, .int .i64 0, .int .i64 0, .int .i64 0, .int .i64 0, .int .i64 0, .int .i64 0, .bool false, .slice none 0 0, .slice none 0 0, .int .i64 (orO ra).num, .int .i64 (orO ra).op, .slice a k9 c, .int .i64 (orO ra).v] := by rw [e3]; exact Bq.setQ 10 [.int .i64 (orO ra).num, .int .i64 (orO ra).op, .slice a k9 c, .int .i64 (orO ra).v]
  have Y3 : BxQ V3 w.heap.size 40 #[.int .i64 0, .int .i64 0, .int .i64 0, .int .i64 0, .int .i64 0, .int .i64 0, .int .i64 0, .bool false, .slice none 0 0, .slice none 0 0, .int .i64 0, .int .i64 0, .slice none 0 0, .int .i64 0] := by rw [e3]; exact Yq.setQO 10 _ (by omega)
  have S3 : RdAt False 55 V3 (w.heap.size + 1) s (tkS m t3).2 := by rw [e3]; exact C5.row (gr_setQ 10 _) (by simp; omega)
  have HG3 : Hid (Below w.heap.size w V3) := by show Below _ _ _; rw [e3]; exact bel_grown HGs.out (gr_setQ 10 _) (by omega)
  have HW1 : Hid (V3.ownsRow (w.heap.size + 1) 79 2 (.slice a k9 c) k9 (ecells (orO ra).es)) := by show World.ownsRow _ _ _ _ _ _ _; rw [e3]; exact own_mono (own_kQ HR1.out Bq (by decide) 10 _) (by omega)
  clear e3 Bq Yq C5 HGs HR1
  go_upto_region 14 with fail
  rw [← hV3]
  clear hV3 x0 x1 x2 x3 z0 z1 z2 z3
  have HSP : Hid (Sp n s.data.toList ⟨3, 0, 0, 0, 0, 0, ⟨0, false, [], []⟩, ⟨(orO ra).num, (orO ra).op, (orO ra).es, (orO ra).v⟩⟩ (tkS m t3).2) := by
    have h := Hra.out
    rw [HTT.out.1] at h
    show Sp _ _ _ _
    rw [Hm.out, Ht3.out] at h ⊢
    rw [hL]
    exact sp3 h
  have HG0 := hideIt HG3.out
  have HRT := hideIt (sRecText_any n 3 0 0 0 0 0 0 false [] [] (orO ra).num (orO ra).op (orO ra).es (orO ra).v none 0 0 none 0 0 a k9 c V3 ⟨rfl, .inl rfl⟩ ⟨rfl, .inl rfl⟩ (Es_of_own HW1.out) (by omega) (by omega) (by omega))
  have m0 := B3.at 0 rfl
  have m1 := B3.at 1 rfl
  have m2 := B3.at 2 rfl
  have m3 := B3.at 3 rfl
  have m4 := B3.at 4 rfl
  have m5 := B3.at 5 rfl
  have m6 := B3.at 6 rfl
  have m7 := B3.at 7 rfl
  have m8 := B3.at 8 rfl
  have m9 := B3.at 9 rfl
  have m10 := B3.at 10 rfl
  have m11 := B3.at 11 rfl
  have m12 := B3.at 12 rfl
  have m13 := B3.at 13 rfl
  have hfl := S3.fl
  have HSt := hideIt S3
  have HBx := hideIt B3
  have HYx := hideIt Y3
  have HSp := hideIt (HSP.out)
  obtain ⟨R, hR⟩ : ∃ R : RecV, R = ⟨3, 0, 0, 0, 0, 0, ⟨0, false, [], []⟩, ⟨(orO ra).num, (orO ra).op, (orO ra).es, (orO ra).v⟩⟩ := ⟨_, rfl⟩
  rw [← hR] at HRT HSp
  have hRf := hideIt hR
  clear hR
  clear B3 Y3 S3
  have HSt2 : Hid (Option (List UInt8) → True) := fun _ => trivial
  obtain ⟨st', hst'⟩ : ∃ st', st' = (tkS m t3).2 := ⟨_, rfl⟩
  rw [← hst'] at HSp HSt hfl
  clear HSt2 hst'
  by_cases hR : RecB n R
  · rw [rtV_yes hR] at HRT
    go_wp2_with (go_at_call 25; refine HRT.out.mono ?_; rintro e u9 ⟨rfl, g9⟩; refine Hid.out ?_)
    refine (show ∀ {p : Prop}, p → Hid p from fun h => h) ?_
    have Y9 := HYx.out.gr (gr_below g9 none) (by simp)
    have B9 := HBx.out.gr (gr_below g9 none) (by simp)
    have S9 := HSt.out.below g9
    have HG9 : Hid (Below w.heap.size w u9) := HG0.out.trans (g9.mono HG0.out.size)
    have fl := S9.fl
    clear HRT hfl m0 m1 m2 m3 m4 m5 m6 m7 m8 m9 m10 m11 m12 m13
    cases st' with
    | none =>
      have HI : Hid (IsR n s.data.toList none) := HSp.out.none_bad (.inl rfl)
      have y0 := Y9.at 0 rfl
      have y1 := Y9.at 1 rfl
      have y2 := Y9.at 2 rfl
      have y3 := Y9.at 3 rfl
      have y4 := Y9.at 4 rfl
      have y5 := Y9.at 5 rfl
      have y6 := Y9.at 6 rfl
      have y7 := Y9.at 7 rfl
      have y8 := Y9.at 8 rfl
      have y9 := Y9.at 9 rfl
      have y10 := Y9.at 10 rfl
      have y11 := Y9.at 11 rfl
      have y12 := Y9.at 12 rfl
      have y13 := Y9.at 13 rfl
      have f0 := Y9.frozen 0
      have f1 := Y9.frozen 1
      have f2 := Y9.frozen 2
      have f3 := Y9.frozen 3
      have f4 := Y9.frozen 4
      have f5 := Y9.frozen 5
      have f6 := Y9.frozen 6
      have f7 := Y9.frozen 7
      have f8 := Y9.frozen 8
      have f9 := Y9.frozen 9
      have f10 := Y9.frozen 10
      have f11 := Y9.frozen 11
      have f12 := Y9.frozen 12
      have f13 := Y9.frozen 13
      obtain ⟨V, hV⟩ : ∃ V, V = ((((((((((((((u9.setCell ⟨w.heap.size, 0, none⟩ (.int .i64 0)).setCell ⟨w.heap.size, 1, none⟩ (.int .i64 0)).setCell ⟨w.heap.size, 2, none⟩ (.int .i64 0)).setCell ⟨w.heap.size, 3, none⟩ (.int .i64 0)).setCell ⟨w.heap.size, 4, none⟩ (.int .i64 0)).setCell ⟨w.heap.size, 5, none⟩ (.int .i64 0)).setCell ⟨w.heap.size, 6, none⟩ (.int .i64 0)).setCell ⟨w.heap.size, 7, none⟩ (.bool false)).setCell ⟨w.heap.size, 8, none⟩ (.slice none 0 0)).setCell ⟨w.heap.size, 9, none⟩ (.slice none 0 0)).setCell ⟨w.heap.size, 10, none⟩ (.int .i64 0)).setCell ⟨w.heap.size, 11, none⟩ (.int .i64 0)).setCell ⟨w.heap.size, 12, none⟩ (.slice none 0 0)).setCell ⟨w.heap.size, 13, none⟩ (.int .i64 0)) := ⟨_, rfl⟩
      have eV : V = setQ u9 w.heap.size 0 [.int .i64 0, .int .i64 0, .int .i64 0, .int .i64 0, .int .i64 0, .int .i64 0, .int .i64 0, .bool false, .slice none 0 0, .slice none 0 0, .int .i64 0, .int .i64 0, .slice none 0 0, .int .i64 0] := hV
      have BR : BxQ V w.heap.size 40 #[.int .i64 0, .int .i64 0, .int .i64 0, .int .i64 0, .int .i64 0, .int .i64 0, .int .i64 0, .bool false, .slice none 0 0, .slice none 0 0, .int .i64 0, .int .i64 0, .slice none 0 0, .int .i64 0] := by rw [eV]; exact Y9.setQ 0 [.int .i64 0, .int .i64 0, .int .i64 0, .int .i64 0, .int .i64 0, .int .i64 0, .int .i64 0, .bool false, .slice none 0 0, .slice none 0 0, .int .i64 0, .int .i64 0, .slice none 0 0, .int .i64 0]
      have HG2 : Hid (Below w.heap.size w V) := by show Below _ _ _; rw [eV]; exact bel_grown HG9.out (gr_setQ 0 _) (Nat.le_refl _)
      have r0 := BR.at 0 rfl
      have r1 := BR.at 1 rfl
      have r2 := BR.at 2 rfl
      have r3 := BR.at 3 rfl
      have r4 := BR.at 4 rfl
      have r5 := BR.at 5 rfl
      have r6 := BR.at 6 rfl
      have r7 := BR.at 7 rfl
      have r8 := BR.at 8 rfl
      have r9 := BR.at 9 rfl
      have r10 := BR.at 10 rfl
      have r11 := BR.at 11 rfl
      have r12 := BR.at 12 rfl
      have r13 := BR.at 13 rfl
      clear eV BR Y9 B9 S9
      go_wp2
      rw [← hV]
      clear hV
      exact bodyPost_ret (v := .tuple #[.agg #[.int .i64 0, .int .i64 0, .int .i64 0, .int .i64 0, .int .i64 0, .int .i64 0, .int .i64 0, .bool false, .slice none 0 0, .slice none 0 0, .int .i64 0, .int .i64 0, .slice none 0 0, .int .i64 0], .bool false]) (by simp [results, Tryz.results10, go_sem, r0, r1, r2, r3, r4, r5, r6, r7, r8, r9, r10, r11, r12, r13]) rfl ⟨none, HI.out, ⟨none, 0, 0, none, 0, 0, none, 0, 0, rfl, ⟨nilR _ _ _ _, nilR _ _ _ _, nilR _ _ _ _⟩, ⟨by omega, by omega, by omega⟩, .inl ⟨rfl, rfl⟩⟩, HG2.out⟩
    | some M =>
      by_cases hT : rText R = s.data.toList
      · rw [str_eq hT]
        have dT : (s.toList == s.toList) = true := by simp
        have HI : Hid (IsR n s.data.toList (some R)) := ⟨hR, hT⟩
        have y0 := Y9.at 0 rfl
        have y1 := Y9.at 1 rfl
        have y2 := Y9.at 2 rfl
        have y3 := Y9.at 3 rfl
        have y4 := Y9.at 4 rfl
        have y5 := Y9.at 5 rfl
        have y6 := Y9.at 6 rfl
        have y7 := Y9.at 7 rfl
        have y8 := Y9.at 8 rfl
        have y9 := Y9.at 9 rfl
        have y10 := Y9.at 10 rfl
        have y11 := Y9.at 11 rfl
        have y12 := Y9.at 12 rfl
        have y13 := Y9.at 13 rfl
        have f0 := Y9.frozen 0
        have f1 := Y9.frozen 1
        have f2 := Y9.frozen 2
        have f3 := Y9.frozen 3
        have f4 := Y9.frozen 4
        have f5 := Y9.frozen 5
        have f6 := Y9.frozen 6
        have f7 := Y9.frozen 7
        have f8 := Y9.frozen 8
        have f9 := Y9.frozen 9
        have f10 := Y9.frozen 10
        have f11 := Y9.frozen 11
        have f12 := Y9.frozen 12
        have f13 := Y9.frozen 13
        have b0 := B9.at 0 rfl
        have b1 := B9.at 1 rfl
        have b2 := B9.at 2 rfl
        have b3 := B9.at 3 rfl
        have b4 := B9.at 4 rfl
        have b5 := B9.at 5 rfl
        have b6 := B9.at 6 rfl
        have b7 := B9.at 7 rfl
        have b8 := B9.at 8 rfl
        have b9 := B9.at 9 rfl
        have b10 := B9.at 10 rfl
        have b11 := B9.at 11 rfl
        have b12 := B9.at 12 rfl
        have b13 := B9.at 13 rfl
        obtain ⟨V, hV⟩ : ∃ V, V = ((((((((((((((u9.setCell ⟨w.heap.size, 0, none⟩ (.int .i64 3)).setCell ⟨w.heap.size, 1, none⟩ (.int .i64 0)).setCell ⟨w.heap.size, 2, none⟩ (.int .i64 0)).setCell ⟨w.heap.size, 3, none⟩ (.int .i64 0)).setCell ⟨w.heap.size, 4, none⟩ (.int .i64 0)).setCell ⟨w.heap.size, 5, none⟩ (.int .i64 0)).setCell ⟨w.heap.size, 6, none⟩ (.int .i64 0)).setCell ⟨w.heap.size, 7, none⟩ (.bool false)).setCell ⟨w.heap.size, 8, none⟩ (.slice none 0 0)).setCell ⟨w.heap.size, 9, none⟩ (.slice none 0 0)).setCell ⟨w.heap.size, 10, none⟩ (.int .i64 (orO ra).num)).setCell ⟨w.heap.size, 11, none⟩ (.int .i64 (orO ra).op)).setCell ⟨w.heap.size, 12, none⟩ (.slice a k9 c)).setCell ⟨w.heap.size, 13, none⟩ (.int .i64 (orO ra).v)) := ⟨_, rfl⟩
        have eV : V = setQ u9 w.heap.size 0 [.int .i64 3, .int .i64 0, .int .i64 0, .int .i64 0, .int .i64 0, .int .i64 0, .int .i64 0, .bool false, .slice none 0 0, .slice none 0 0, .int .i64 (orO ra).num, .int .i64 (orO ra).op, .slice a k9 c, .int .i64 (orO ra).v] := hV
        have BR : BxQ V w.heap.size 40 #[.int .i64 3, .int .i64 0, .int .i64 0, .int .i64 0, .int .i64 0, .int .i64 0, .int .i64 0, .bool false, .slice none 0 0, .slice none 0 0, .int .i64 (orO ra).num, .int .i64 (orO ra).op, .slice a k9 c, .int .i64 (orO ra).v] := by rw [eV]; exact Y9.setQ 0 [.int .i64 3, .int .i64 0, .int .i64 0, .int .i64 0, .int .i64 0, .int .i64 0, .int .i64 0, .bool false, .slice none 0 0, .slice none 0 0, .int .i64 (orO ra).num, .int .i64 (orO ra).op, .slice a k9 c, .int .i64 (orO ra).v]
        have HG2 : Hid (Below w.heap.size w V) := by show Below _ _ _; rw [eV]; exact bel_grown HG9.out (gr_setQ 0 _) (Nat.le_refl _)
        have HW19 : V.ownsRow (w.heap.size + 1) 79 2 (.slice a k9 c) k9 (ecells (orO ra).es) := by rw [eV]; exact own_kQ (own_up10 HW1.out g9) Y9 (by decide) 0 _
        have HRV : Hid (RcR V w.heap.size ⟨3, 0, 0, 0, 0, 0, ⟨0, false, [], []⟩, ⟨(orO ra).num, (orO ra).op, (orO ra).es, (orO ra).v⟩⟩ none 0 0 none 0 0 a k9 c) := ⟨⟨nilR _ _ _ _, nilR _ _ _ _, own_mono HW19 (by omega)⟩, ⟨by omega, by omega, l1⟩, .inl ⟨rfl, rfl⟩⟩
        have r0 := BR.at 0 rfl
        have r1 := BR.at 1 rfl
        have r2 := BR.at 2 rfl
        have r3 := BR.at 3 rfl
        have r4 := BR.at 4 rfl
        have r5 := BR.at 5 rfl
        have r6 := BR.at 6 rfl
        have r7 := BR.at 7 rfl
        have r8 := BR.at 8 rfl
        have r9 := BR.at 9 rfl
        have r10 := BR.at 10 rfl
        have r11 := BR.at 11 rfl
        have r12 := BR.at 12 rfl
        have r13 := BR.at 13 rfl
        clear eV BR Y9 B9 S9
        go_wp2
        rw [← hV]
        clear hV
        exact bodyPost_ret (v := .tuple #[.agg #[.int .i64 3, .int .i64 0, .int .i64 0, .int .i64 0, .int .i64 0, .int .i64 0, .int .i64 0, .bool false, .slice none 0 0, .slice none 0 0, .int .i64 (orO ra).num, .int .i64 (orO ra).op, .slice a k9 c, .int .i64 (orO ra).v], .bool true]) (by simp [results, Tryz.results10, go_sem, r0, r1, r2, r3, r4, r5, r6, r7, r8, r9, r10, r11, r12, r13]) rfl ⟨some R, HI.out, ⟨none, 0, 0, none, 0, 0, a, k9, c, by rw [hRf.out]; rfl, by rw [hRf.out]; exact HRV.out⟩, HG2.out⟩
      · have dT := str_neq hT
        have HI : Hid (IsR n s.data.toList none) := HSp.out.none_bad (.inr (.inr hT))
        have y0 := Y9.at 0 rfl
        have y1 := Y9.at 1 rfl
        have y2 := Y9.at 2 rfl
        have y3 := Y9.at 3 rfl
        have y4 := Y9.at 4 rfl
        have y5 := Y9.at 5 rfl
        have y6 := Y9.at 6 rfl
        have y7 := Y9.at 7 rfl
        have y8 := Y9.at 8 rfl
        have y9 := Y9.at 9 rfl
        have y10 := Y9.at 10 rfl
        have y11 := Y9.at 11 rfl
        have y12 := Y9.at 12 rfl
        have y13 := Y9.at 13 rfl
        have f0 := Y9.frozen 0
        have f1 := Y9.frozen 1
        have f2 := Y9.frozen 2
        have f3 := Y9.frozen 3
        have f4 := Y9.frozen 4
        have f5 := Y9.frozen 5
        have f6 := Y9.frozen 6
        have f7 := Y9.frozen 7
        have f8 := Y9.frozen 8
        have f9 := Y9.frozen 9
        have f10 := Y9.frozen 10
        have f11 := Y9.frozen 11
        have f12 := Y9.frozen 12
        have f13 := Y9.frozen 13
        obtain ⟨V, hV⟩ : ∃ V, V = ((((((((((((((u9.setCell ⟨w.heap.size, 0, none⟩ (.int .i64 0)).setCell ⟨w.heap.size, 1, none⟩ (.int .i64 0)).setCell ⟨w.heap.size, 2, none⟩ (.int .i64 0)).setCell ⟨w.heap.size, 3, none⟩ (.int .i64 0)).setCell ⟨w.heap.size, 4, none⟩ (.int .i64 0)).setCell ⟨w.heap.size, 5, none⟩ (.int .i64 0)).setCell ⟨w.heap.size, 6, none⟩ (.int .i64 0)).setCell ⟨w.heap.size, 7, none⟩ (.bool false)).setCell ⟨w.heap.size, 8, none⟩ (.slice none 0 0)).setCell ⟨w.heap.size, 9, none⟩ (.slice none 0 0)).setCell ⟨w.heap.size, 10, none⟩ (.int .i64 0)).setCell ⟨w.heap.size, 11, none⟩ (.int .i64 0)).setCell ⟨w.heap.size, 12, none⟩ (.slice none 0 0)).setCell ⟨w.heap.size, 13, none⟩ (.int .i64 0)) := ⟨_, rfl⟩
        have eV : V = setQ u9 w.heap.size 0 [.int .i64 0, .int .i64 0, .int .i64 0, .int .i64 0, .int .i64 0, .int .i64 0, .int .i64 0, .bool false, .slice none 0 0, .slice none 0 0, .int .i64 0, .int .i64 0, .slice none 0 0, .int .i64 0] := hV
        have BR : BxQ V w.heap.size 40 #[.int .i64 0, .int .i64 0, .int .i64 0, .int .i64 0, .int .i64 0, .int .i64 0, .int .i64 0, .bool false, .slice none 0 0, .slice none 0 0, .int .i64 0, .int .i64 0, .slice none 0 0, .int .i64 0] := by rw [eV]; exact Y9.setQ 0 [.int .i64 0, .int .i64 0, .int .i64 0, .int .i64 0, .int .i64 0, .int .i64 0, .int .i64 0, .bool false, .slice none 0 0, .slice none 0 0, .int .i64 0, .int .i64 0, .slice none 0 0, .int .i64 0]
        have HG2 : Hid (Below w.heap.size w V) := by show Below _ _ _; rw [eV]; exact bel_grown HG9.out (gr_setQ 0 _) (Nat.le_refl _)
        have r0 := BR.at 0 rfl
        have r1 := BR.at 1 rfl
        have r2 := BR.at 2 rfl
        have r3 := BR.at 3 rfl
        have r4 := BR.at 4 rfl
        have r5 := BR.at 5 rfl
        have r6 := BR.at 6 rfl
        have r7 := BR.at 7 rfl
        have r8 := BR.at 8 rfl
        have r9 := BR.at 9 rfl
        have r10 := BR.at 10 rfl
        have r11 := BR.at 11 rfl
        have r12 := BR.at 12 rfl
        have r13 := BR.at 13 rfl
        clear eV BR Y9 B9 S9
        go_wp2
        rw [← hV]
        clear hV
        exact bodyPost_ret (v := .tuple #[.agg #[.int .i64 0, .int .i64 0, .int .i64 0, .int .i64 0, .int .i64 0, .int .i64 0, .int .i64 0, .bool false, .slice none 0 0, .slice none 0 0, .int .i64 0, .int .i64 0, .slice none 0 0, .int .i64 0], .bool false]) (by simp [results, Tryz.results10, go_sem, r0, r1, r2, r3, r4, r5, r6, r7, r8, r9, r10, r11, r12, r13]) rfl ⟨none, HI.out, ⟨none, 0, 0, none, 0, 0, none, 0, 0, rfl, ⟨nilR _ _ _ _, nilR _ _ _ _, nilR _ _ _ _⟩, ⟨by omega, by omega, by omega⟩, .inl ⟨rfl, rfl⟩⟩, HG2.out⟩
  · rw [rtV_no hR] at HRT
    go_wp2_with (go_at_call 25; refine HRT.out.mono ?_; rintro e u9 ⟨rfl, g9⟩; refine Hid.out ?_)
    refine (show ∀ {p : Prop}, p → Hid p from fun h => h) ?_
    have Y9 := HYx.out.gr (gr_below g9 none) (by simp)
    have B9 := HBx.out.gr (gr_below g9 none) (by simp)
    have S9 := HSt.out.below g9
    have HG9 : Hid (Below w.heap.size w u9) := HG0.out.trans (g9.mono HG0.out.size)
    have fl := S9.fl
    clear HRT hfl m0 m1 m2 m3 m4 m5 m6 m7 m8 m9 m10 m11 m12 m13
    cases st' with
    | none =>
      have HI : Hid (IsR n s.data.toList none) := HSp.out.none_bad (.inl rfl)
      have y0 := Y9.at 0 rfl
      have y1 := Y9.at 1 rfl
      have y2 := Y9.at 2 rfl
      have y3 := Y9.at 3 rfl
      have y4 := Y9.at 4 rfl
      have y5 := Y9.at 5 rfl
      have y6 := Y9.at 6 rfl
      have y7 := Y9.at 7 rfl
      have y8 := Y9.at 8 rfl
      have y9 := Y9.at 9 rfl
      have y10 := Y9.at 10 rfl
      have y11 := Y9.at 11 rfl
      have y12 := Y9.at 12 rfl
      have y13 := Y9.at 13 rfl
      have f0 := Y9.frozen 0
      have f1 := Y9.frozen 1
      have f2 := Y9.frozen 2
      have f3 := Y9.frozen 3
      have f4 := Y9.frozen 4
      have f5 := Y9.frozen 5
      have f6 := Y9.frozen 6
      have f7 := Y9.frozen 7
      have f8 := Y9.frozen 8
      have f9 := Y9.frozen 9
      have f10 := Y9.frozen 10
      have f11 := Y9.frozen 11
      have f12 := Y9.frozen 12
      have f13 := Y9.frozen 13
      obtain ⟨V, hV⟩ : ∃ V, V = ((((((((((((((u9.setCell ⟨w.heap.size, 0, none⟩ (.int .i64 0)).setCell ⟨w.heap.size, 1, none⟩ (.int .i64 0)).setCell ⟨w.heap.size, 2, none⟩ (.int .i64 0)).setCell ⟨w.heap.size, 3, none⟩ (.int .i64 0)).setCell ⟨w.heap.size, 4, none⟩ (.int .i64 0)).setCell ⟨w.heap.size, 5, none⟩ (.int .i64 0)).setCell ⟨w.heap.size, 6, none⟩ (.int .i64 0)).setCell ⟨w.heap.size, 7, none⟩ (.bool false)).setCell ⟨w.heap.size, 8, none⟩ (.slice none 0 0)).setCell ⟨w.heap.size, 9, none⟩ (.slice none 0 0)).setCell ⟨w.heap.size, 10, none⟩ (.int .i64 0)).setCell ⟨w.heap.size, 11, none⟩ (.int .i64 0)).setCell ⟨w.heap.size, 12, none⟩ (.slice none 0 0)).setCell ⟨w.heap.size, 13, none⟩ (.int .i64 0)) := ⟨_, rfl⟩
      have eV : V = setQ u9 w.heap.size 0 [.int .i64 0, .int .i64 0, .int .i64 0, .int .i64 0, .int .i64 0, .int .i64 0, .int .i64 0, .bool false, .slice none 0 0, .slice none 0 0, .int .i64 0, .int .i64 0, .slice none 0 0, .int .i64 0] := hV
      have BR : BxQ V w.heap.size 40 #[.int .i64 0, .int .i64 0, .int .i64 0, .int .i64 0, .int .i64 0, .int .i64 0, .int .i64 0, .bool false, .slice none 0 0, .slice none 0 0, .int .i64 0, .int .i64 0, .slice none 0 0, .int .i64 0] := by rw [eV]; exact Y9.setQ 0 [.int .i64 0, .int .i64 0, .int .i64 0, .int .i64 0, .int .i64 0, .int .i64 0, .int .i64 0, .bool false, .slice none 0 0, .slice none 0 0, .int .i64 0, .int .i64 0, .slice none 0 0, .int .i64 0]
      have HG2 : Hid (Below w.heap.size w V) := by show Below _ _ _; rw [eV]; exact bel_grown HG9.out (gr_setQ 0 _) (Nat.le_refl _)
      have r0 := BR.at 0 rfl
      have r1 := BR.at 1 rfl
      have r2 := BR.at 2 rfl
      have r3 := BR.at 3 rfl
      have r4 := BR.at 4 rfl
      have r5 := BR.at 5 rfl
      have r6 := BR.at 6 rfl
      have r7 := BR.at 7 rfl
      have r8 := BR.at 8 rfl
      have r9 := BR.at 9 rfl
      have r10 := BR.at 10 rfl
      have r11 := BR.at 11 rfl
      have r12 := BR.at 12 rfl
      have r13 := BR.at 13 rfl
      clear eV BR Y9 B9 S9
      go_wp2
      rw [← hV]
      clear hV
      exact bodyPost_ret (v := .tuple #[.agg #[.int .i64 0, .int .i64 0, .int .i64 0, .int .i64 0, .int .i64 0, .int .i64 0, .int .i64 0, .bool false, .slice none 0 0, .slice none 0 0, .int .i64 0, .int .i64 0, .slice none 0 0, .int .i64 0], .bool false]) (by simp [results, Tryz.results10, go_sem, r0, r1, r2, r3, r4, r5, r6, r7, r8, r9, r10, r11, r12, r13]) rfl ⟨none, HI.out, ⟨none, 0, 0, none, 0, 0, none, 0, 0, rfl, ⟨nilR _ _ _ _, nilR _ _ _ _, nilR _ _ _ _⟩, ⟨by omega, by omega, by omega⟩, .inl ⟨rfl, rfl⟩⟩, HG2.out⟩
    | some M =>
      have HI : Hid (IsR n s.data.toList none) := HSp.out.none_bad (.inr (.inl hR))
      have y0 := Y9.at 0 rfl
      have y1 := Y9.at 1 rfl
      have y2 := Y9.at 2 rfl
      have y3 := Y9.at 3 rfl
      have y4 := Y9.at 4 rfl
      have y5 := Y9.at 5 rfl
      have y6 := Y9.at 6 rfl
      have y7 := Y9.at 7 rfl
      have y8 := Y9.at 8 rfl
      have y9 := Y9.at 9 rfl
      have y10 := Y9.at 10 rfl
      have y11 := Y9.at 11 rfl
      have y12 := Y9.at 12 rfl
      have y13 := Y9.at 13 rfl
      have f0 := Y9.frozen 0
      have f1 := Y9.frozen 1
      have f2 := Y9.frozen 2
      have f3 := Y9.frozen 3
      have f4 := Y9.frozen 4
      have f5 := Y9.frozen 5
      have f6 := Y9.frozen 6
      have f7 := Y9.frozen 7
      have f8 := Y9.frozen 8
      have f9 := Y9.frozen 9
      have f10 := Y9.frozen 10
      have f11 := Y9.frozen 11
      have f12 := Y9.frozen 12
      have f13 := Y9.frozen 13
      obtain ⟨V, hV⟩ : ∃ V, V = ((((((((((((((u9.setCell ⟨w.heap.size, 0, none⟩ (.int .i64 0)).setCell ⟨w.heap.size, 1, none⟩ (.int .i64 0)).setCell ⟨w.heap.size, 2, none⟩ (.int .i64 0)).setCell ⟨w.heap.size, 3, none⟩ (.int .i64 0)).setCell ⟨w.heap.size, 4, none⟩ (.int .i64 0)).setCell ⟨w.heap.size, 5, none⟩ (.int .i64 0)).setCell ⟨w.heap.size, 6, none⟩ (.int .i64 0)).setCell ⟨w.heap.size, 7, none⟩ (.bool false)).setCell ⟨w.heap.size, 8, none⟩ (.slice none 0 0)).setCell ⟨w.heap.size, 9, none⟩ (.slice none 0 0)).setCell ⟨w.heap.size, 10, none⟩ (.int .i64 0)).setCell ⟨w.heap.size, 11, none⟩ (.int .i64 0)).setCell ⟨w.heap.size, 12, none⟩ (.slice none 0 0)).setCell ⟨w.heap.size, 13, none⟩ (.int .i64 0)) := ⟨_, rfl⟩
      have eV : V = setQ u9 w.heap.size 0 [.int .i64 0, .int .i64 0, .int .i64 0, .int .i64 0, .int .i64 0, .int .i64 0, .int .i64 0, .bool false, .slice none 0 0, .slice none 0 0, .int .i64 0, .int .i64 0, .slice none 0 0, .int .i64 0] := hV
      have BR : BxQ V w.heap.size 40 #[.int .i64 0, .int .i64 0, .int .i64 0, .int .i64 0, .int .i64 0, .int .i64 0, .int .i64 0, .bool false, .slice none 0 0, .slice none 0 0, .int .i64 0, .int .i64 0, .slice none 0 0, .int .i64 0] := by rw [eV]; exact Y9.setQ 0 [.int .i64 0, .int .i64 0, .int .i64 0, .int .i64 0, .int .i64 0, .int .i64 0, .int .i64 0, .bool false, .slice none 0 0, .slice none 0 0, .int .i64 0, .int .i64 0, .slice none 0 0, .int .i64 0]
      have HG2 : Hid (Below w.heap.size w V) := by show Below _ _ _; rw [eV]; exact bel_grown HG9.out (gr_setQ 0 _) (Nat.le_refl _)
      have r0 := BR.at 0 rfl
      have r1 := BR.at 1 rfl
      have r2 := BR.at 2 rfl
      have r3 := BR.at 3 rfl
      have r4 := BR.at 4 rfl
      have r5 := BR.at 5 rfl
      have r6 := BR.at 6 rfl
      have r7 := BR.at 7 rfl
      have r8 := BR.at 8 rfl
      have r9 := BR.at 9 rfl
      have r10 := BR.at 10 rfl
      have r11 := BR.at 11 rfl
      have r12 := BR.at 12 rfl
      have r13 := BR.at 13 rfl
      clear eV BR Y9 B9 S9
      go_wp2
      rw [← hV]
      clear hV
      exact bodyPost_ret (v := .tuple #[.agg #[.int .i64 0, .int .i64 0, .int .i64 0, .int .i64 0, .int .i64 0, .int .i64 0, .int .i64 0, .bool false, .slice none 0 0, .slice none 0 0, .int .i64 0, .int .i64 0, .slice none 0 0, .int .i64 0], .bool false]) (by simp [results, Tryz.results10, go_sem, r0, r1, r2, r3, r4, r5, r6, r7, r8, r9, r10, r11, r12, r13]) rfl ⟨none, HI.out, ⟨none, 0, 0, none, 0, 0, none, 0, 0, rfl, ⟨nilR _ _ _ _, nilR _ _ _ _, nilR _ _ _ _⟩, ⟨by omega, by omega, by omega⟩, .inl ⟨rfl, rfl⟩⟩, HG2.out⟩
theorem sReadRec_any (n : Int) (s : ByteArray) (hs : s.size ≤ 1048576) (w : World) :
    Calls Tryz.prog 10 #[.int .i64 n, .string s] w fun e w' => ∃ r, IsR n s.data.toList r ∧ ReA w w' e r ∧ Below w.heap.size w w' := by
  by_cases hz : 0 < s.size
  · have hL := L_at hz (c := s[0]) rfl
    have hK : nx pO (some s.data.toList) = ((s[0]).toNat, some (from_ s 1)) := by rw [hL]; rfl
    by_cases h1 : s[0] = 1
    · rw [h1] at hL hK
      exact sread_one n s hs hL hK w
    · by_cases h2 : s[0] = 2
      · rw [h2] at hL hK
        exact sread_two n s hs hL hK w
      · by_cases h3 : s[0] = 3
        · rw [h3] at hL hK
          exact sread_three n s hs hL hK w
        · refine sread_other n s hs _ _ hK ?_ ?_ ?_ ?_ w
          · exact fun e => h1 (UInt8.toNat_inj.1 e)
          · exact fun e => h2 (UInt8.toNat_inj.1 e)
          · exact fun e => h3 (UInt8.toNat_inj.1 e)
          · intro c M e
            rw [hL] at e
            simp only [List.cons.injEq] at e
            rw [← e.1]
            exact ⟨h1, h2, h3⟩
  · have hl : s.data.toList = [] := List.length_eq_zero_iff.1 (by rw [Array.length_toList]; have : s.size = s.data.size := rfl; omega)
    exact sread_other n s hs 0 none (by rw [hl]; rfl) (by omega) (by omega) (by omega) (fun c M e => by rw [hl] at e; cases e) w
end Go.Proofs.YtcieanhbipbhgaaGreatDoor
