/- The program's reader of records: questions. What stands in a text that is read as a record: pure. -/
import Derived.Test.YtcieanhbipbhgaaGreatDoorKRt14
namespace Go.Proofs.YtcieanhbipbhgaaGreatDoor
open Go.RowKit Vt

/-- four numbers of a record stand from p on -/
structure AskOk (s : ByteArray) (p i o a b q : Nat) : Prop where
  bd : i ≤ 100000 ∧ o ≤ 100000 ∧ a ≤ 100000 ∧ b ≤ 100000
  le : q ≤ s.size
  r : ∃ p2 p3 p4, (nx pN (some (from_ s p)) = (i, some (from_ s p2)) ∧ nx pN (some (from_ s p2)) = (o, some (from_ s p3)) ∧ nx pN (some (from_ s p3)) = (a, some (from_ s p4)) ∧ nx pN (some (from_ s p4)) = (b, some (from_ s q)))
/-- one of the four does not stand there -/
def AskBad (s : ByteArray) (p : Nat) : Prop :=
  NumBad s p ∨ ∃ k1 p2, NumOk s p k1 p2 ∧ (NumBad s p2 ∨ ∃ k2 p3, NumOk s p2 k2 p3 ∧ (NumBad s p3 ∨ ∃ k3 p4, NumOk s p3 k3 p4 ∧ NumBad s p4))
def askZ : List Value := [.int .i64 0, .int .i64 0, .int .i64 0, .int .i64 0]
set_option maxRecDepth 100000 in
set_option maxHeartbeats 4000000 in
theorem ask_any (n : Int) (s : ByteArray) (hs : s.size ≤ 1048576) (p : Nat) (G : Nat) (w : World) (h : RrAt w G n s p) :
    Calls Tryz.prog 60 #[.pointer (some ⟨G, 0, none⟩)] w fun e w' => ((∃ i o a b q : Nat, AskOk s p i o a b q ∧ e = .returned (.agg #[.int .i64 (i : Int), .int .i64 (o : Int), .int .i64 (a : Int), .int .i64 (b : Int)]) ∧ RrAt w' G n s q) ∨ (AskBad s p ∧ e = .panicked PV)) ∧ w.grownBy w' (some G) := by
  obtain ⟨W, hW⟩ : ∃ W, W = (w.alloc (.cells #[.int .i64 0, .int .i64 0, .int .i64 0, .int .i64 0] 32)).alloc (.cells #[.int .i64 0, .int .i64 0, .int .i64 0, .int .i64 0] 32) := ⟨_, rfl⟩
  have bW : Below w.heap.size w W := by rw [hW]; exact ((Below.refl _ _).alloc (Nat.le_refl _) _).alloc (by simp) _
  have X0 : BxQ W w.heap.size 32 #[.int .i64 0, .int .i64 0, .int .i64 0, .int .i64 0] := by rw [hW]; exact (BxQ.new w _ _).gr (World.grownBy_alloc _ _ none) (by simp)
  have X1 : BxQ W (w.heap.size + 1) 32 #[.int .i64 0, .int .i64 0, .int .i64 0, .int .i64 0] := by
    have h := BxQ.new (w.alloc (.cells #[.int .i64 0, .int .i64 0, .int .i64 0, .int .i64 0] 32)) 32 #[.int .i64 0, .int .i64 0, .int .i64 0, .int .i64 0]
    rw [show (w.alloc (.cells #[.int .i64 0, .int .i64 0, .int .i64 0, .int .i64 0] 32)).heap.size = w.heap.size + 1 by simp] at h
    rw [hW]; exact h
  have R0 := h.below bW
  have hGw := h.lt
  have HB := hideIt (gr_below bW (some G))
  have HNo := hideIt (fun q u hu hr => number_no n s hs q hr G u hu)
  have HYe := hideIt (fun q k j u hr hk hj hu => number_yes n s hs q k j hr hk hj G u hu)
  clear h bW
  go_enter Tryz.func60, Tryz.ntmps60
  go_upto_region 2 with fail
  rw [← hW]
  clear hW
  rcases num_cases s p R0.2 with ⟨k1, p2, hk1⟩ | ⟨hb, hr⟩
  · have HC := hideIt (HYe.out p k1 p2 W hk1.2 hk1.1.2.1 hk1.1.2.2 R0)
    have HX0 := hideIt X0
    have HX1 := hideIt X1
    have HK1 := hideIt hk1
    clear hk1 X0 X1 R0
    go_wp2_with (go_at_call 61; refine HC.out.mono ?_; rintro e u1 ⟨rfl, R1, gg⟩; refine Hid.out ?_)
    refine (show ∀ {p : Prop}, p → Hid p from fun h => h) ?_
    have hk1 := HK1.out
    have Y0 := HX0.out.gr gg (by simp; omega)
    have Y1 := HX1.out.gr gg (by simp; omega)
    have HB1 := hideIt (gr_trans HB.out gg)
    clear HC HX0 HX1 gg
    have y0 := Y1.at 0 rfl
    have f0 := Y1.frozen 0
    have y1 := Y1.at 1 rfl
    have f1 := Y1.frozen 1
    have y2 := Y1.at 2 rfl
    have f2 := Y1.frozen 2
    have y3 := Y1.at 3 rfl
    have f3 := Y1.frozen 3
    obtain ⟨V1, hV1⟩ : ∃ V1, V1 = u1.setCell ⟨w.heap.size + 1, 0, none⟩ (.int .i64 (k1 : Int)) := ⟨_, rfl⟩
    have S1 : RrAt V1 G n s p2 := by rw [hV1]; exact R1.grown (gr_set _ _ _ _) (by simp; omega)
    have Z0 : BxQ V1 w.heap.size 32 #[.int .i64 0, .int .i64 0, .int .i64 0, .int .i64 0] := by rw [hV1]; exact Y0.setO _ (by omega)
    have Z1 : BxQ V1 (w.heap.size + 1) 32 #[.int .i64 (k1 : Int), .int .i64 0, .int .i64 0, .int .i64 0] := by rw [hV1]; exact Y1.set 0 _
    have HD1 : Hid (w.grownBy V1 (some G)) := by show World.grownBy _ _ _; rw [hV1]; exact gr_own HB1.out (gr_set _ _ _ _) (fun q hq => by simp at hq; omega)
    have HR1 := hideIt R1
    have HKK1 := hideIt hk1
    clear Y0 Y1 R1 hk1 HK1
    go_upto_region 3 with fail
    rw [← hV1]
    clear hV1 HB1 HR1 y0 y1 y2 y3 f0 f1 f2 f3
    have hk1 := HKK1.out
    clear HKK1
    rcases num_cases s p2 S1.2 with ⟨k2, p3, hk2⟩ | ⟨hb, hr⟩
    · have HC := hideIt (HYe.out p2 k2 p3 V1 hk2.2 hk2.1.2.1 hk2.1.2.2 S1)
      have HX0 := hideIt Z0
      have HX1 := hideIt Z1
      have HK2 := hideIt hk2
      clear hk2 Z0 Z1 S1
      go_wp2_with (go_at_call 61; refine HC.out.mono ?_; rintro e u2 ⟨rfl, R2, gg⟩; refine Hid.out ?_)
      refine (show ∀ {p : Prop}, p → Hid p from fun h => h) ?_
      have hk2 := HK2.out
      have Y0 := HX0.out.gr gg (by simp; omega)
      have Y1 := HX1.out.gr gg (by simp; omega)
      have HB2 := hideIt (gr_trans HD1.out gg)
      clear HC HX0 HX1 gg
      have y0 := Y1.at 0 rfl
      have f0 := Y1.frozen 0
      have y1 := Y1.at 1 rfl
      have f1 := Y1.frozen 1
      have y2 := Y1.at 2 rfl
      have f2 := Y1.frozen 2
      have y3 := Y1.at 3 rfl
      have f3 := Y1.frozen 3
      obtain ⟨V2, hV2⟩ : ∃ V2, V2 = u2.setCell ⟨w.heap.size + 1, 1, none⟩ (.int .i64 (k2 : Int)) := ⟨_, rfl⟩
      have S2 : RrAt V2 G n s p3 := by rw [hV2]; exact R2.grown (gr_set _ _ _ _) (by simp; omega)
      have Z0 : BxQ V2 w.heap.size 32 #[.int .i64 0, .int .i64 0, .int .i64 0, .int .i64 0] := by rw [hV2]; exact Y0.setO _ (by omega)
      have Z1 : BxQ V2 (w.heap.size + 1) 32 #[.int .i64 (k1 : Int), .int .i64 (k2 : Int), .int .i64 0, .int .i64 0] := by rw [hV2]; exact Y1.set 1 _
      have HD2 : Hid (w.grownBy V2 (some G)) := by show World.grownBy _ _ _; rw [hV2]; exact gr_own HB2.out (gr_set _ _ _ _) (fun q hq => by simp at hq; omega)
      have HR2 := hideIt R2
      have HKK2 := hideIt hk2
      clear Y0 Y1 R2 hk2 HK2
      go_upto_region 4 with fail
      rw [← hV2]
      clear hV2 HB2 HR2 y0 y1 y2 y3 f0 f1 f2 f3
      have hk2 := HKK2.out
      clear HKK2
      rcases num_cases s p3 S2.2 with ⟨k3, p4, hk3⟩ | ⟨hb, hr⟩
      · have HC := hideIt (HYe.out p3 k3 p4 V2 hk3.2 hk3.1.2.1 hk3.1.2.2 S2)
        have HX0 := hideIt Z0
        have HX1 := hideIt Z1
        have HK3 := hideIt hk3
        clear hk3 Z0 Z1 S2
        go_wp2_with (go_at_call 61; refine HC.out.mono ?_; rintro e u3 ⟨rfl, R3, gg⟩; refine Hid.out ?_)
        refine (show ∀ {p : Prop}, p → Hid p from fun h => h) ?_
        have hk3 := HK3.out
        have Y0 := HX0.out.gr gg (by simp; omega)
        have Y1 := HX1.out.gr gg (by simp; omega)
        have HB3 := hideIt (gr_trans HD2.out gg)
        clear HC HX0 HX1 gg
        have y0 := Y1.at 0 rfl
        have f0 := Y1.frozen 0
        have y1 := Y1.at 1 rfl
        have f1 := Y1.frozen 1
        have y2 := Y1.at 2 rfl
        have f2 := Y1.frozen 2
        have y3 := Y1.at 3 rfl
        have f3 := Y1.frozen 3
        obtain ⟨V3, hV3⟩ : ∃ V3, V3 = u3.setCell ⟨w.heap.size + 1, 2, none⟩ (.int .i64 (k3 : Int)) := ⟨_, rfl⟩
        have S3 : RrAt V3 G n s p4 := by rw [hV3]; exact R3.grown (gr_set _ _ _ _) (by simp; omega)
        have Z0 : BxQ V3 w.heap.size 32 #[.int .i64 0, .int .i64 0, .int .i64 0, .int .i64 0] := by rw [hV3]; exact Y0.setO _ (by omega)
        have Z1 : BxQ V3 (w.heap.size + 1) 32 #[.int .i64 (k1 : Int), .int .i64 (k2 : Int), .int .i64 (k3 : Int), .int .i64 0] := by rw [hV3]; exact Y1.set 2 _
        have HD3 : Hid (w.grownBy V3 (some G)) := by show World.grownBy _ _ _; rw [hV3]; exact gr_own HB3.out (gr_set _ _ _ _) (fun q hq => by simp at hq; omega)
        have HR3 := hideIt R3
        have HKK3 := hideIt hk3
        clear Y0 Y1 R3 hk3 HK3
        go_upto_region 5 with fail
        rw [← hV3]
        clear hV3 HB3 HR3 y0 y1 y2 y3 f0 f1 f2 f3
        have hk3 := HKK3.out
        clear HKK3
        rcases num_cases s p4 S3.2 with ⟨k4, p5, hk4⟩ | ⟨hb, hr⟩
        · have HC := hideIt (HYe.out p4 k4 p5 V3 hk4.2 hk4.1.2.1 hk4.1.2.2 S3)
          have HX0 := hideIt Z0
          have HX1 := hideIt Z1
          have HK4 := hideIt hk4
          clear hk4 Z0 Z1 S3
          go_wp2_with (go_at_call 61; refine HC.out.mono ?_; rintro e u4 ⟨rfl, R4, gg⟩; refine Hid.out ?_)
          refine (show ∀ {p : Prop}, p → Hid p from fun h => h) ?_
          have hk4 := HK4.out
          have Y0 := HX0.out.gr gg (by simp; omega)
          have Y1 := HX1.out.gr gg (by simp; omega)
          have HB4 := hideIt (gr_trans HD3.out gg)
          clear HC HX0 HX1 gg
          have y0 := Y1.at 0 rfl
          have f0 := Y1.frozen 0
          have y1 := Y1.at 1 rfl
          have f1 := Y1.frozen 1
          have y2 := Y1.at 2 rfl
          have f2 := Y1.frozen 2
          have y3 := Y1.at 3 rfl
          have f3 := Y1.frozen 3
          obtain ⟨V4, hV4⟩ : ∃ V4, V4 = u4.setCell ⟨w.heap.size + 1, 3, none⟩ (.int .i64 (k4 : Int)) := ⟨_, rfl⟩
          have S4 : RrAt V4 G n s p5 := by rw [hV4]; exact R4.grown (gr_set _ _ _ _) (by simp; omega)
          have Z0 : BxQ V4 w.heap.size 32 #[.int .i64 0, .int .i64 0, .int .i64 0, .int .i64 0] := by rw [hV4]; exact Y0.setO _ (by omega)
          have Z1 : BxQ V4 (w.heap.size + 1) 32 #[.int .i64 (k1 : Int), .int .i64 (k2 : Int), .int .i64 (k3 : Int), .int .i64 (k4 : Int)] := by rw [hV4]; exact Y1.set 3 _
          have HD4 : Hid (w.grownBy V4 (some G)) := by show World.grownBy _ _ _; rw [hV4]; exact gr_own HB4.out (gr_set _ _ _ _) (fun q hq => by simp at hq; omega)
          have HR4 := hideIt R4
          have HKK4 := hideIt hk4
          clear Y0 Y1 R4 hk4 HK4
          have b0 := Z0.at 0 rfl
          have g0 := Z0.frozen 0
          have z0 := Z1.at 0 rfl
          have b1 := Z0.at 1 rfl
          have g1 := Z0.frozen 1
          have z1 := Z1.at 1 rfl
          have b2 := Z0.at 2 rfl
          have g2 := Z0.frozen 2
          have z2 := Z1.at 2 rfl
          have b3 := Z0.at 3 rfl
          have g3 := Z0.frozen 3
          have z3 := Z1.at 3 rfl
          go_upto_region 6 with fail
          rw [← hV4]
          clear hV4 HB4 HR4 y0 y1 y2 y3 f0 f1 f2 f3
          obtain ⟨V, hV⟩ : ∃ V, V = (((V4.setCell ⟨w.heap.size, 0, none⟩ (.int .i64 (k1 : Int))).setCell ⟨w.heap.size, 1, none⟩ (.int .i64 (k2 : Int))).setCell ⟨w.heap.size, 2, none⟩ (.int .i64 (k3 : Int))).setCell ⟨w.heap.size, 3, none⟩ (.int .i64 (k4 : Int)) := ⟨_, rfl⟩
          have eV : V = setQ V4 w.heap.size 0 [.int .i64 (k1 : Int), .int .i64 (k2 : Int), .int .i64 (k3 : Int), .int .i64 (k4 : Int)] := hV
          have BR : BxQ V w.heap.size 32 #[.int .i64 (k1 : Int), .int .i64 (k2 : Int), .int .i64 (k3 : Int), .int .i64 (k4 : Int)] := by rw [eV]; exact Z0.setQ 0 [.int .i64 (k1 : Int), .int .i64 (k2 : Int), .int .i64 (k3 : Int), .int .i64 (k4 : Int)]
          have HS : Hid (RrAt V G n s p5) := by show RrAt _ _ _ _ _; rw [eV]; exact S4.grown (gr_setQ 0 _) (by simp; omega)
          have HG2 : Hid (w.grownBy V (some G)) := by show World.grownBy _ _ _; rw [eV]; exact gr_own HD4.out (gr_setQ 0 _) (fun q hq => by simp at hq; omega)
          have r0 := BR.at 0 rfl
          have r1 := BR.at 1 rfl
          have r2 := BR.at 2 rfl
          have r3 := BR.at 3 rfl
          have hk4 := HKK4.out
          have HOk : Hid (AskOk s p k1 k2 k3 k4 p5) := ⟨⟨hk1.1.2.1, hk2.1.2.1, hk3.1.2.1, hk4.1.2.1⟩, hk4.1.2.2, p2, p3, p4, hk1.1.1, hk2.1.1, hk3.1.1, hk4.1.1⟩
          clear eV BR Z0 Z1 S4 hk1 hk2 hk3 hk4 HKK4
          go_wp2
          rw [← hV]
          clear hV
          exact bodyPost_ret (v := .agg #[.int .i64 (k1 : Int), .int .i64 (k2 : Int), .int .i64 (k3 : Int), .int .i64 (k4 : Int)]) (by simp [results, Tryz.results60, go_sem, r0, r1, r2, r3]) rfl ⟨.inl ⟨k1, k2, k3, k4, p5, HOk.out, rfl, HS.out⟩, HG2.out⟩
        · have HC := hideIt (HNo.out p4 V3 S3 hr)
          have HAB := hideIt (show AskBad s p from .inr ⟨k1, p2, hk1.1, .inr ⟨k2, p3, hk2.1, .inr ⟨k3, p4, hk3.1, hb⟩⟩⟩)
          clear hb hr S3 Z0 Z1
          go_wp2_with (go_at_call 61; refine HC.out.mono ?_; rintro e w1 ⟨rfl, gg⟩; refine Hid.out ?_)
          refine (show ∀ {p : Prop}, p → Hid p from fun h => h) ?_
          exact ⟨rfl, .inr ⟨HAB.out, rfl⟩, gr_trans HD3.out gg⟩
      · have HC := hideIt (HNo.out p3 V2 S2 hr)
        have HAB := hideIt (show AskBad s p from .inr ⟨k1, p2, hk1.1, .inr ⟨k2, p3, hk2.1, .inl hb⟩⟩)
        clear hb hr S2 Z0 Z1
        go_wp2_with (go_at_call 61; refine HC.out.mono ?_; rintro e w1 ⟨rfl, gg⟩; refine Hid.out ?_)
        refine (show ∀ {p : Prop}, p → Hid p from fun h => h) ?_
        exact ⟨rfl, .inr ⟨HAB.out, rfl⟩, gr_trans HD2.out gg⟩
    · have HC := hideIt (HNo.out p2 V1 S1 hr)
      have HAB := hideIt (show AskBad s p from .inr ⟨k1, p2, hk1.1, .inl hb⟩)
      clear hb hr S1 Z0 Z1
      go_wp2_with (go_at_call 61; refine HC.out.mono ?_; rintro e w1 ⟨rfl, gg⟩; refine Hid.out ?_)
      refine (show ∀ {p : Prop}, p → Hid p from fun h => h) ?_
      exact ⟨rfl, .inr ⟨HAB.out, rfl⟩, gr_trans HD1.out gg⟩
  · have HC := hideIt (HNo.out p W R0 hr)
    have HAB := hideIt (show AskBad s p from .inl hb)
    clear hb hr R0 X0 X1
    go_wp2_with (go_at_call 61; refine HC.out.mono ?_; rintro e w1 ⟨rfl, gg⟩; refine Hid.out ?_)
    refine (show ∀ {p : Prop}, p → Hid p from fun h => h) ?_
    exact ⟨rfl, .inr ⟨HAB.out, rfl⟩, gr_trans HB.out gg⟩
end Go.Proofs.YtcieanhbipbhgaaGreatDoor
namespace Go.Proofs.YtcieanhbipbhgaaGreatDoor
open Go.RowKit Vt

theorem from_zero (s : ByteArray) : from_ s 0 = s.data.toList := by simp [from_]
theorem L_at {s : ByteArray} (h : 0 < s.size) {c : UInt8} (hc : s[0] = c) : s.data.toList = c :: from_ s 1 := by
  rw [← from_zero, from_at_cons s 0 h, hc]
theorem from_inj {s : ByteArray} {p q : Nat} (hp : p ≤ s.size) (hq : q ≤ s.size) (h : from_ s p = from_ s q) : p = q := by
  have := congrArg List.length h
  rw [from_length, from_length] at this
  omega
theorem from_nil {s : ByteArray} {p : Nat} (hp : p ≤ s.size) (h : from_ s p = []) : p = s.size := from_inj hp (Nat.le_refl _) (by rw [h, from_end])
theorem extract_list (s : ByteArray) (j k : Nat) : (s.extract j (j + k)).data.toList = (from_ s j).take k := by
  unfold from_
  rw [ByteArray.data_extract, Array.toList_extract, List.extract_eq_take_drop]
  congr 1
  omega
theorem NumOk.not_bad {s : ByteArray} {p k j : Nat} (h : NumOk s p k j) (hb : NumBad s p) : False := by
  rcases hb with hb | hb
  · rw [h.1] at hb; cases hb
  · rw [h.1] at hb
    have := h.2.1
    dsimp only at hb
    omega
theorem NumOk.uniq {s : ByteArray} {p k j k' j' : Nat} (h : NumOk s p k j) (h' : NumOk s p k' j') : k = k' ∧ j = j' := by
  have e := h.1
  rw [h'.1] at e
  simp only [Prod.mk.injEq, Option.some.injEq] at e
  exact ⟨e.1.symm, from_inj h.2.2 h'.2.2 e.2.symm⟩
theorem ask_cases (s : ByteArray) (p : Nat) (hp : p ≤ s.size) : (∃ i o a b q, AskOk s p i o a b q) ∨ AskBad s p := by
  rcases num_cases s p hp with ⟨k1, p2, h1⟩ | ⟨hb, _⟩
  · rcases num_cases s p2 h1.1.2.2 with ⟨k2, p3, h2⟩ | ⟨hb, _⟩
    · rcases num_cases s p3 h2.1.2.2 with ⟨k3, p4, h3⟩ | ⟨hb, _⟩
      · rcases num_cases s p4 h3.1.2.2 with ⟨k4, p5, h4⟩ | ⟨hb, _⟩
        · exact .inl ⟨k1, k2, k3, k4, p5, ⟨h1.1.2.1, h2.1.2.1, h3.1.2.1, h4.1.2.1⟩, h4.1.2.2, p2, p3, p4, h1.1.1, h2.1.1, h3.1.1, h4.1.1⟩
        · exact .inr (.inr ⟨k1, p2, h1.1, .inr ⟨k2, p3, h2.1, .inr ⟨k3, p4, h3.1, hb⟩⟩⟩)
      · exact .inr (.inr ⟨k1, p2, h1.1, .inr ⟨k2, p3, h2.1, .inl hb⟩⟩)
    · exact .inr (.inr ⟨k1, p2, h1.1, .inl hb⟩)
  · exact .inr (.inl hb)
theorem nx_step {L M : List UInt8} {k m : Nat} {st : Option (List UInt8)} (h : nx pN (some L) = (k, some M)) (h' : nx pN (some L) = (m, st)) : m = k ∧ st = some M := by
  rw [h] at h'
  simp only [Prod.mk.injEq] at h'
  exact ⟨h'.1.symm, h'.2.symm⟩
/-- four numbers as a list has them -/
def Four (L : List UInt8) (i o a b : Nat) (M : List UInt8) : Prop := ∃ L2 L3 L4, nx pN (some L) = (i, some L2) ∧ nx pN (some L2) = (o, some L3) ∧ nx pN (some L3) = (a, some L4) ∧ nx pN (some L4) = (b, some M)
theorem Four.uniq {L M M' : List UInt8} {i o a b i' o' a' b' : Nat} (h : Four L i o a b M) (h' : Four L i' o' a' b' M') : (i' = i ∧ o' = o ∧ a' = a ∧ b' = b) ∧ M' = M := by
  obtain ⟨L2, L3, L4, e1, e2, e3, e4⟩ := h
  obtain ⟨M2, M3, M4, f1, f2, f3, f4⟩ := h'
  obtain ⟨g1, h1⟩ := nx_step e1 f1
  cases h1
  obtain ⟨g2, h2⟩ := nx_step e2 f2
  cases h2
  obtain ⟨g3, h3⟩ := nx_step e3 f3
  cases h3
  obtain ⟨g4, h4⟩ := nx_step e4 f4
  cases h4
  exact ⟨⟨g1, g2, g3, g4⟩, rfl⟩
theorem AskOk.four {s : ByteArray} {p i o a b q : Nat} (h : AskOk s p i o a b q) : Four (from_ s p) i o a b (from_ s q) := by
  obtain ⟨p2, p3, p4, e⟩ := h.r
  exact ⟨_, _, _, e⟩
theorem AskBad.not_four {s : ByteArray} {p : Nat} (hb : AskBad s p) {i o a b : Nat} {M : List UInt8} (h : Four (from_ s p) i o a b M) (k : i ≤ 100000 ∧ o ≤ 100000 ∧ a ≤ 100000 ∧ b ≤ 100000) : False := by
  obtain ⟨L2, L3, L4, e1, e2, e3, e4⟩ := h
  have nb : ∀ {p k : Nat} {M : List UInt8}, nx pN (some (from_ s p)) = (k, some M) → k ≤ 100000 → ¬ NumBad s p := fun e hk hb => by
    unfold NumBad at hb
    rw [e] at hb
    rcases hb with hb | hb
    · cases hb
    · dsimp only at hb; omega
  rcases hb with hb | ⟨k1, p2, h1, hb⟩
  · exact nb e1 k.1 hb
  · obtain ⟨_, g⟩ := nx_step e1 h1.1
    cases g
    rcases hb with hb | ⟨k2, p3, h2, hb⟩
    · exact nb e2 k.2.1 hb
    · obtain ⟨_, g⟩ := nx_step e2 h2.1
      cases g
      rcases hb with hb | ⟨k3, p4, h3, hb⟩
      · exact nb e3 k.2.2.1 hb
      · obtain ⟨_, g⟩ := nx_step e3 h3.1
        cases g
        exact nb e4 k.2.2.2 hb
theorem ask_yes (n : Int) (s : ByteArray) (hs : s.size ≤ 1048576) (p i o a b q : Nat) (hk : AskOk s p i o a b q) (G : Nat) (w : World) (h : RrAt w G n s p) :
    Calls Tryz.prog 60 #[.pointer (some ⟨G, 0, none⟩)] w fun e w' => e = .returned (.agg #[.int .i64 (i : Int), .int .i64 (o : Int), .int .i64 (a : Int), .int .i64 (b : Int)]) ∧ RrAt w' G n s q ∧ w.grownBy w' (some G) := by
  refine (ask_any n s hs p G w h).mono ?_
  rintro e w' ⟨⟨i', o', a', b', q', hk', he, hR⟩ | ⟨hb, _⟩, hg⟩
  · obtain ⟨⟨rfl, rfl, rfl, rfl⟩, e5⟩ := hk.four.uniq hk'.four
    obtain rfl := from_inj hk'.le hk.le e5
    exact ⟨he, hR, hg⟩
  · exact (hb.not_four hk.four hk.bd).elim
theorem ask_no (n : Int) (s : ByteArray) (hs : s.size ≤ 1048576) (p : Nat) (hb : AskBad s p) (G : Nat) (w : World) (h : RrAt w G n s p) :
    Calls Tryz.prog 60 #[.pointer (some ⟨G, 0, none⟩)] w fun e w' => e = .panicked PV ∧ w.grownBy w' (some G) := by
  refine (ask_any n s hs p G w h).mono ?_
  rintro e w' ⟨⟨i', o', a', b', q', hk', he, hR⟩ | ⟨_, he⟩, hg⟩
  · exact (hb.not_four hk'.four hk'.bd).elim
  · exact ⟨he, hg⟩
theorem n5_le {x : Int} (h : N5 x) : x.toNat ≤ 100000 := by unfold N5 at h; omega
theorem isA_cases (n : Int) (T : List UInt8) : ∃ r, IsA n T r := by
  by_cases h : ∃ a, aB n a = true ∧ aText a = T
  · obtain ⟨a, ha⟩ := h
    exact ⟨some a, ha⟩
  · exact ⟨none, fun a ha e => h ⟨a, ha, e⟩⟩
theorem isO_cases (n : Int) (T : List UInt8) : ∃ r, IsO n T r := by
  by_cases h : ∃ a, oB n a = true ∧ oText a = T
  · obtain ⟨a, ha⟩ := h
    exact ⟨some a, ha⟩
  · exact ⟨none, fun a ha e => h ⟨a, ha, e⟩⟩
theorem answer_at (n : Int) (s : ByteArray) (hs : s.size ≤ 1048576) (p k j : Nat) (hk : ShOk s p k j) (r : Option AnsV) (hr : IsA n ((from_ s j).take k) r) (G : Nat) (w : World) (h : RrAt w G n s p) :
    Calls Tryz.prog 62 #[.pointer (some ⟨G, 0, none⟩)] w fun e w' => RsA w w' G n s (j + k) e r := by
  refine (answer_yes n s hs p k j hk G w h).mono ?_
  rintro e w' ⟨r', hr', h'⟩
  rw [extract_list] at hr'
  rw [IsA.uniq hr hr']
  exact h'
theorem order_at (n : Int) (s : ByteArray) (hs : s.size ≤ 1048576) (p k j : Nat) (hk : ShOk s p k j) (r : Option OrdV) (hr : IsO n ((from_ s j).take k) r) (G : Nat) (w : World) (h : RrAt w G n s p) :
    Calls Tryz.prog 63 #[.pointer (some ⟨G, 0, none⟩)] w fun e w' => RsO w w' G n s (j + k) e r := by
  refine (order_yes n s hs p k j hk G w h).mono ?_
  rintro e w' ⟨r', hr', h'⟩
  rw [extract_list] at hr'
  rw [IsO.uniq hr hr']
  exact h'
section
variable {n : Int} {s : ByteArray}
theorem no_first {L : List UInt8} (h : ∀ c M, L = c :: M → c ≠ 1 ∧ c ≠ 2 ∧ c ≠ 3) : IsR n L none := by
  intro r hr e
  obtain ⟨c, M, rfl, hc⟩ := cand0 hr e
  have := h c M rfl
  rcases hc with ⟨h, _⟩ | ⟨h, _⟩ | ⟨h, _⟩
  · exact this.1 h
  · exact this.2.1 h
  · exact this.2.2 h
theorem no1_bad (hb : AskBad s 1) : IsR n (1 :: from_ s 1) none := by
  intro r hr e
  obtain ⟨L2, L3, L4, h, ⟨a1, a2, a3, a4⟩, _⟩ := cand1 hr e
  exact hb.not_four ⟨_, _, _, h⟩ ⟨n5_le a1, n5_le a2, n5_le a3, n5_le a4⟩
theorem no1_end {i o a b q : Nat} (hk : AskOk s 1 i o a b q) (hq : q ≠ s.size) : IsR n (1 :: from_ s 1) none := by
  intro r hr e
  obtain ⟨L2, L3, L4, h, _⟩ := cand1 hr e
  have := (hk.four.uniq ⟨_, _, _, h⟩).2
  exact hq (from_nil hk.le this.symm)
theorem yes1_end {i o a b q : Nat} (hk : AskOk s 1 i o a b q) (hq : q = s.size) : IsR n (1 :: from_ s 1) (some ⟨1, i, o, a, b, 0, zA, zO⟩) := by
  obtain ⟨p2, p3, p4, e1, e2, e3, e4⟩ := hk.r
  subst hq
  rw [from_end] at e4
  exact yes1 e1 e2 e3 e4 hk.bd.1 hk.bd.2.1 hk.bd.2.2.1 hk.bd.2.2.2
theorem no2_num (hb : NumBad s 1) : IsR n (2 :: from_ s 1) none := by
  intro r hr e
  obtain ⟨L2, T, ⟨h1, _⟩, _, _, h5, _⟩ := cand2 hr e
  unfold NumBad at hb
  rw [h1] at hb
  have := n5_le h5
  rcases hb with hb | hb
  · cases hb
  · dsimp only at hb; omega
/-- a short text to the end of the text -/
theorem sh_end {p m : Nat} {T : List UInt8} (hp : p ≤ s.size) (h : nx pN (some (from_ s p)) = (T.length, some T)) (hm : T.length ≤ 300) : ¬ ShBad s p ∧ ∀ k j, ShOk s p k j → j + k = s.size ∧ (from_ s j).take k = T ∧ from_ s j = T ∧ k = T.length ∧ m = m := by
  have key : ∀ k j, rv p (from_ s p) = some (k, j) → k = T.length ∧ from_ s j = T ∧ j + k = s.size := fun k j hr => by
    obtain ⟨h1, h2, _⟩ := nx_rv_some hp hr
    obtain ⟨g1, g2⟩ := nx_step h h1
    simp only [Option.some.injEq] at g2
    refine ⟨g1, g2, ?_⟩
    have := congrArg List.length g2
    rw [from_length] at this
    omega
  refine ⟨fun hb => ?_, fun k j hk => ?_⟩
  · rcases hb with hr | ⟨k, j, hr, hb⟩
    · rw [nx_rv_none hr] at h
      simp at h
    · obtain ⟨h1, h2, h3⟩ := key k j hr
      omega
  · obtain ⟨h1, h2, h3⟩ := key k j hk.1
    refine ⟨h3, ?_, h2, h1, rfl⟩
    rw [h2, h1, List.take_length]
theorem no2_sh {k p2 : Nat} (hk : NumOk s 1 k p2) (hb : ShBad s p2) : IsR n (2 :: from_ s 1) none := by
  intro r hr e
  obtain ⟨L2, T, ⟨h1, h2, _, h4⟩, _⟩ := cand2 hr e
  obtain ⟨_, g⟩ := nx_step h1 hk.1
  cases g
  exact (sh_end (m := 0) hk.2.2 h2 h4).1 hb
theorem no2_ans {k p2 k' j : Nat} (hk : NumOk s 1 k p2) (hs : ShOk s p2 k' j) (hA : IsA n ((from_ s j).take k') none) : IsR n (2 :: from_ s 1) none := by
  intro r hr e
  obtain ⟨L2, T, ⟨h1, h2, h3, h4⟩, _, _, _, h6, _⟩ := cand2 hr e
  obtain ⟨_, g⟩ := nx_step h1 hk.1
  cases g
  have := (sh_end (m := 0) hk.2.2 h2 h4).2 k' j hs
  rw [this.2.1] at hA
  exact hA _ h6 h3.symm
theorem no2_end {k p2 k' j : Nat} (hk : NumOk s 1 k p2) (hs : ShOk s p2 k' j) (hq : j + k' ≠ s.size) : IsR n (2 :: from_ s 1) none := by
  intro r hr e
  obtain ⟨L2, T, ⟨h1, h2, h3, h4⟩, _⟩ := cand2 hr e
  obtain ⟨_, g⟩ := nx_step h1 hk.1
  cases g
  exact hq ((sh_end (m := 0) hk.2.2 h2 h4).2 k' j hs).1
theorem tail_nx {p k j : Nat} (hp : p ≤ s.size) (hs : ShOk s p k j) (hq : j + k = s.size) : nx pN (some (from_ s p)) = (((from_ s j).take k).length, some ((from_ s j).take k)) := by
  obtain ⟨h1, h2, _⟩ := nx_rv_some hp hs.1
  have hl : (from_ s j).length = k := by rw [from_length]; omega
  have ht : (from_ s j).take k = from_ s j := List.take_of_length_le (by omega)
  rw [ht, h1, hl]
theorem yes2_end {k p2 k' j : Nat} {a : AnsV} (hk : NumOk s 1 k p2) (hs : ShOk s p2 k' j) (hA : IsA n ((from_ s j).take k') (some a)) (hq : j + k' = s.size) : IsR n (2 :: from_ s 1) (some ⟨2, 0, 0, 0, 0, k, a, zO⟩) :=
  yes2 hk.1 (tail_nx hk.2.2 hs hq) hk.2.1 hA
theorem no3_sh (h0 : 1 ≤ s.size) (hb : ShBad s 1) : IsR n (3 :: from_ s 1) none := by
  intro r hr e
  obtain ⟨T, ⟨h2, _, h4⟩, _⟩ := cand3 hr e
  exact (sh_end (m := 0) h0 h2 h4).1 hb
theorem no3_ord {k' j : Nat} (h0 : 1 ≤ s.size) (hs : ShOk s 1 k' j) (hA : IsO n ((from_ s j).take k') none) : IsR n (3 :: from_ s 1) none := by
  intro r hr e
  obtain ⟨T, ⟨h2, h3, h4⟩, _, _, _, _, h6⟩ := cand3 hr e
  have := (sh_end (m := 0) h0 h2 h4).2 k' j hs
  rw [this.2.1] at hA
  exact hA _ h6 h3.symm
theorem no3_end {k' j : Nat} (h0 : 1 ≤ s.size) (hs : ShOk s 1 k' j) (hq : j + k' ≠ s.size) : IsR n (3 :: from_ s 1) none := by
  intro r hr e
  obtain ⟨T, ⟨h2, h3, h4⟩, _⟩ := cand3 hr e
  exact hq ((sh_end (m := 0) h0 h2 h4).2 k' j hs).1
theorem yes3_end {k' j : Nat} {a : OrdV} (h0 : 1 ≤ s.size) (hs : ShOk s 1 k' j) (hA : IsO n ((from_ s j).take k') (some a)) (hq : j + k' = s.size) : IsR n (3 :: from_ s 1) (some ⟨3, 0, 0, 0, 0, 0, zA, a⟩) :=
  yes3 (tail_nx h0 hs hq) hA
end
end Go.Proofs.YtcieanhbipbhgaaGreatDoor
