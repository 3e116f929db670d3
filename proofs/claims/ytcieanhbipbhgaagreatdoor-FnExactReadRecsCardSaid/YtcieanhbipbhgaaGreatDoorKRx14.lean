/- The program's reader of records: a whole record. -/
import Derived.Test.YtcieanhbipbhgaaGreatDoorKRw14
namespace Go.Proofs.YtcieanhbipbhgaaGreatDoor
open Go.RowKit Vt

/-- a record's cells -/
abbrev recC (r : RecV) (a1 : Option Addr) (k1 c1 : Nat) (a2 : Option Addr) (k2 c2 : Nat) (a3 : Option Addr) (k3 c3 : Nat) : Array Value :=
  #[.int .i64 r.kind, .int .i64 r.id, .int .i64 r.op, .int .i64 r.a, .int .i64 r.b, .int .i64 r.sh, .int .i64 r.an.num, .bool r.an.ok, .slice a1 k1 c1, .slice a2 k2 c2, .int .i64 r.o.num, .int .i64 r.o.op, .slice a3 k3 c3, .int .i64 r.o.v]
/-- the lists of a record are new -/
def RcR (w' : World) (B : Nat) (r : RecV) (a1 : Option Addr) (k1 c1 : Nat) (a2 : Option Addr) (k2 c2 : Nat) (a3 : Option Addr) (k3 c3 : Nat) : Prop :=
  (w'.ownsRow B 79 2 (.slice a1 k1 c1) k1 (ecells r.an.es) ∧ w'.ownsRow B 3 1 (.slice a2 k2 c2) k2 (ic r.an.ls) ∧ w'.ownsRow B 79 2 (.slice a3 k3 c3) k3 (ecells r.o.es)) ∧ (k1 ≤ 100 ∧ k2 ≤ 100 ∧ k3 ≤ 100) ∧ (k1 = 0 ∧ a1 = none ∨ k3 = 0 ∧ a3 = none)
/-- what the reader answers: the record, or a panic -/
def RcA (w w' : World) (G : Nat) (e : Ending) : Option RecV → Prop
  | none => e = .panicked PV ∧ w.grownBy w' (some G)
  | some r => (∃ (a1 : Option Addr) (k1 c1 : Nat) (a2 : Option Addr) (k2 c2 : Nat) (a3 : Option Addr) (k3 c3 : Nat), e = .returned (.agg (recC r a1 k1 c1 a2 k2 c2 a3 k3 c3)) ∧ RcR w' w.heap.size r a1 k1 c1 a2 k2 c2 a3 k3 c3) ∧ w.grownBy w' (some G)
theorem nilR (w : World) (B e s : Nat) : w.ownsRow B e s (.slice none 0 0) 0 [] := World.ownsRow_nil _ _ _ _
set_option maxRecDepth 100000 in
set_option maxHeartbeats 8000000 in
theorem record_nil (n : Int) (s : ByteArray) (hs : s.size ≤ 1048576) (hz : s.size = 0) (G : Nat) (w : World) (h : RrAt w G n s 0) :
    Calls Tryz.prog 48 #[.pointer (some ⟨G, 0, none⟩)] w fun e w' => ∃ r, IsR n s.data.toList r ∧ RcA w w' G e r := by
  have HNy := hideIt (need_yes G)
  have HNn := hideIt (need_no G)
  obtain ⟨W, hW⟩ : ∃ W, W = w.alloc (.cells #[.int .i64 0, .int .i64 0, .int .i64 0, .int .i64 0, .int .i64 0, .int .i64 0, .int .i64 0, .bool false, .slice none 0 0, .slice none 0 0, .int .i64 0, .int .i64 0, .slice none 0 0, .int .i64 0] 40) := ⟨_, rfl⟩
  have bW : Below w.heap.size w W := by rw [hW]; exact (Below.refl _ _).alloc (Nat.le_refl _) _
  have HKd := hideIt (kind_no n s hs G W (by rw [hz]; exact h.below bW))
  have HB := hideIt (gr_below bW (some G))
  have HI : Hid (IsR n s.data.toList none) := no_first (fun c M e => by
    have := congrArg List.length e
    have h2 : s.data.toList.length = s.size := by rw [Array.length_toList]; rfl
    rw [h2, hz] at this
    simp at this)
  clear h bW
  go_enter Tryz.func48, Tryz.ntmps48
  go_upto_region 1 with fail
  rw [← hW]
  clear hW
  go_wp2_with (go_at_call 59; refine HKd.out.mono ?_; rintro e z ⟨rfl, gg⟩; refine Hid.out ?_)
  refine (show ∀ {p : Prop}, p → Hid p from fun h => h) ?_
  exact ⟨rfl, none, HI.out, rfl, gr_trans HB.out gg⟩
set_option maxRecDepth 100000 in
set_option maxHeartbeats 8000000 in
theorem record_other (n : Int) (s : ByteArray) (hs : s.size ≤ 1048576) (hz : 0 < s.size) (kk : Nat) (hc : (s[0]).toNat = kk) (h1 : kk ≠ 1) (h2 : kk ≠ 2) (h3 : kk ≠ 3) (G : Nat) (w : World) (h : RrAt w G n s 0) :
    Calls Tryz.prog 48 #[.pointer (some ⟨G, 0, none⟩)] w fun e w' => ∃ r, IsR n s.data.toList r ∧ RcA w w' G e r := by
  have HNy := hideIt (need_yes G)
  have HNn := hideIt (need_no G)
  have HI : Hid (IsR n s.data.toList none) := no_first (fun c M e => by
    rw [L_at hz rfl] at e
    simp only [List.cons.injEq] at e
    rw [← e.1]
    exact ⟨fun x => h1 (by rw [← hc, x]; rfl), fun x => h2 (by rw [← hc, x]; rfl), fun x => h3 (by rw [← hc, x]; rfl)⟩)
  have d1 : (((kk : Nat) : Int) == 1) = false := by simp; omega
  have d2 : (((kk : Nat) : Int) == 2) = false := by simp; omega
  have d3 : (((kk : Nat) : Int) == 3) = false := by simp; omega
  obtain ⟨W, hW⟩ : ∃ W, W = w.alloc (.cells #[.int .i64 0, .int .i64 0, .int .i64 0, .int .i64 0, .int .i64 0, .int .i64 0, .int .i64 0, .bool false, .slice none 0 0, .slice none 0 0, .int .i64 0, .int .i64 0, .slice none 0 0, .int .i64 0] 40) := ⟨_, rfl⟩
  have bW : Below w.heap.size w W := by rw [hW]; exact (Below.refl _ _).alloc (Nat.le_refl _) _
  have X0 : BxQ W w.heap.size 40 #[.int .i64 0, .int .i64 0, .int .i64 0, .int .i64 0, .int .i64 0, .int .i64 0, .int .i64 0, .bool false, .slice none 0 0, .slice none 0 0, .int .i64 0, .int .i64 0, .slice none 0 0, .int .i64 0] := by rw [hW]; exact BxQ.new _ _ _
  have hGw := h.lt
  have HKd := hideIt (kind_yes n s hs 0 hz G W (h.below bW))
  rw [hc] at HKd
  have HB := hideIt (gr_below bW (some G))
  have HX0 := hideIt X0
  clear h bW X0
  go_enter Tryz.func48, Tryz.ntmps48
  go_upto_region 1 with fail
  rw [← hW]
  clear hW
  go_wp2_with (go_at_call 59; refine HKd.out.mono ?_; rintro e u1 ⟨rfl, R1, g1⟩; refine Hid.out ?_)
  refine (show ∀ {p : Prop}, p → Hid p from fun h => h) ?_
  obtain ⟨V1, hV1⟩ : ∃ V1, V1 = u1.alloc (.cells #[.int .i64 (kk : Int), .int .i64 0, .int .i64 0, .int .i64 0, .int .i64 0, .int .i64 0, .int .i64 0, .bool false, .slice none 0 0, .slice none 0 0, .int .i64 0, .int .i64 0, .slice none 0 0, .int .i64 0] 40) := ⟨_, rfl⟩
  have b1 : Below u1.heap.size u1 V1 := by rw [hV1]; exact (Below.refl _ _).alloc (Nat.le_refl _) _
  have B1 : BxQ V1 u1.heap.size 40 #[.int .i64 (kk : Int), .int .i64 0, .int .i64 0, .int .i64 0, .int .i64 0, .int .i64 0, .int .i64 0, .bool false, .slice none 0 0, .slice none 0 0, .int .i64 0, .int .i64 0, .slice none 0 0, .int .i64 0] := by rw [hV1]; exact BxQ.new _ _ _
  have Y1 := (HX0.out.gr g1 (by simp; omega)).gr (gr_below b1 none) (by simp)
  have S1 := R1.below b1
  have HG1 := hideIt (gr_trans (gr_trans HB.out g1) (gr_below b1 (some G)))
  have lR : w.heap.size < u1.heap.size := Nat.lt_of_lt_of_le HX0.out.lt g1.size
  clear HKd HX0 HB R1 g1 b1
  go_upto_region 2 with fail
  rw [← hV1]
  clear hV1
  generalize u1.heap.size = bR at *
  have q0 := B1.at 0 rfl
  clear B1 Y1
  have HC := hideIt (HNn.out V1)
  go_wp2_with (go_at_call 64; refine HC.out.mono ?_; rintro e z ⟨rfl, hw1⟩; refine Hid.out ?_)
  refine (show ∀ {p : Prop}, p → Hid p from fun h => h) ?_
  subst hw1
  exact ⟨rfl, none, HI.out, rfl, HG1.out⟩
set_option maxRecDepth 100000 in
set_option maxHeartbeats 8000000 in
theorem record_one (n : Int) (s : ByteArray) (hs : s.size ≤ 1048576) (hz : 0 < s.size) (hc : (s[0]).toNat = 1) (G : Nat) (w : World) (h : RrAt w G n s 0) :
    Calls Tryz.prog 48 #[.pointer (some ⟨G, 0, none⟩)] w fun e w' => ∃ r, IsR n s.data.toList r ∧ RcA w w' G e r := by
  have HNy := hideIt (need_yes G)
  have HNn := hideIt (need_no G)
  have hL : s.data.toList = 1 :: from_ s 1 := L_at hz (by apply UInt8.toNat_inj.1; rw [hc]; rfl)
  obtain ⟨W, hW⟩ : ∃ W, W = w.alloc (.cells #[.int .i64 0, .int .i64 0, .int .i64 0, .int .i64 0, .int .i64 0, .int .i64 0, .int .i64 0, .bool false, .slice none 0 0, .slice none 0 0, .int .i64 0, .int .i64 0, .slice none 0 0, .int .i64 0] 40) := ⟨_, rfl⟩
  have bW : Below w.heap.size w W := by rw [hW]; exact (Below.refl _ _).alloc (Nat.le_refl _) _
  have X0 : BxQ W w.heap.size 40 #[.int .i64 0, .int .i64 0, .int .i64 0, .int .i64 0, .int .i64 0, .int .i64 0, .int .i64 0, .bool false, .slice none 0 0, .slice none 0 0, .int .i64 0, .int .i64 0, .slice none 0 0, .int .i64 0] := by rw [hW]; exact BxQ.new _ _ _
  have hGw := h.lt
  have HKd := hideIt (kind_yes n s hs 0 hz G W (h.below bW))
  rw [hc, show (((1 : Nat) : Nat) : Int) = 1 from rfl] at HKd
  have HB := hideIt (gr_below bW (some G))
  have HX0 := hideIt X0
  clear h bW X0
  go_enter Tryz.func48, Tryz.ntmps48
  go_upto_region 1 with fail
  rw [← hW]
  clear hW
  go_wp2_with (go_at_call 59; refine HKd.out.mono ?_; rintro e u1 ⟨rfl, R1, g1⟩; refine Hid.out ?_)
  refine (show ∀ {p : Prop}, p → Hid p from fun h => h) ?_
  obtain ⟨V1, hV1⟩ : ∃ V1, V1 = u1.alloc (.cells #[.int .i64 1, .int .i64 0, .int .i64 0, .int .i64 0, .int .i64 0, .int .i64 0, .int .i64 0, .bool false, .slice none 0 0, .slice none 0 0, .int .i64 0, .int .i64 0, .slice none 0 0, .int .i64 0] 40) := ⟨_, rfl⟩
  have b1 : Below u1.heap.size u1 V1 := by rw [hV1]; exact (Below.refl _ _).alloc (Nat.le_refl _) _
  have B1 : BxQ V1 u1.heap.size 40 #[.int .i64 1, .int .i64 0, .int .i64 0, .int .i64 0, .int .i64 0, .int .i64 0, .int .i64 0, .bool false, .slice none 0 0, .slice none 0 0, .int .i64 0, .int .i64 0, .slice none 0 0, .int .i64 0] := by rw [hV1]; exact BxQ.new _ _ _
  have Y1 := (HX0.out.gr g1 (by simp; omega)).gr (gr_below b1 none) (by simp)
  have S1 := R1.below b1
  have HG1 := hideIt (gr_trans (gr_trans HB.out g1) (gr_below b1 (some G)))
  have lR : w.heap.size < u1.heap.size := Nat.lt_of_lt_of_le HX0.out.lt g1.size
  clear HKd HX0 HB R1 g1 b1
  go_upto_region 2 with fail
  rw [← hV1]
  clear hV1
  generalize u1.heap.size = bR at *
  have q0 := B1.at 0 rfl
  have hzs : 1 ≤ s.size := hz
  rcases ask_cases s 1 hzs with ⟨i, o, a, b, q, hk⟩ | hb
  · have HC := hideIt (ask_yes n s hs 1 i o a b q hk G V1 S1)
    have HK := hideIt hk
    have HB1 := hideIt B1
    have HY1 := hideIt Y1
    have hql := hk.le
    clear hk B1 Y1 S1
    go_wp2_with (go_at_call 60; refine HC.out.mono ?_; rintro e u2 ⟨rfl, R2, g2⟩; refine Hid.out ?_)
    refine (show ∀ {p : Prop}, p → Hid p from fun h => h) ?_
    have lb := HB1.out.lt
    have B2 := HB1.out.gr g2 (by simp; omega)
    have Y2 := HY1.out.gr g2 (by simp; omega)
    have HG2_ := hideIt (gr_trans HG1.out g2)
    have x0 := B2.at 0 rfl
    have x1 := B2.at 1 rfl
    have x2 := B2.at 2 rfl
    have x3 := B2.at 3 rfl
    have x4 := B2.at 4 rfl
    have x5 := B2.at 5 rfl
    have x6 := B2.at 6 rfl
    have x7 := B2.at 7 rfl
    have x8 := B2.at 8 rfl
    have x9 := B2.at 9 rfl
    have x10 := B2.at 10 rfl
    have x11 := B2.at 11 rfl
    have x12 := B2.at 12 rfl
    have x13 := B2.at 13 rfl
    have z0 := B2.frozen 0
    have z1 := B2.frozen 1
    have z2 := B2.frozen 2
    have z3 := B2.frozen 3
    have z4 := B2.frozen 4
    have z5 := B2.frozen 5
    have z6 := B2.frozen 6
    have z7 := B2.frozen 7
    have z8 := B2.frozen 8
    have z9 := B2.frozen 9
    have z10 := B2.frozen 10
    have z11 := B2.frozen 11
    have z12 := B2.frozen 12
    have z13 := B2.frozen 13
    obtain ⟨V2, hV2⟩ : ∃ V2, V2 = ((((u2.setCell ⟨bR, 1, none⟩ (.int .i64 (i : Int))).setCell ⟨bR, 2, none⟩ (.int .i64 (o : Int))).setCell ⟨bR, 3, none⟩ (.int .i64 (a : Int))).setCell ⟨bR, 4, none⟩ (.int .i64 (b : Int))) := ⟨_, rfl⟩
    have e2 : V2 = setQ u2 bR 1 [.int .i64 (i : Int), .int .i64 (o : Int), .int .i64 (a : Int), .int .i64 (b : Int)] := hV2
    have B3 : BxQ V2 bR 40 #[.int .i64 1, .int .i64 (i : Int), .int .i64 (o : Int), .int .i64 (a : Int), .int .i64 (b : Int), .int .i64 0, .int .i64 0, .bool false, .slice none 0 0, .slice none 0 0, .int .i64 0, .int .i64 0, .slice none 0 0, .int .i64 0] := by rw [e2]; exact B2.setQ 1 [.int .i64 (i : Int), .int .i64 (o : Int), .int .i64 (a : Int), .int .i64 (b : Int)]
    have Y3 : BxQ V2 w.heap.size 40 #[.int .i64 0, .int .i64 0, .int .i64 0, .int .i64 0, .int .i64 0, .int .i64 0, .int .i64 0, .bool false, .slice none 0 0, .slice none 0 0, .int .i64 0, .int .i64 0, .slice none 0 0, .int .i64 0] := by rw [e2]; exact Y2.setQO 1 _ (by omega)
    have S3 : RrAt V2 G n s q := by rw [e2]; exact R2.grown (gr_setQ 1 _) (by simp; omega)
    have HG3 : Hid (w.grownBy V2 (some G)) := by show World.grownBy _ _ _; rw [e2]; exact gr_own HG2_.out (gr_setQ 1 _) (fun q hq => by simp at hq; omega)
    clear e2 B2 Y2 R2 g2 HB1 HY1 HC
    by_cases hq : q = s.size
    · have e1 : (((q : Int) : Int) == (s.size : Int)) = true := by simp; omega
      have cc1 := S3.c1
      have cc2 := S3.c2
      go_upto_region 11 with fail
      rw [← hV2]
      clear hV2 x0 x1 x2 x3 x4 x5 x6 x7 x8 x9 x10 x11 x12 x13 z0 z1 z2 z3 z4 z5 z6 z7 z8 z9 z10 z11 z12 z13
      go_region_held3 (fun u => u.cell? ⟨G, 1, none⟩ = some (.string s) ∧ u.cell? ⟨G, 2, none⟩ = some (.int .i64 (q : Int))) (exact ⟨cc1, cc2⟩)
        ((go_at_call 64; refine (HNy.out _).mono ?_; rintro e z ⟨rfl, rfl⟩))
      obtain ⟨V9, hV9⟩ : ∃ V9, V9 = V2.drew := ⟨_, rfl⟩
      have B9 : BxQ V9 bR 40 #[.int .i64 1, .int .i64 (i : Int), .int .i64 (o : Int), .int .i64 (a : Int), .int .i64 (b : Int), .int .i64 0, .int .i64 0, .bool false, .slice none 0 0, .slice none 0 0, .int .i64 0, .int .i64 0, .slice none 0 0, .int .i64 0] := by rw [hV9]; exact B3
      have Y9 : BxQ V9 w.heap.size 40 #[.int .i64 0, .int .i64 0, .int .i64 0, .int .i64 0, .int .i64 0, .int .i64 0, .int .i64 0, .bool false, .slice none 0 0, .slice none 0 0, .int .i64 0, .int .i64 0, .slice none 0 0, .int .i64 0] := by rw [hV9]; exact Y3
      have HG9 : Hid (w.grownBy V9 (some G)) := by show World.grownBy _ _ _; rw [hV9]; exact gr_trans HG3.out (gr_drew _ _)
      have m0 := B9.at 0 rfl
      have m1 := B9.at 1 rfl
      have m2 := B9.at 2 rfl
      have m3 := B9.at 3 rfl
      have m4 := B9.at 4 rfl
      have m5 := B9.at 5 rfl
      have m6 := B9.at 6 rfl
      have m7 := B9.at 7 rfl
      have m8 := B9.at 8 rfl
      have m9 := B9.at 9 rfl
      have m10 := B9.at 10 rfl
      have m11 := B9.at 11 rfl
      have m12 := B9.at 12 rfl
      have m13 := B9.at 13 rfl
      have y0 := Y9.at 0 rfl
      have y1 := Y9.at 1 rfl
      have y2 := Y9.at 2 rfl
      have y3 := Y9.at 3 rfl
      have y4 := Y9.at 4 rfl
      have y5 := Y9.at 5 rfl
      have y6 := Y9.at 6 rfl
      have y7 := Y9.at 7 rfl
      have y8 := Y9.at 8 rfl
      have y9 := Y9.at 9 rfl
      have y10 := Y9.at 10 rfl
      have y11 := Y9.at 11 rfl
      have y12 := Y9.at 12 rfl
      have y13 := Y9.at 13 rfl
      have f0 := Y9.frozen 0
      have f1 := Y9.frozen 1
      have f2 := Y9.frozen 2
      have f3 := Y9.frozen 3
      have f4 := Y9.frozen 4
      have f5 := Y9.frozen 5
      have f6 := Y9.frozen 6
      have f7 := Y9.frozen 7
      have f8 := Y9.frozen 8
      have f9 := Y9.frozen 9
      have f10 := Y9.frozen 10
      have f11 := Y9.frozen 11
      have f12 := Y9.frozen 12
      have f13 := Y9.frozen 13
      rw [← hV9]
      clear cc1 cc2 hV9
      obtain ⟨V, hV⟩ : ∃ V, V = ((((((((((((((V9.setCell ⟨w.heap.size, 0, none⟩ (.int .i64 1)).setCell ⟨w.heap.size, 1, none⟩ (.int .i64 (i : Int))).setCell ⟨w.heap.size, 2, none⟩ (.int .i64 (o : Int))).setCell ⟨w.heap.size, 3, none⟩ (.int .i64 (a : Int))).setCell ⟨w.heap.size, 4, none⟩ (.int .i64 (b : Int))).setCell ⟨w.heap.size, 5, none⟩ (.int .i64 0)).setCell ⟨w.heap.size, 6, none⟩ (.int .i64 0)).setCell ⟨w.heap.size, 7, none⟩ (.bool false)).setCell ⟨w.heap.size, 8, none⟩ (.slice none 0 0)).setCell ⟨w.heap.size, 9, none⟩ (.slice none 0 0)).setCell ⟨w.heap.size, 10, none⟩ (.int .i64 0)).setCell ⟨w.heap.size, 11, none⟩ (.int .i64 0)).setCell ⟨w.heap.size, 12, none⟩ (.slice none 0 0)).setCell ⟨w.heap.size, 13, none⟩ (.int .i64 0)) := ⟨_, rfl⟩
      have eV : V = setQ V9 w.heap.size 0 [.int .i64 1, .int .i64 (i : Int), .int .i64 (o : Int), .int .i64 (a : Int), .int .i64 (b : Int), .int .i64 0, .int .i64 0, .bool false, .slice none 0 0, .slice none 0 0, .int .i64 0, .int .i64 0, .slice none 0 0, .int .i64 0] := hV
      have BR : BxQ V w.heap.size 40 #[.int .i64 1, .int .i64 (i : Int), .int .i64 (o : Int), .int .i64 (a : Int), .int .i64 (b : Int), .int .i64 0, .int .i64 0, .bool false, .slice none 0 0, .slice none 0 0, .int .i64 0, .int .i64 0, .slice none 0 0, .int .i64 0] := by rw [eV]; exact Y9.setQ 0 [.int .i64 1, .int .i64 (i : Int), .int .i64 (o : Int), .int .i64 (a : Int), .int .i64 (b : Int), .int .i64 0, .int .i64 0, .bool false, .slice none 0 0, .slice none 0 0, .int .i64 0, .int .i64 0, .slice none 0 0, .int .i64 0]
      have HG2 : Hid (w.grownBy V (some G)) := by show World.grownBy _ _ _; rw [eV]; exact gr_own HG9.out (gr_setQ 0 _) (fun q hq => by simp at hq; omega)
      have r0 := BR.at 0 rfl
      have r1 := BR.at 1 rfl
      have r2 := BR.at 2 rfl
      have r3 := BR.at 3 rfl
      have r4 := BR.at 4 rfl
      have r5 := BR.at 5 rfl
      have r6 := BR.at 6 rfl
      have r7 := BR.at 7 rfl
      have r8 := BR.at 8 rfl
      have r9 := BR.at 9 rfl
      have r10 := BR.at 10 rfl
      have r11 := BR.at 11 rfl
      have r12 := BR.at 12 rfl
      have r13 := BR.at 13 rfl
      clear eV BR B9 Y9
      go_wp2
      rw [← hV]
      clear hV
      exact bodyPost_ret (v := .agg #[.int .i64 1, .int .i64 (i : Int), .int .i64 (o : Int), .int .i64 (a : Int), .int .i64 (b : Int), .int .i64 0, .int .i64 0, .bool false, .slice none 0 0, .slice none 0 0, .int .i64 0, .int .i64 0, .slice none 0 0, .int .i64 0]) (by simp [results, Tryz.results48, go_sem, r0, r1, r2, r3, r4, r5, r6, r7, r8, r9, r10, r11, r12, r13]) rfl ⟨some _, by rw [hL]; exact yes1_end HK.out hq, ⟨none, 0, 0, none, 0, 0, none, 0, 0, rfl, ⟨nilR _ _ _ _, nilR _ _ _ _, nilR _ _ _ _⟩, ⟨by omega, by omega, by omega⟩, .inl ⟨rfl, rfl⟩⟩, HG2.out⟩
    · have e1 : (((q : Int) : Int) == (s.size : Int)) = false := by simp; omega
      have cc1 := S3.c1
      have cc2 := S3.c2
      go_upto_region 11 with fail
      rw [← hV2]
      clear hV2 x0 x1 x2 x3 x4 x5 x6 x7 x8 x9 x10 x11 x12 x13 z0 z1 z2 z3 z4 z5 z6 z7 z8 z9 z10 z11 z12 z13
      refine wp_region_held_drew (S := (fun u => u.cell? ⟨G, 1, none⟩ = some (.string s) ∧ u.cell? ⟨G, 2, none⟩ = some (.int .i64 (q : Int)))) (by kernel_rfl) ⟨cc1, cc2⟩ (fun hHeld => ?_)
      refine wpAnyH_take (i := 0) (v := ?_) rfl (by kernel_rfl) (by kernel_rfl) (by kernel_rfl) (fun _ _ _ h => h) (Or.inl ⟨by rfl, ?_⟩) (by assumption) ?_
      rotate_left
      · intro w hSw; (try dsimp only at hSw); go_simp; try with_reducible rfl
      try simp only [Act.put, List.getElem_toArray, List.getElem_cons_zero, List.setIfInBounds_toArray, List.set_cons_zero, List.set_cons_succ]
      refine wpAnyH_take (i := 1) (v := ?_) rfl (by kernel_rfl) (by kernel_rfl) (by kernel_rfl) (fun _ _ _ h => h) (Or.inl ⟨by rfl, ?_⟩) (by assumption) ?_
      rotate_left
      · intro w hSw; (try dsimp only at hSw); go_simp; try with_reducible rfl
      try simp only [Act.put, List.getElem_toArray, List.getElem_cons_succ, List.getElem_cons_zero, List.setIfInBounds_toArray, List.set_cons_zero, List.set_cons_succ]
      refine wpAnyH_take (i := 2) (v := ?_) rfl (by kernel_rfl) (by kernel_rfl) (by kernel_rfl) (fun _ _ _ h => h) (Or.inl ⟨by rfl, ?_⟩) (by assumption) ?_
      rotate_left
      · intro w hSw; (try dsimp only at hSw); go_simp; try with_reducible rfl
      try simp only [Act.put, List.getElem_toArray, List.getElem_cons_succ, List.getElem_cons_zero, List.setIfInBounds_toArray, List.set_cons_zero, List.set_cons_succ]
      refine wpAnyH_take (i := 3) (v := ?_) rfl (by kernel_rfl) (by kernel_rfl) (by kernel_rfl) (fun _ _ _ h => h) (Or.inl ⟨by rfl, ?_⟩) (by assumption) ?_
      rotate_left
      · intro w hSw; (try dsimp only at hSw); go_simp; try with_reducible rfl
      try simp only [Act.put, List.getElem_toArray, List.getElem_cons_succ, List.getElem_cons_zero, List.setIfInBounds_toArray, List.set_cons_zero, List.set_cons_succ]
      refine wpAnyH_take (i := 4) (v := ?_) rfl (by kernel_rfl) (by kernel_rfl) (by kernel_rfl) (fun _ _ _ h => h) (Or.inl ⟨by rfl, ?_⟩) (by assumption) ?_
      rotate_left
      · intro w hSw; (try dsimp only at hSw); go_simp; try with_reducible rfl
      try simp only [Act.put, List.getElem_toArray, List.getElem_cons_succ, List.getElem_cons_zero, List.setIfInBounds_toArray, List.set_cons_zero, List.set_cons_succ]
      refine wpAnyH_take (i := 5) (v := ?_) rfl (by kernel_rfl) (by kernel_rfl) (by kernel_rfl) (fun _ _ _ h => h) (Or.inl ⟨by rfl, ?_⟩) (by assumption) ?_
      rotate_left
      · intro w hSw; (try dsimp only at hSw); go_simp; try with_reducible rfl
      try simp only [Act.put, List.getElem_toArray, List.getElem_cons_succ, List.getElem_cons_zero, List.setIfInBounds_toArray, List.set_cons_zero, List.set_cons_succ]
      refine wpAnyH_take (i := 6) (v := ?_) rfl (by kernel_rfl) (by kernel_rfl) (by kernel_rfl) (fun _ _ _ h => h) (Or.inl ⟨by rfl, ?_⟩) (by assumption) ?_
      rotate_left
      · intro w hSw; (try dsimp only at hSw); go_simp; try with_reducible rfl
      try simp only [Act.put, List.getElem_toArray, List.getElem_cons_succ, List.getElem_cons_zero, List.setIfInBounds_toArray, List.set_cons_zero, List.set_cons_succ]
      refine wpAnyH_take (i := 7) (v := ?_) rfl (by kernel_rfl) (by kernel_rfl) (by kernel_rfl) (fun _ _ _ h => h) (Or.inl ⟨by rfl, ?_⟩) (by assumption) ?_
      rotate_left
      · intro w hSw; (try dsimp only at hSw); go_simp; try with_reducible rfl
      try simp only [Act.put, List.getElem_toArray, List.getElem_cons_succ, List.getElem_cons_zero, List.setIfInBounds_toArray, List.set_cons_zero, List.set_cons_succ]
      refine wpAnyH_take (i := 8) (v := ?_) rfl (by kernel_rfl) (by kernel_rfl) (by kernel_rfl) (fun _ _ _ h => h) (Or.inl ⟨by rfl, ?_⟩) (by assumption) ?_
      rotate_left
      · intro w hSw; (try dsimp only at hSw); go_simp; try with_reducible rfl
      try simp only [Act.put, List.getElem_toArray, List.getElem_cons_succ, List.getElem_cons_zero, List.setIfInBounds_toArray, List.set_cons_zero, List.set_cons_succ]
      refine wpAnyH_take (i := 9) (v := ?_) rfl (by kernel_rfl) (by kernel_rfl) (by kernel_rfl) (fun _ _ _ h => h) (Or.inl ⟨by rfl, ?_⟩) (by assumption) ?_
      rotate_left
      · intro w hSw; (try dsimp only at hSw); go_simp; try with_reducible rfl
      try simp only [Act.put, List.getElem_toArray, List.getElem_cons_succ, List.getElem_cons_zero, List.setIfInBounds_toArray, List.set_cons_zero, List.set_cons_succ]
      refine wpAnyH_take (i := 10) (v := ?_) rfl (by kernel_rfl) (by kernel_rfl) (by kernel_rfl) (fun _ _ _ h => h) (Or.inl ⟨by rfl, ?_⟩) (by assumption) ?_
      rotate_left
      · intro w hSw; (try dsimp only at hSw); go_simp; try with_reducible rfl
      try simp only [Act.put, List.getElem_toArray, List.getElem_cons_succ, List.getElem_cons_zero, List.setIfInBounds_toArray, List.set_cons_zero, List.set_cons_succ]
      refine wpAnyH_ready (rs := [11]) (by kernel_rfl) (by simp) ?_
      refine AllReadyH.cons rfl (fun K hK => ?_) AllReadyH.nil
      rw [if_pos]
      rotate_left
      · kernel_rfl
      go_wp2_with (go_at_call 64; refine (HNn.out _).mono ?_; rintro e z ⟨rfl, rfl⟩; refine Hid.out ?_)
      refine (show ∀ {p : Prop}, p → Hid p from fun h => h) ?_
      exact ⟨rfl, none, by rw [hL]; exact no1_end HK.out hq, rfl, gr_trans HG3.out (gr_drew _ _)⟩
  · have HC := hideIt (ask_no n s hs 1 hb G V1 S1)
    have HI : Hid (IsR n s.data.toList none) := by show IsR _ _ _; rw [hL]; exact no1_bad hb
    clear hb B1 Y1 S1
    go_wp2_with (go_at_call 60; refine HC.out.mono ?_; rintro e z ⟨rfl, gg⟩; refine Hid.out ?_)
    refine (show ∀ {p : Prop}, p → Hid p from fun h => h) ?_
    exact ⟨rfl, none, HI.out, rfl, gr_trans HG1.out gg⟩
set_option maxRecDepth 100000 in
set_option maxHeartbeats 8000000 in
theorem record_two (n : Int) (s : ByteArray) (hs : s.size ≤ 1048576) (hz : 0 < s.size) (hc : (s[0]).toNat = 2) (G : Nat) (w : World) (h : RrAt w G n s 0) :
    Calls Tryz.prog 48 #[.pointer (some ⟨G, 0, none⟩)] w fun e w' => ∃ r, IsR n s.data.toList r ∧ RcA w w' G e r := by
  have HNy := hideIt (need_yes G)
  have HNn := hideIt (need_no G)
  have hL : s.data.toList = 2 :: from_ s 1 := L_at hz (by apply UInt8.toNat_inj.1; rw [hc]; rfl)
  obtain ⟨W, hW⟩ : ∃ W, W = w.alloc (.cells #[.int .i64 0, .int .i64 0, .int .i64 0, .int .i64 0, .int .i64 0, .int .i64 0, .int .i64 0, .bool false, .slice none 0 0, .slice none 0 0, .int .i64 0, .int .i64 0, .slice none 0 0, .int .i64 0] 40) := ⟨_, rfl⟩
  have bW : Below w.heap.size w W := by rw [hW]; exact (Below.refl _ _).alloc (Nat.le_refl _) _
  have X0 : BxQ W w.heap.size 40 #[.int .i64 0, .int .i64 0, .int .i64 0, .int .i64 0, .int .i64 0, .int .i64 0, .int .i64 0, .bool false, .slice none 0 0, .slice none 0 0, .int .i64 0, .int .i64 0, .slice none 0 0, .int .i64 0] := by rw [hW]; exact BxQ.new _ _ _
  have hGw := h.lt
  have HKd := hideIt (kind_yes n s hs 0 hz G W (h.below bW))
  rw [hc, show (((2 : Nat) : Nat) : Int) = 2 from rfl] at HKd
  have HB := hideIt (gr_below bW (some G))
  have HX0 := hideIt X0
  clear h bW X0
  go_enter Tryz.func48, Tryz.ntmps48
  go_upto_region 1 with fail
  rw [← hW]
  clear hW
  go_wp2_with (go_at_call 59; refine HKd.out.mono ?_; rintro e u1 ⟨rfl, R1, g1⟩; refine Hid.out ?_)
  refine (show ∀ {p : Prop}, p → Hid p from fun h => h) ?_
  obtain ⟨V1, hV1⟩ : ∃ V1, V1 = u1.alloc (.cells #[.int .i64 2, .int .i64 0, .int .i64 0, .int .i64 0, .int .i64 0, .int .i64 0, .int .i64 0, .bool false, .slice none 0 0, .slice none 0 0, .int .i64 0, .int .i64 0, .slice none 0 0, .int .i64 0] 40) := ⟨_, rfl⟩
  have b1 : Below u1.heap.size u1 V1 := by rw [hV1]; exact (Below.refl _ _).alloc (Nat.le_refl _) _
  have B1 : BxQ V1 u1.heap.size 40 #[.int .i64 2, .int .i64 0, .int .i64 0, .int .i64 0, .int .i64 0, .int .i64 0, .int .i64 0, .bool false, .slice none 0 0, .slice none 0 0, .int .i64 0, .int .i64 0, .slice none 0 0, .int .i64 0] := by rw [hV1]; exact BxQ.new _ _ _
  have Y1 := (HX0.out.gr g1 (by simp; omega)).gr (gr_below b1 none) (by simp)
  have S1 := R1.below b1
  have HG1 := hideIt (gr_trans (gr_trans HB.out g1) (gr_below b1 (some G)))
  have lR : w.heap.size < u1.heap.size := Nat.lt_of_lt_of_le HX0.out.lt g1.size
  clear HKd HX0 HB R1 g1 b1
  go_upto_region 2 with fail
  rw [← hV1]
  clear hV1
  generalize u1.heap.size = bR at *
  have q0 := B1.at 0 rfl
  have hzs : 1 ≤ s.size := hz
  rcases num_cases s 1 hzs with ⟨kn, p2, hkn, hkr⟩ | ⟨hb, hr⟩
  · have HC := hideIt (number_yes n s hs 1 kn p2 hkr hkn.2.1 hkn.2.2 G V1 S1)
    have HB1 := hideIt B1
    have HY1 := hideIt Y1
    have HKN := hideIt hkn
    clear hkn hkr B1 Y1 S1
    go_wp2_with (go_at_call 61; refine HC.out.mono ?_; rintro e u2 ⟨rfl, R2, g2⟩; refine Hid.out ?_)
    refine (show ∀ {p : Prop}, p → Hid p from fun h => h) ?_
    have lb0 := HB1.out.lt
    have Bq := HB1.out.gr g2 (by simp; omega)
    have Yq := HY1.out.gr g2 (by simp; omega)
    have HGq := hideIt (gr_trans HG1.out g2)
    have xq := Bq.at 5 rfl
    have zq := Bq.frozen 5
    obtain ⟨V2, hV2⟩ : ∃ V2, V2 = u2.setCell ⟨bR, 5, none⟩ (.int .i64 (kn : Int)) := ⟨_, rfl⟩
    have B2 : BxQ V2 bR 40 #[.int .i64 2, .int .i64 0, .int .i64 0, .int .i64 0, .int .i64 0, .int .i64 (kn : Int), .int .i64 0, .bool false, .slice none 0 0, .slice none 0 0, .int .i64 0, .int .i64 0, .slice none 0 0, .int .i64 0] := by rw [hV2]; exact Bq.set 5 _
    have Y2 : BxQ V2 w.heap.size 40 #[.int .i64 0, .int .i64 0, .int .i64 0, .int .i64 0, .int .i64 0, .int .i64 0, .int .i64 0, .bool false, .slice none 0 0, .slice none 0 0, .int .i64 0, .int .i64 0, .slice none 0 0, .int .i64 0] := by rw [hV2]; exact Yq.setO _ (by omega)
    have S2 : RrAt V2 G n s p2 := by rw [hV2]; exact R2.grown (gr_set _ _ _ _) (by simp; omega)
    have HG2_ : Hid (w.grownBy V2 (some G)) := by show World.grownBy _ _ _; rw [hV2]; exact gr_own HGq.out (gr_set _ _ _ _) (fun q hq => by simp at hq; omega)
    clear Bq Yq R2 g2 HB1 HY1 HC
    go_upto_region 8 with fail
    rw [← hV2]
    clear hV2 xq zq
    have hkn := HKN.out
    rcases sh_cases s p2 with ⟨k, j, hk⟩ | hb
    · obtain ⟨ra, hr⟩ := isA_cases n ((from_ s j).take k)
      cases ra with
      | none =>
        have HC := hideIt (answer_at n s hs p2 k j hk none hr G V2 S2)
        have HI : Hid (IsR n s.data.toList none) := by show IsR _ _ _; rw [hL]; exact no2_ans hkn hk hr
        clear hr hk
        go_wp2_with (go_at_call 62; refine HC.out.mono ?_; rintro e z ⟨rfl, gg⟩; refine Hid.out ?_)
        refine (show ∀ {p : Prop}, p → Hid p from fun h => h) ?_
        exact ⟨rfl, none, HI.out, rfl, gr_trans HG2_.out gg⟩
      | some ra =>
        have HC := hideIt (answer_at n s hs p2 k j hk (some ra) hr G V2 S2)
        have HK := hideIt hk
        have HRr := hideIt hr
        have HB_ := hideIt B2
        have HY_ := hideIt Y2
        clear hk hr B2 Y2 S2
        go_wp2_with (go_at_call 62; refine HC.out.mono ?_; rintro e u3 ⟨a, k9, c, a2, k2, c2, rfl, R3, RQ, g3⟩; refine Hid.out ?_)
        refine (show ∀ {p : Prop}, p → Hid p from fun h => h) ?_
        have lb := HB_.out.lt
        have B4 := HB_.out.gr g3 (by simp; omega)
        have Y4 := HY_.out.gr g3 (by simp; omega)
        have HG4 := hideIt (gr_trans HG2_.out g3)
        have lw := HY_.out.lt
        have x0 := B4.at 0 rfl
        have x1 := B4.at 1 rfl
        have x2 := B4.at 2 rfl
        have x3 := B4.at 3 rfl
        have x4 := B4.at 4 rfl
        have x5 := B4.at 5 rfl
        have x6 := B4.at 6 rfl
        have x7 := B4.at 7 rfl
        have x8 := B4.at 8 rfl
        have x9 := B4.at 9 rfl
        have x10 := B4.at 10 rfl
        have x11 := B4.at 11 rfl
        have x12 := B4.at 12 rfl
        have x13 := B4.at 13 rfl
        have z0 := B4.frozen 0
        have z1 := B4.frozen 1
        have z2 := B4.frozen 2
        have z3 := B4.frozen 3
        have z4 := B4.frozen 4
        have z5 := B4.frozen 5
        have z6 := B4.frozen 6
        have z7 := B4.frozen 7
        have z8 := B4.frozen 8
        have z9 := B4.frozen 9
        have z10 := B4.frozen 10
        have z11 := B4.frozen 11
        have z12 := B4.frozen 12
        have z13 := B4.frozen 13
        obtain ⟨V3, hV3⟩ : ∃ V3, V3 = ((((u3.setCell ⟨bR, 6, none⟩ (.int .i64 ra.num)).setCell ⟨bR, 7, none⟩ (.bool ra.ok)).setCell ⟨bR, 8, none⟩ (.slice a k9 c)).setCell ⟨bR, 9, none⟩ (.slice a2 k2 c2)) := ⟨_, rfl⟩
        have e3 : V3 = setQ u3 bR 6 [.int .i64 ra.num, .bool ra.ok, .slice a k9 c, .slice a2 k2 c2] := hV3
        have B5 : BxQ V3 bR 40 #[.int .i64 2, .int .i64 0, .int .i64 0, .int .i64 0, .int .i64 0, .int .i64 (kn : Int), .int .i64 ra.num, .bool ra.ok, .slice a k9 c, .slice a2 k2 c2, .int .i64 0, .int .i64 0, .slice none 0 0, .int .i64 0] := by rw [e3]; exact B4.setQ 6 [.int .i64 ra.num, .bool ra.ok, .slice a k9 c, .slice a2 k2 c2]
        have Y5 : BxQ V3 w.heap.size 40 #[.int .i64 0, .int .i64 0, .int .i64 0, .int .i64 0, .int .i64 0, .int .i64 0, .int .i64 0, .bool false, .slice none 0 0, .slice none 0 0, .int .i64 0, .int .i64 0, .slice none 0 0, .int .i64 0] := by rw [e3]; exact Y4.setQO 6 _ (by omega)
        have S5 : RrAt V3 G n s (j + k) := by rw [e3]; exact R3.grown (gr_setQ 6 _) (by simp; omega)
        have HG5 : Hid (w.grownBy V3 (some G)) := by show World.grownBy _ _ _; rw [e3]; exact gr_own HG4.out (gr_setQ 6 _) (fun q hq => by simp at hq; omega)
        have RW : V3.ownsRow (w.heap.size + 1) 79 2 (.slice a k9 c) k9 (ecells ra.es) ∧ V3.ownsRow (w.heap.size + 1) 3 1 (.slice a2 k2 c2) k2 (ic ra.ls) := by rw [e3]; exact ⟨own_mono (own_kQ RQ.1 B4 (by decide) 6 _) (by omega), own_mono (own_kQ RQ.2.1 B4 (by decide) 6 _) (by omega)⟩
        have HQ := hideIt RQ.2.2
        clear e3 B4 Y4 R3 g3 RQ HB_ HY_ HC
        obtain ⟨q, hjk⟩ : ∃ q, q = j + k := ⟨_, rfl⟩
        rw [← hjk] at S5
        have Hjk := hideIt hjk
        clear hjk
        by_cases hq : q = s.size
        · have e1 : (((q : Int) : Int) == (s.size : Int)) = true := by simp; omega
          have cc1 := S5.c1
          have cc2 := S5.c2
          go_upto_region 11 with fail
          rw [← hV3]
          clear hV3 x0 x1 x2 x3 x4 x5 x6 x7 x8 x9 x10 x11 x12 x13 z0 z1 z2 z3 z4 z5 z6 z7 z8 z9 z10 z11 z12 z13
          go_region_held3 (fun u => u.cell? ⟨G, 1, none⟩ = some (.string s) ∧ u.cell? ⟨G, 2, none⟩ = some (.int .i64 (q : Int))) (exact ⟨cc1, cc2⟩)
            ((go_at_call 64; refine (HNy.out _).mono ?_; rintro e z ⟨rfl, rfl⟩))
          obtain ⟨V9, hV9⟩ : ∃ V9, V9 = V3.drew := ⟨_, rfl⟩
          have B9 : BxQ V9 bR 40 #[.int .i64 2, .int .i64 0, .int .i64 0, .int .i64 0, .int .i64 0, .int .i64 (kn : Int), .int .i64 ra.num, .bool ra.ok, .slice a k9 c, .slice a2 k2 c2, .int .i64 0, .int .i64 0, .slice none 0 0, .int .i64 0] := by rw [hV9]; exact B5
          have Y9 : BxQ V9 w.heap.size 40 #[.int .i64 0, .int .i64 0, .int .i64 0, .int .i64 0, .int .i64 0, .int .i64 0, .int .i64 0, .bool false, .slice none 0 0, .slice none 0 0, .int .i64 0, .int .i64 0, .slice none 0 0, .int .i64 0] := by rw [hV9]; exact Y5
          have HG9 : Hid (w.grownBy V9 (some G)) := by show World.grownBy _ _ _; rw [hV9]; exact gr_trans HG5.out (gr_drew _ _)
          have RW9 : V9.ownsRow (w.heap.size + 1) 79 2 (.slice a k9 c) k9 (ecells ra.es) ∧ V9.ownsRow (w.heap.size + 1) 3 1 (.slice a2 k2 c2) k2 (ic ra.ls) := by rw [hV9]; exact RW
          have m0 := B9.at 0 rfl
          have m1 := B9.at 1 rfl
          have m2 := B9.at 2 rfl
          have m3 := B9.at 3 rfl
          have m4 := B9.at 4 rfl
          have m5 := B9.at 5 rfl
          have m6 := B9.at 6 rfl
          have m7 := B9.at 7 rfl
          have m8 := B9.at 8 rfl
          have m9 := B9.at 9 rfl
          have m10 := B9.at 10 rfl
          have m11 := B9.at 11 rfl
          have m12 := B9.at 12 rfl
          have m13 := B9.at 13 rfl
          have y0 := Y9.at 0 rfl
          have y1 := Y9.at 1 rfl
          have y2 := Y9.at 2 rfl
          have y3 := Y9.at 3 rfl
          have y4 := Y9.at 4 rfl
          have y5 := Y9.at 5 rfl
          have y6 := Y9.at 6 rfl
          have y7 := Y9.at 7 rfl
          have y8 := Y9.at 8 rfl
          have y9 := Y9.at 9 rfl
          have y10 := Y9.at 10 rfl
          have y11 := Y9.at 11 rfl
          have y12 := Y9.at 12 rfl
          have y13 := Y9.at 13 rfl
          have f0 := Y9.frozen 0
          have f1 := Y9.frozen 1
          have f2 := Y9.frozen 2
          have f3 := Y9.frozen 3
          have f4 := Y9.frozen 4
          have f5 := Y9.frozen 5
          have f6 := Y9.frozen 6
          have f7 := Y9.frozen 7
          have f8 := Y9.frozen 8
          have f9 := Y9.frozen 9
          have f10 := Y9.frozen 10
          have f11 := Y9.frozen 11
          have f12 := Y9.frozen 12
          have f13 := Y9.frozen 13
          rw [← hV9]
          clear cc1 cc2 hV9
          obtain ⟨V, hV⟩ : ∃ V, V = ((((((((((((((V9.setCell ⟨w.heap.size, 0, none⟩ (.int .i64 2)).setCell ⟨w.heap.size, 1, none⟩ (.int .i64 0)).setCell ⟨w.heap.size, 2, none⟩ (.int .i64 0)).setCell ⟨w.heap.size, 3, none⟩ (.int .i64 0)).setCell ⟨w.heap.size, 4, none⟩ (.int .i64 0)).setCell ⟨w.heap.size, 5, none⟩ (.int .i64 (kn : Int))).setCell ⟨w.heap.size, 6, none⟩ (.int .i64 ra.num)).setCell ⟨w.heap.size, 7, none⟩ (.bool ra.ok)).setCell ⟨w.heap.size, 8, none⟩ (.slice a k9 c)).setCell ⟨w.heap.size, 9, none⟩ (.slice a2 k2 c2)).setCell ⟨w.heap.size, 10, none⟩ (.int .i64 0)).setCell ⟨w.heap.size, 11, none⟩ (.int .i64 0)).setCell ⟨w.heap.size, 12, none⟩ (.slice none 0 0)).setCell ⟨w.heap.size, 13, none⟩ (.int .i64 0)) := ⟨_, rfl⟩
          have eV : V = setQ V9 w.heap.size 0 [.int .i64 2, .int .i64 0, .int .i64 0, .int .i64 0, .int .i64 0, .int .i64 (kn : Int), .int .i64 ra.num, .bool ra.ok, .slice a k9 c, .slice a2 k2 c2, .int .i64 0, .int .i64 0, .slice none 0 0, .int .i64 0] := hV
          have BR : BxQ V w.heap.size 40 #[.int .i64 2, .int .i64 0, .int .i64 0, .int .i64 0, .int .i64 0, .int .i64 (kn : Int), .int .i64 ra.num, .bool ra.ok, .slice a k9 c, .slice a2 k2 c2, .int .i64 0, .int .i64 0, .slice none 0 0, .int .i64 0] := by rw [eV]; exact Y9.setQ 0 [.int .i64 2, .int .i64 0, .int .i64 0, .int .i64 0, .int .i64 0, .int .i64 (kn : Int), .int .i64 ra.num, .bool ra.ok, .slice a k9 c, .slice a2 k2 c2, .int .i64 0, .int .i64 0, .slice none 0 0, .int .i64 0]
          have HG2 : Hid (w.grownBy V (some G)) := by show World.grownBy _ _ _; rw [eV]; exact gr_own HG9.out (gr_setQ 0 _) (fun q hq => by simp at hq; omega)
          have HRW : Hid (V.ownsRow (w.heap.size + 1) 79 2 (.slice a k9 c) k9 (ecells ra.es) ∧ V.ownsRow (w.heap.size + 1) 3 1 (.slice a2 k2 c2) k2 (ic ra.ls)) := by
            show _ ∧ _
            rw [eV]
            exact And.intro (own_kQ RW9.1 Y9 (by decide) 0 _) (own_kQ RW9.2 Y9 (by decide) 0 _)
          have r0 := BR.at 0 rfl
          have r1 := BR.at 1 rfl
          have r2 := BR.at 2 rfl
          have r3 := BR.at 3 rfl
          have r4 := BR.at 4 rfl
          have r5 := BR.at 5 rfl
          have r6 := BR.at 6 rfl
          have r7 := BR.at 7 rfl
          have r8 := BR.at 8 rfl
          have r9 := BR.at 9 rfl
          have r10 := BR.at 10 rfl
          have r11 := BR.at 11 rfl
          have r12 := BR.at 12 rfl
          have r13 := BR.at 13 rfl
          clear eV BR B9 Y9 RW9
          go_wp2
          rw [← hV]
          clear hV
          exact bodyPost_ret (v := .agg #[.int .i64 2, .int .i64 0, .int .i64 0, .int .i64 0, .int .i64 0, .int .i64 (kn : Int), .int .i64 ra.num, .bool ra.ok, .slice a k9 c, .slice a2 k2 c2, .int .i64 0, .int .i64 0, .slice none 0 0, .int .i64 0]) (by simp [results, Tryz.results48, go_sem, r0, r1, r2, r3, r4, r5, r6, r7, r8, r9, r10, r11, r12, r13]) rfl ⟨some _, by rw [hL]; exact yes2_end hkn HK.out HRr.out (by have := Hjk.out; omega), ⟨a, k9, c, a2, k2, c2, none, 0, 0, rfl, ⟨own_mono HRW.out.1 (by omega), own_mono HRW.out.2 (by omega), nilR _ _ _ _⟩, ⟨HQ.out.1, HQ.out.2, by omega⟩, .inr ⟨rfl, rfl⟩⟩, HG2.out⟩
        · have e1 : (((q : Int) : Int) == (s.size : Int)) = false := by simp; omega
          have cc1 := S5.c1
          have cc2 := S5.c2
          go_upto_region 11 with fail
          rw [← hV3]
          clear hV3 x0 x1 x2 x3 x4 x5 x6 x7 x8 x9 x10 x11 x12 x13 z0 z1 z2 z3 z4 z5 z6 z7 z8 z9 z10 z11 z12 z13
          refine wp_region_held_drew (S := (fun u => u.cell? ⟨G, 1, none⟩ = some (.string s) ∧ u.cell? ⟨G, 2, none⟩ = some (.int .i64 (q : Int)))) (by kernel_rfl) ⟨cc1, cc2⟩ (fun hHeld => ?_)
          refine wpAnyH_take (i := 0) (v := ?_) rfl (by kernel_rfl) (by kernel_rfl) (by kernel_rfl) (fun _ _ _ h => h) (Or.inl ⟨by rfl, ?_⟩) (by assumption) ?_
          rotate_left
          · intro w hSw; (try dsimp only at hSw); go_simp; try with_reducible rfl
          try simp only [Act.put, List.getElem_toArray, List.getElem_cons_zero, List.setIfInBounds_toArray, List.set_cons_zero, List.set_cons_succ]
          refine wpAnyH_take (i := 1) (v := ?_) rfl (by kernel_rfl) (by kernel_rfl) (by kernel_rfl) (fun _ _ _ h => h) (Or.inl ⟨by rfl, ?_⟩) (by assumption) ?_
          rotate_left
          · intro w hSw; (try dsimp only at hSw); go_simp; try with_reducible rfl
          try simp only [Act.put, List.getElem_toArray, List.getElem_cons_succ, List.getElem_cons_zero, List.setIfInBounds_toArray, List.set_cons_zero, List.set_cons_succ]
          refine wpAnyH_take (i := 2) (v := ?_) rfl (by kernel_rfl) (by kernel_rfl) (by kernel_rfl) (fun _ _ _ h => h) (Or.inl ⟨by rfl, ?_⟩) (by assumption) ?_
          rotate_left
          · intro w hSw; (try dsimp only at hSw); go_simp; try with_reducible rfl
          try simp only [Act.put, List.getElem_toArray, List.getElem_cons_succ, List.getElem_cons_zero, List.setIfInBounds_toArray, List.set_cons_zero, List.set_cons_succ]
          refine wpAnyH_take (i := 3) (v := ?_) rfl (by kernel_rfl) (by kernel_rfl) (by kernel_rfl) (fun _ _ _ h => h) (Or.inl ⟨by rfl, ?_⟩) (by assumption) ?_
          rotate_left
          · intro w hSw; (try dsimp only at hSw); go_simp; try with_reducible rfl
          try simp only [Act.put, List.getElem_toArray, List.getElem_cons_succ, List.getElem_cons_zero, List.setIfInBounds_toArray, List.set_cons_zero, List.set_cons_succ]
          refine wpAnyH_take (i := 4) (v := ?_) rfl (by kernel_rfl) (by kernel_rfl) (by kernel_rfl) (fun _ _ _ h => h) (Or.inl ⟨by rfl, ?_⟩) (by assumption) ?_
          rotate_left
          · intro w hSw; (try dsimp only at hSw); go_simp; try with_reducible rfl
          try simp only [Act.put, List.getElem_toArray, List.getElem_cons_succ, List.getElem_cons_zero, List.setIfInBounds_toArray, List.set_cons_zero, List.set_cons_succ]
          refine wpAnyH_take (i := 5) (v := ?_) rfl (by kernel_rfl) (by kernel_rfl) (by kernel_rfl) (fun _ _ _ h => h) (Or.inl ⟨by rfl, ?_⟩) (by assumption) ?_
          rotate_left
          · intro w hSw; (try dsimp only at hSw); go_simp; try with_reducible rfl
          try simp only [Act.put, List.getElem_toArray, List.getElem_cons_succ, List.getElem_cons_zero, List.setIfInBounds_toArray, List.set_cons_zero, List.set_cons_succ]
          refine wpAnyH_take (i := 6) (v := ?_) rfl (by kernel_rfl) (by kernel_rfl) (by kernel_rfl) (fun _ _ _ h => h) (Or.inl ⟨by rfl, ?_⟩) (by assumption) ?_
          rotate_left
          · intro w hSw; (try dsimp only at hSw); go_simp; try with_reducible rfl
          try simp only [Act.put, List.getElem_toArray, List.getElem_cons_succ, List.getElem_cons_zero, List.setIfInBounds_toArray, List.set_cons_zero, List.set_cons_succ]
          refine wpAnyH_take (i := 7) (v := ?_) rfl (by kernel_rfl) (by kernel_rfl) (by kernel_rfl) (fun _ _ _ h => h) (Or.inl ⟨by rfl, ?_⟩) (by assumption) ?_
          rotate_left
          · intro w hSw; (try dsimp only at hSw); go_simp; try with_reducible rfl
          try simp only [Act.put, List.getElem_toArray, List.getElem_cons_succ, List.getElem_cons_zero, List.setIfInBounds_toArray, List.set_cons_zero, List.set_cons_succ]
          refine wpAnyH_take (i := 8) (v := ?_) rfl (by kernel_rfl) (by kernel_rfl) (by kernel_rfl) (fun _ _ _ h => h) (Or.inl ⟨by rfl, ?_⟩) (by assumption) ?_
          rotate_left
          · intro w hSw; (try dsimp only at hSw); go_simp; try with_reducible rfl
          try simp only [Act.put, List.getElem_toArray, List.getElem_cons_succ, List.getElem_cons_zero, List.setIfInBounds_toArray, List.set_cons_zero, List.set_cons_succ]
          refine wpAnyH_take (i := 9) (v := ?_) rfl (by kernel_rfl) (by kernel_rfl) (by kernel_rfl) (fun _ _ _ h => h) (Or.inl ⟨by rfl, ?_⟩) (by assumption) ?_
          rotate_left
          · intro w hSw; (try dsimp only at hSw); go_simp; try with_reducible rfl
          try simp only [Act.put, List.getElem_toArray, List.getElem_cons_succ, List.getElem_cons_zero, List.setIfInBounds_toArray, List.set_cons_zero, List.set_cons_succ]
          refine wpAnyH_take (i := 10) (v := ?_) rfl (by kernel_rfl) (by kernel_rfl) (by kernel_rfl) (fun _ _ _ h => h) (Or.inl ⟨by rfl, ?_⟩) (by assumption) ?_
          rotate_left
          · intro w hSw; (try dsimp only at hSw); go_simp; try with_reducible rfl
          try simp only [Act.put, List.getElem_toArray, List.getElem_cons_succ, List.getElem_cons_zero, List.setIfInBounds_toArray, List.set_cons_zero, List.set_cons_succ]
          refine wpAnyH_ready (rs := [11]) (by kernel_rfl) (by simp) ?_
          refine AllReadyH.cons rfl (fun K hK => ?_) AllReadyH.nil
          rw [if_pos]
          rotate_left
          · kernel_rfl
          go_wp2_with (go_at_call 64; refine (HNn.out _).mono ?_; rintro e z ⟨rfl, rfl⟩; refine Hid.out ?_)
          refine (show ∀ {p : Prop}, p → Hid p from fun h => h) ?_
          exact ⟨rfl, none, by rw [hL]; exact no2_end hkn HK.out (by have := Hjk.out; omega), rfl, gr_trans HG5.out (gr_drew _ _)⟩
    · have HC := hideIt (answer_no n s hs p2 hb G V2 S2)
      have HI : Hid (IsR n s.data.toList none) := by show IsR _ _ _; rw [hL]; exact no2_sh hkn hb
      clear hb
      go_wp2_with (go_at_call 62; refine HC.out.mono ?_; rintro e z ⟨rfl, gg⟩; refine Hid.out ?_)
      refine (show ∀ {p : Prop}, p → Hid p from fun h => h) ?_
      exact ⟨rfl, none, HI.out, rfl, gr_trans HG2_.out gg⟩
  · have HC := hideIt (number_no n s hs 1 hr G V1 S1)
    have HI : Hid (IsR n s.data.toList none) := by show IsR _ _ _; rw [hL]; exact no2_num hb
    clear hb hr B1 Y1 S1
    go_wp2_with (go_at_call 61; refine HC.out.mono ?_; rintro e z ⟨rfl, gg⟩; refine Hid.out ?_)
    refine (show ∀ {p : Prop}, p → Hid p from fun h => h) ?_
    exact ⟨rfl, none, HI.out, rfl, gr_trans HG1.out gg⟩
set_option maxRecDepth 100000 in
set_option maxHeartbeats 8000000 in
theorem record_three (n : Int) (s : ByteArray) (hs : s.size ≤ 1048576) (hz : 0 < s.size) (hc : (s[0]).toNat = 3) (G : Nat) (w : World) (h : RrAt w G n s 0) :
    Calls Tryz.prog 48 #[.pointer (some ⟨G, 0, none⟩)] w fun e w' => ∃ r, IsR n s.data.toList r ∧ RcA w w' G e r := by
  have HNy := hideIt (need_yes G)
  have HNn := hideIt (need_no G)
  have hL : s.data.toList = 3 :: from_ s 1 := L_at hz (by apply UInt8.toNat_inj.1; rw [hc]; rfl)
  obtain ⟨W, hW⟩ : ∃ W, W = w.alloc (.cells #[.int .i64 0, .int .i64 0, .int .i64 0, .int .i64 0, .int .i64 0, .int .i64 0, .int .i64 0, .bool false, .slice none 0 0, .slice none 0 0, .int .i64 0, .int .i64 0, .slice none 0 0, .int .i64 0] 40) := ⟨_, rfl⟩
  have bW : Below w.heap.size w W := by rw [hW]; exact (Below.refl _ _).alloc (Nat.le_refl _) _
  have X0 : BxQ W w.heap.size 40 #[.int .i64 0, .int .i64 0, .int .i64 0, .int .i64 0, .int .i64 0, .int .i64 0, .int .i64 0, .bool false, .slice none 0 0, .slice none 0 0, .int .i64 0, .int .i64 0, .slice none 0 0, .int .i64 0] := by rw [hW]; exact BxQ.new _ _ _
  have hGw := h.lt
  have HKd := hideIt (kind_yes n s hs 0 hz G W (h.below bW))
  rw [hc, show (((3 : Nat) : Nat) : Int) = 3 from rfl] at HKd
  have HB := hideIt (gr_below bW (some G))
  have HX0 := hideIt X0
  clear h bW X0
  go_enter Tryz.func48, Tryz.ntmps48
  go_upto_region 1 with fail
  rw [← hW]
  clear hW
  go_wp2_with (go_at_call 59; refine HKd.out.mono ?_; rintro e u1 ⟨rfl, R1, g1⟩; refine Hid.out ?_)
  refine (show ∀ {p : Prop}, p → Hid p from fun h => h) ?_
  obtain ⟨V1, hV1⟩ : ∃ V1, V1 = u1.alloc (.cells #[.int .i64 3, .int .i64 0, .int .i64 0, .int .i64 0, .int .i64 0, .int .i64 0, .int .i64 0, .bool false, .slice none 0 0, .slice none 0 0, .int .i64 0, .int .i64 0, .slice none 0 0, .int .i64 0] 40) := ⟨_, rfl⟩
  have b1 : Below u1.heap.size u1 V1 := by rw [hV1]; exact (Below.refl _ _).alloc (Nat.le_refl _) _
  have B1 : BxQ V1 u1.heap.size 40 #[.int .i64 3, .int .i64 0, .int .i64 0, .int .i64 0, .int .i64 0, .int .i64 0, .int .i64 0, .bool false, .slice none 0 0, .slice none 0 0, .int .i64 0, .int .i64 0, .slice none 0 0, .int .i64 0] := by rw [hV1]; exact BxQ.new _ _ _
  have Y1 := (HX0.out.gr g1 (by simp; omega)).gr (gr_below b1 none) (by simp)
  have S1 := R1.below b1
  have HG1 := hideIt (gr_trans (gr_trans HB.out g1) (gr_below b1 (some G)))
  have lR : w.heap.size < u1.heap.size := Nat.lt_of_lt_of_le HX0.out.lt g1.size
  clear HKd HX0 HB R1 g1 b1
  go_upto_region 2 with fail
  rw [← hV1]
  clear hV1
  generalize u1.heap.size = bR at *
  have q0 := B1.at 0 rfl
  have hzs : 1 ≤ s.size := hz
  rcases sh_cases s 1 with ⟨k, j, hk⟩ | hb
  · obtain ⟨ra, hr⟩ := isO_cases n ((from_ s j).take k)
    cases ra with
    | none =>
      have HC := hideIt (order_at n s hs 1 k j hk none hr G V1 S1)
      have HI : Hid (IsR n s.data.toList none) := by show IsR _ _ _; rw [hL]; exact no3_ord hzs hk hr
      clear hr hk
      go_wp2_with (go_at_call 63; refine HC.out.mono ?_; rintro e z ⟨rfl, gg⟩; refine Hid.out ?_)
      refine (show ∀ {p : Prop}, p → Hid p from fun h => h) ?_
      exact ⟨rfl, none, HI.out, rfl, gr_trans HG1.out gg⟩
    | some ra =>
      have HC := hideIt (order_at n s hs 1 k j hk (some ra) hr G V1 S1)
      have HK := hideIt hk
      have HRr := hideIt hr
      have HB_ := hideIt B1
      have HY_ := hideIt Y1
      clear hk hr B1 Y1 S1
      go_wp2_with (go_at_call 63; refine HC.out.mono ?_; rintro e u3 ⟨a, k9, c, rfl, R3, RQ, g3⟩; refine Hid.out ?_)
      refine (show ∀ {p : Prop}, p → Hid p from fun h => h) ?_
      have lb := HB_.out.lt
      have B4 := HB_.out.gr g3 (by simp; omega)
      have Y4 := HY_.out.gr g3 (by simp; omega)
      have HG4 := hideIt (gr_trans HG1.out g3)
      have lw := HY_.out.lt
      have x0 := B4.at 0 rfl
      have x1 := B4.at 1 rfl
      have x2 := B4.at 2 rfl
      have x3 := B4.at 3 rfl
      have x4 := B4.at 4 rfl
      have x5 := B4.at 5 rfl
      have x6 := B4.at 6 rfl
      have x7 := B4.at 7 rfl
      have x8 := B4.at 8 rfl
      have x9 := B4.at 9 rfl
      have x10 := B4.at 10 rfl
      have x11 := B4.at 11 rfl
      have x12 := B4.at 12 rfl
      have x13 := B4.at 13 rfl
      have z0 := B4.frozen 0
      have z1 := B4.frozen 1
      have z2 := B4.frozen 2
      have z3 := B4.frozen 3
      have z4 := B4.frozen 4
      have z5 := B4.frozen 5
      have z6 := B4.frozen 6
      have z7 := B4.frozen 7
      have z8 := B4.frozen 8
      have z9 := B4.frozen 9
      have z10 := B4.frozen 10
      have z11 := B4.frozen 11
      have z12 := B4.frozen 12
      have z13 := B4.frozen 13
      obtain ⟨V3, hV3⟩ : ∃ V3, V3 = ((((u3.setCell ⟨bR, 10, none⟩ (.int .i64 ra.num)).setCell ⟨bR, 11, none⟩ (.int .i64 ra.op)).setCell ⟨bR, 12, none⟩ (.slice a k9 c)).setCell ⟨bR, 13, none⟩ (.int .i64 ra.v)) := ⟨_, rfl⟩
      have e3 : V3 = setQ u3 bR 10 [.int .i64 ra.num, .int .i64 ra.op, .slice a k9 c, .int .i64 ra.v] := hV3
      have B5 : BxQ V3 bR 40 #[.int .i64 3, .int .i64 0, .int .i64 0, .int .i64 0, .int .i64 0, .int .i64 0, .int .i64 0, .bool false, .slice none 0 0, .slice none 0 0, .int .i64 ra.num, .int .i64 ra.op, .slice a k9 c, .int .i64 ra.v] := by rw [e3]; exact B4.setQ 10 [.int .i64 ra.num, .int .i64 ra.op, .slice a k9 c, .int .i64 ra.v]
      have Y5 : BxQ V3 w.heap.size 40 #[.int .i64 0, .int .i64 0, .int .i64 0, .int .i64 0, .int .i64 0, .int .i64 0, .int .i64 0, .bool false, .slice none 0 0, .slice none 0 0, .int .i64 0, .int .i64 0, .slice none 0 0, .int .i64 0] := by rw [e3]; exact Y4.setQO 10 _ (by omega)
      have S5 : RrAt V3 G n s (j + k) := by rw [e3]; exact R3.grown (gr_setQ 10 _) (by simp; omega)
      have HG5 : Hid (w.grownBy V3 (some G)) := by show World.grownBy _ _ _; rw [e3]; exact gr_own HG4.out (gr_setQ 10 _) (fun q hq => by simp at hq; omega)
      have RW : V3.ownsRow (w.heap.size + 1) 79 2 (.slice a k9 c) k9 (ecells ra.es) := by rw [e3]; exact own_mono (own_kQ RQ.1 B4 (by decide) 10 _) (by omega)
      have HQ := hideIt RQ.2
      clear e3 B4 Y4 R3 g3 RQ HB_ HY_ HC
      obtain ⟨q, hjk⟩ : ∃ q, q = j + k := ⟨_, rfl⟩
      rw [← hjk] at S5
      have Hjk := hideIt hjk
      clear hjk
      by_cases hq : q = s.size
      · have e1 : (((q : Int) : Int) == (s.size : Int)) = true := by simp; omega
        have cc1 := S5.c1
        have cc2 := S5.c2
        go_upto_region 11 with fail
        rw [← hV3]
        clear hV3 x0 x1 x2 x3 x4 x5 x6 x7 x8 x9 x10 x11 x12 x13 z0 z1 z2 z3 z4 z5 z6 z7 z8 z9 z10 z11 z12 z13
        go_region_held3 (fun u => u.cell? ⟨G, 1, none⟩ = some (.string s) ∧ u.cell? ⟨G, 2, none⟩ = some (.int .i64 (q : Int))) (exact ⟨cc1, cc2⟩)
          ((go_at_call 64; refine (HNy.out _).mono ?_; rintro e z ⟨rfl, rfl⟩))
        obtain ⟨V9, hV9⟩ : ∃ V9, V9 = V3.drew := ⟨_, rfl⟩
        have B9 : BxQ V9 bR 40 #[.int .i64 3, .int .i64 0, .int .i64 0, .int .i64 0, .int .i64 0, .int .i64 0, .int .i64 0, .bool false, .slice none 0 0, .slice none 0 0, .int .i64 ra.num, .int .i64 ra.op, .slice a k9 c, .int .i64 ra.v] := by rw [hV9]; exact B5
        have Y9 : BxQ V9 w.heap.size 40 #[.int .i64 0, .int .i64 0, .int .i64 0, .int .i64 0, .int .i64 0, .int .i64 0, .int .i64 0, .bool false, .slice none 0 0, .slice none 0 0, .int .i64 0, .int .i64 0, .slice none 0 0, .int .i64 0] := by rw [hV9]; exact Y5
        have HG9 : Hid (w.grownBy V9 (some G)) := by show World.grownBy _ _ _; rw [hV9]; exact gr_trans HG5.out (gr_drew _ _)
        have RW9 : V9.ownsRow (w.heap.size + 1) 79 2 (.slice a k9 c) k9 (ecells ra.es) := by rw [hV9]; exact RW
        have m0 := B9.at 0 rfl
        have m1 := B9.at 1 rfl
        have m2 := B9.at 2 rfl
        have m3 := B9.at 3 rfl
        have m4 := B9.at 4 rfl
        have m5 := B9.at 5 rfl
        have m6 := B9.at 6 rfl
        have m7 := B9.at 7 rfl
        have m8 := B9.at 8 rfl
        have m9 := B9.at 9 rfl
        have m10 := B9.at 10 rfl
        have m11 := B9.at 11 rfl
        have m12 := B9.at 12 rfl
        have m13 := B9.at 13 rfl
        have y0 := Y9.at 0 rfl
        have y1 := Y9.at 1 rfl
        have y2 := Y9.at 2 rfl
        have y3 := Y9.at 3 rfl
        have y4 := Y9.at 4 rfl
        have y5 := Y9.at 5 rfl
        have y6 := Y9.at 6 rfl
        have y7 := Y9.at 7 rfl
        have y8 := Y9.at 8 rfl
        have y9 := Y9.at 9 rfl
        have y10 := Y9.at 10 rfl
        have y11 := Y9.at 11 rfl
        have y12 := Y9.at 12 rfl
        have y13 := Y9.at 13 rfl
        have f0 := Y9.frozen 0
        have f1 := Y9.frozen 1
        have f2 := Y9.frozen 2
        have f3 := Y9.frozen 3
        have f4 := Y9.frozen 4
        have f5 := Y9.frozen 5
        have f6 := Y9.frozen 6
        have f7 := Y9.frozen 7
        have f8 := Y9.frozen 8
        have f9 := Y9.frozen 9
        have f10 := Y9.frozen 10
        have f11 := Y9.frozen 11
        have f12 := Y9.frozen 12
        have f13 := Y9.frozen 13
        rw [← hV9]
        clear cc1 cc2 hV9
        obtain ⟨V, hV⟩ : ∃ V, V = ((((((((((((((V9.setCell ⟨w.heap.size, 0, none⟩ (.int .i64 3)).setCell ⟨w.heap.size, 1, none⟩ (.int .i64 0)).setCell ⟨w.heap.size, 2, none⟩ (.int .i64 0)).setCell ⟨w.heap.size, 3, none⟩ (.int .i64 0)).setCell ⟨w.heap.size, 4, none⟩ (.int .i64 0)).setCell ⟨w.heap.size, 5, none⟩ (.int .i64 0)).setCell ⟨w.heap.size, 6, none⟩ (.int .i64 0)).setCell ⟨w.heap.size, 7, none⟩ (.bool false)).setCell ⟨w.heap.size, 8, none⟩ (.slice none 0 0)).setCell ⟨w.heap.size, 9, none⟩ (.slice none 0 0)).setCell ⟨w.heap.size, 10, none⟩ (.int .i64 ra.num)).setCell ⟨w.heap.size, 11, none⟩ (.int .i64 ra.op)).setCell ⟨w.heap.size, 12, none⟩ (.slice a k9 c)).setCell ⟨w.heap.size, 13, none⟩ (.int .i64 ra.v)) := ⟨_, rfl⟩
        have eV : V = setQ V9 w.heap.size 0 [.int .i64 3, .int .i64 0, .int .i64 0, .int .i64 0, .int .i64 0, .int .i64 0, .int .i64 0, .bool false, .slice none 0 0, .slice none 0 0, .int .i64 ra.num, .int .i64 ra.op, .slice a k9 c, .int .i64 ra.v] := hV
        have BR : BxQ V w.heap.size 40 #[.int .i64 3, .int .i64 0, .int .i64 0, .int .i64 0, .int .i64 0, .int .i64 0, .int .i64 0, .bool false, .slice none 0 0, .slice none 0 0, .int .i64 ra.num, .int .i64 ra.op, .slice a k9 c, .int .i64 ra.v] := by rw [eV]; exact Y9.setQ 0 [.int .i64 3, .int .i64 0, .int .i64 0, .int .i64 0, .int .i64 0, .int .i64 0, .int .i64 0, .bool false, .slice none 0 0, .slice none 0 0, .int .i64 ra.num, .int .i64 ra.op, .slice a k9 c, .int .i64 ra.v]
        have HG2 : Hid (w.grownBy V (some G)) := by show World.grownBy _ _ _; rw [eV]; exact gr_own HG9.out (gr_setQ 0 _) (fun q hq => by simp at hq; omega)
        have HRW : Hid (V.ownsRow (w.heap.size + 1) 79 2 (.slice a k9 c) k9 (ecells ra.es)) := by
          show World.ownsRow _ _ _ _ _ _ _
          rw [eV]
          exact own_kQ RW9 Y9 (by decide) 0 _
        have r0 := BR.at 0 rfl
        have r1 := BR.at 1 rfl
        have r2 := BR.at 2 rfl
        have r3 := BR.at 3 rfl
        have r4 := BR.at 4 rfl
        have r5 := BR.at 5 rfl
        have r6 := BR.at 6 rfl
        have r7 := BR.at 7 rfl
        have r8 := BR.at 8 rfl
        have r9 := BR.at 9 rfl
        have r10 := BR.at 10 rfl
        have r11 := BR.at 11 rfl
        have r12 := BR.at 12 rfl
        have r13 := BR.at 13 rfl
        clear eV BR B9 Y9 RW9
        go_wp2
        rw [← hV]
        clear hV
        exact bodyPost_ret (v := .agg #[.int .i64 3, .int .i64 0, .int .i64 0, .int .i64 0, .int .i64 0, .int .i64 0, .int .i64 0, .bool false, .slice none 0 0, .slice none 0 0, .int .i64 ra.num, .int .i64 ra.op, .slice a k9 c, .int .i64 ra.v]) (by simp [results, Tryz.results48, go_sem, r0, r1, r2, r3, r4, r5, r6, r7, r8, r9, r10, r11, r12, r13]) rfl ⟨some _, by rw [hL]; exact yes3_end hzs HK.out HRr.out (by have := Hjk.out; omega), ⟨none, 0, 0, none, 0, 0, a, k9, c, rfl, ⟨nilR _ _ _ _, nilR _ _ _ _, own_mono HRW.out (by omega)⟩, ⟨by omega, by omega, HQ.out⟩, .inl ⟨rfl, rfl⟩⟩, HG2.out⟩
      · have e1 : (((q : Int) : Int) == (s.size : Int)) = false := by simp; omega
        have cc1 := S5.c1
        have cc2 := S5.c2
        go_upto_region 11 with fail
        rw [← hV3]
        clear hV3 x0 x1 x2 x3 x4 x5 x6 x7 x8 x9 x10 x11 x12 x13 z0 z1 z2 z3 z4 z5 z6 z7 z8 z9 z10 z11 z12 z13
        refine wp_region_held_drew (S := (fun u => u.cell? ⟨G, 1, none⟩ = some (.string s) ∧ u.cell? ⟨G, 2, none⟩ = some (.int .i64 (q : Int)))) (by kernel_rfl) ⟨cc1, cc2⟩ (fun hHeld => ?_)
        refine wpAnyH_take (i := 0) (v := ?_) rfl (by kernel_rfl) (by kernel_rfl) (by kernel_rfl) (fun _ _ _ h => h) (Or.inl ⟨by rfl, ?_⟩) (by assumption) ?_
        rotate_left
        · intro w hSw; (try dsimp only at hSw); go_simp; try with_reducible rfl
        try simp only [Act.put, List.getElem_toArray, List.getElem_cons_zero, List.setIfInBounds_toArray, List.set_cons_zero, List.set_cons_succ]
        refine wpAnyH_take (i := 1) (v := ?_) rfl (by kernel_rfl) (by kernel_rfl) (by kernel_rfl) (fun _ _ _ h => h) (Or.inl ⟨by rfl, ?_⟩) (by assumption) ?_
        rotate_left
        · intro w hSw; (try dsimp only at hSw); go_simp; try with_reducible rfl
        try simp only [Act.put, List.getElem_toArray, List.getElem_cons_succ, List.getElem_cons_zero, List.setIfInBounds_toArray, List.set_cons_zero, List.set_cons_succ]
        refine wpAnyH_take (i := 2) (v := ?_) rfl (by kernel_rfl) (by kernel_rfl) (by kernel_rfl) (fun _ _ _ h => h) (Or.inl ⟨by rfl, ?_⟩) (by assumption) ?_
        rotate_left
        · intro w hSw; (try dsimp only at hSw); go_simp; try with_reducible rfl
        try simp only [Act.put, List.getElem_toArray, List.getElem_cons_succ, List.getElem_cons_zero, List.setIfInBounds_toArray, List.set_cons_zero, List.set_cons_succ]
        refine wpAnyH_take (i := 3) (v := ?_) rfl (by kernel_rfl) (by kernel_rfl) (by kernel_rfl) (fun _ _ _ h => h) (Or.inl ⟨by rfl, ?_⟩) (by assumption) ?_
        rotate_left
        · intro w hSw; (try dsimp only at hSw); go_simp; try with_reducible rfl
        try simp only [Act.put, List.getElem_toArray, List.getElem_cons_succ, List.getElem_cons_zero, List.setIfInBounds_toArray, List.set_cons_zero, List.set_cons_succ]
        refine wpAnyH_take (i := 4) (v := ?_) rfl (by kernel_rfl) (by kernel_rfl) (by kernel_rfl) (fun _ _ _ h => h) (Or.inl ⟨by rfl, ?_⟩) (by assumption) ?_
        rotate_left
        · intro w hSw; (try dsimp only at hSw); go_simp; try with_reducible rfl
        try simp only [Act.put, List.getElem_toArray, List.getElem_cons_succ, List.getElem_cons_zero, List.setIfInBounds_toArray, List.set_cons_zero, List.set_cons_succ]
        refine wpAnyH_take (i := 5) (v := ?_) rfl (by kernel_rfl) (by kernel_rfl) (by kernel_rfl) (fun _ _ _ h => h) (Or.inl ⟨by rfl, ?_⟩) (by assumption) ?_
        rotate_left
        · intro w hSw; (try dsimp only at hSw); go_simp; try with_reducible rfl
        try simp only [Act.put, List.getElem_toArray, List.getElem_cons_succ, List.getElem_cons_zero, List.setIfInBounds_toArray, List.set_cons_zero, List.set_cons_succ]
        refine wpAnyH_take (i := 6) (v := ?_) rfl (by kernel_rfl) (by kernel_rfl) (by kernel_rfl) (fun _ _ _ h => h) (Or.inl ⟨by rfl, ?_⟩) (by assumption) ?_
        rotate_left
        · intro w hSw; (try dsimp only at hSw); go_simp; try with_reducible rfl
        try simp only [Act.put, List.getElem_toArray, List.getElem_cons_succ, List.getElem_cons_zero, List.setIfInBounds_toArray, List.set_cons_zero, List.set_cons_succ]
        refine wpAnyH_take (i := 7) (v := ?_) rfl (by kernel_rfl) (by kernel_rfl) (by kernel_rfl) (fun _ _ _ h => h) (Or.inl ⟨by rfl, ?_⟩) (by assumption) ?_
        rotate_left
        · intro w hSw; (try dsimp only at hSw); go_simp; try with_reducible rfl
        try simp only [Act.put, List.getElem_toArray, List.getElem_cons_succ, List.getElem_cons_zero, List.setIfInBounds_toArray, List.set_cons_zero, List.set_cons_succ]
        refine wpAnyH_take (i := 8) (v := ?_) rfl (by kernel_rfl) (by kernel_rfl) (by kernel_rfl) (fun _ _ _ h => h) (Or.inl ⟨by rfl, ?_⟩) (by assumption) ?_
        rotate_left
        · intro w hSw; (try dsimp only at hSw); go_simp; try with_reducible rfl
        try simp only [Act.put, List.getElem_toArray, List.getElem_cons_succ, List.getElem_cons_zero, List.setIfInBounds_toArray, List.set_cons_zero, List.set_cons_succ]
        refine wpAnyH_take (i := 9) (v := ?_) rfl (by kernel_rfl) (by kernel_rfl) (by kernel_rfl) (fun _ _ _ h => h) (Or.inl ⟨by rfl, ?_⟩) (by assumption) ?_
        rotate_left
        · intro w hSw; (try dsimp only at hSw); go_simp; try with_reducible rfl
        try simp only [Act.put, List.getElem_toArray, List.getElem_cons_succ, List.getElem_cons_zero, List.setIfInBounds_toArray, List.set_cons_zero, List.set_cons_succ]
        refine wpAnyH_take (i := 10) (v := ?_) rfl (by kernel_rfl) (by kernel_rfl) (by kernel_rfl) (fun _ _ _ h => h) (Or.inl ⟨by rfl, ?_⟩) (by assumption) ?_
        rotate_left
        · intro w hSw; (try dsimp only at hSw); go_simp; try with_reducible rfl
        try simp only [Act.put, List.getElem_toArray, List.getElem_cons_succ, List.getElem_cons_zero, List.setIfInBounds_toArray, List.set_cons_zero, List.set_cons_succ]
        refine wpAnyH_ready (rs := [11]) (by kernel_rfl) (by simp) ?_
        refine AllReadyH.cons rfl (fun K hK => ?_) AllReadyH.nil
        rw [if_pos]
        rotate_left
        · kernel_rfl
        go_wp2_with (go_at_call 64; refine (HNn.out _).mono ?_; rintro e z ⟨rfl, rfl⟩; refine Hid.out ?_)
        refine (show ∀ {p : Prop}, p → Hid p from fun h => h) ?_
        exact ⟨rfl, none, by rw [hL]; exact no3_end hzs HK.out (by have := Hjk.out; omega), rfl, gr_trans HG5.out (gr_drew _ _)⟩
  · have HC := hideIt (order_no n s hs 1 hb G V1 S1)
    have HI : Hid (IsR n s.data.toList none) := by show IsR _ _ _; rw [hL]; exact no3_sh hzs hb
    clear hb
    go_wp2_with (go_at_call 63; refine HC.out.mono ?_; rintro e z ⟨rfl, gg⟩; refine Hid.out ?_)
    refine (show ∀ {p : Prop}, p → Hid p from fun h => h) ?_
    exact ⟨rfl, none, HI.out, rfl, gr_trans HG1.out gg⟩
theorem record_any (n : Int) (s : ByteArray) (hs : s.size ≤ 1048576) (G : Nat) (w : World) (h : RrAt w G n s 0) :
    Calls Tryz.prog 48 #[.pointer (some ⟨G, 0, none⟩)] w fun e w' => ∃ r, IsR n s.data.toList r ∧ RcA w w' G e r := by
  by_cases hz : 0 < s.size
  · obtain ⟨kk, hc⟩ : ∃ kk, (s[0]).toNat = kk := ⟨_, rfl⟩
    by_cases h1 : kk = 1
    · subst h1; exact record_one n s hs hz hc G w h
    · by_cases h2 : kk = 2
      · subst h2; exact record_two n s hs hz hc G w h
      · by_cases h3 : kk = 3
        · subst h3; exact record_three n s hs hz hc G w h
        · exact record_other n s hs hz kk hc h1 h2 h3 G w h
  · exact record_nil n s hs (by omega) G w h
end Go.Proofs.YtcieanhbipbhgaaGreatDoor
