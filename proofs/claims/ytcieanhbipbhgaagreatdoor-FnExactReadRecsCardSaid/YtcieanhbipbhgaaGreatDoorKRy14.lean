/- The program's ReadRec: what is panicked with is recovered. -/
import Derived.Test.YtcieanhbipbhgaaGreatDoorKRx14
import Derived.Defers
import Derived.Recover
import Derived.Laws.Pointers
namespace Go.Proofs.YtcieanhbipbhgaaGreatDoor
open Go.RowKit Vt

theorem ta_yes (w : World) : (Instr.typeAssert (.iface 93 (.agg #[])) 20 93 true).run Tryz.prog w = .ok (.tuple #[.agg #[], .bool true]) w := by kernel_rfl
theorem ta_nil (w : World) : (Instr.typeAssert .nilIface 20 93 true).run Tryz.prog w = .ok (.tuple #[.agg #[], .bool false]) w := by kernel_rfl
theorem catch_idle (b b' : Nat) (w : World) :
    CallsD Tryz.prog 47 #[.pointer (some ⟨b, 0, none⟩), .pointer (some ⟨b', 0, none⟩)] .returning w fun e u' w' => e = .returned (.tuple #[]) ∧ u' = .returning ∧ w' = w.alloc (.cells #[] 93) := by
  have h1 := ta_nil
  refine callsD_of_wpS Tryz.func47 rfl fun c₀ cs hu => ?_
  apply wpS_seq
  apply wpS_region
  simp [wpOpsS, go_sem, recoverD, hu, Tryz.ntmps47, Exit.thenS, h1]
  apply wpS_seq
  apply wpS_region
  simp [wpOpsS, go_sem, Exit.thenS, Array.replicate]
  refine wpS_cond (t := false) (by simp [Act.eval]) ?_
  simp only [Bool.false_eq_true, if_false]
  refine wpS_of_wp (wp_skip ?_)
  cases c₀
  simp_all [bodyPostS, results, Tryz.results47]
theorem catch_panicking (b b' : Nat) (x : Bool) (w : World) (h : BxQ w b 40 #[.int .i64 0, .int .i64 0, .int .i64 0, .int .i64 0, .int .i64 0, .int .i64 0, .int .i64 0, .bool false, .slice none 0 0, .slice none 0 0, .int .i64 0, .int .i64 0, .slice none 0 0, .int .i64 0]) (h' : BxQ w b' 4 #[.bool x]) (hne : b' ≠ b) :
    CallsD Tryz.prog 47 #[.pointer (some ⟨b, 0, none⟩), .pointer (some ⟨b', 0, none⟩)] (.panicking [{ v := .iface 93 (.agg #[]), recovered := false }]) w fun e u' w' => e = .returned (.tuple #[]) ∧ u' = .panicking [{ v := .iface 93 (.agg #[]), recovered := true }] ∧ w' = (setQ (w.alloc (.cells #[] 93)) b 0 [.int .i64 0, .int .i64 0, .int .i64 0, .int .i64 0, .int .i64 0, .int .i64 0, .int .i64 0, .bool false, .slice none 0 0, .slice none 0 0, .int .i64 0, .int .i64 0, .slice none 0 0, .int .i64 0]).setCell ⟨b', 0, none⟩ (.bool false) := by
  have h1 := ta_yes
  refine callsD_of_wpS Tryz.func47 rfl fun c₀ cs hu => ?_
  apply wpS_seq
  apply wpS_region
  simp [wpOpsS, go_sem, recoverD, hu, Tryz.ntmps47, Exit.thenS, h1]
  apply wpS_seq
  apply wpS_region
  simp [wpOpsS, go_sem, Exit.thenS, Array.replicate]
  refine wpS_cond (t := true) (by simp [Act.eval]) ?_
  simp only [if_true]
  obtain ⟨W, hW⟩ : ∃ W, W = w.alloc (.cells #[] 93) := ⟨_, rfl⟩
  have B1 : BxQ W b 40 #[.int .i64 0, .int .i64 0, .int .i64 0, .int .i64 0, .int .i64 0, .int .i64 0, .int .i64 0, .bool false, .slice none 0 0, .slice none 0 0, .int .i64 0, .int .i64 0, .slice none 0 0, .int .i64 0] := by rw [hW]; exact h.gr (World.grownBy_alloc _ _ none) (by simp)
  have B2 : BxQ W b' 4 #[.bool x] := by rw [hW]; exact h'.gr (World.grownBy_alloc _ _ none) (by simp)
  have y0 := B2.at (l := [.bool x]) 0 rfl
  have y1 := B2.frozen 0
  have x0 := B1.at 0 rfl
  have z0 := B1.frozen 0
  have x1 := B1.at 1 rfl
  have z1 := B1.frozen 1
  have x2 := B1.at 2 rfl
  have z2 := B1.frozen 2
  have x3 := B1.at 3 rfl
  have z3 := B1.frozen 3
  have x4 := B1.at 4 rfl
  have z4 := B1.frozen 4
  have x5 := B1.at 5 rfl
  have z5 := B1.frozen 5
  have x6 := B1.at 6 rfl
  have z6 := B1.frozen 6
  have x7 := B1.at 7 rfl
  have z7 := B1.frozen 7
  have x8 := B1.at 8 rfl
  have z8 := B1.frozen 8
  have x9 := B1.at 9 rfl
  have z9 := B1.frozen 9
  have x10 := B1.at 10 rfl
  have z10 := B1.frozen 10
  have x11 := B1.at 11 rfl
  have z11 := B1.frozen 11
  have x12 := B1.at 12 rfl
  have z12 := B1.frozen 12
  have x13 := B1.at 13 rfl
  have z13 := B1.frozen 13
  rw [← hW]
  clear hW h h'
  refine wpS_of_wp ?_
  go_wp2
  cases c₀
  simp_all [bodyPostS, results, Tryz.results47, setQ]
/-- the record, or none -/
def orR : Option RecV → RecV
  | none => zR
  | some r => r
/-- what read and ReadRec answer -/
def ReA (w w' : World) (e : Ending) (r : Option RecV) : Prop :=
  ∃ (a1 : Option Addr) (k1 c1 : Nat) (a2 : Option Addr) (k2 c2 : Nat) (a3 : Option Addr) (k3 c3 : Nat), e = .returned (.tuple #[.agg (recC (orR r) a1 k1 c1 a2 k2 c2 a3 k3 c3), .bool r.isSome]) ∧ RcR w' w.heap.size (orR r) a1 k1 c1 a2 k2 c2 a3 k3 c3
theorem box1 {w : World} {b : Nat} {x : Value} (y : Value) (h : BxQ w b 4 #[x]) : BxQ (w.setCell ⟨b, 0, none⟩ y) b 4 #[y] := h.set 0 y
set_option maxRecDepth 100000 in
set_option maxHeartbeats 4000000 in
theorem read_any (n : Int) (s : ByteArray) (hs : s.size ≤ 1048576) (G : Nat) (w : World) (h : RrAt w G n s 0) (r : Option RecV) (hr : IsR n s.data.toList r) :
    Calls Tryz.prog 32 #[.pointer (some ⟨G, 0, none⟩)] w fun e w' => ReA w w' e r ∧ w.grownBy w' (some G) := by
  have hmf : ∀ (fn : Fn) (first cap : Array Value) (w : World), (Instr.makeFunc fn first cap).run Tryz.prog w = .ok (.func fn first cap) w := fun _ _ _ _ => rfl
  obtain ⟨W, hW⟩ : ∃ W, W = (w.alloc (.cells #[.int .i64 0, .int .i64 0, .int .i64 0, .int .i64 0, .int .i64 0, .int .i64 0, .int .i64 0, .bool false, .slice none 0 0, .slice none 0 0, .int .i64 0, .int .i64 0, .slice none 0 0, .int .i64 0] 40)).alloc (.cells #[.bool false] 4) := ⟨_, rfl⟩
  have bW : Below w.heap.size w W := by rw [hW]; exact ((Below.refl _ _).alloc (Nat.le_refl _) _).alloc (by simp) _
  have X0 : BxQ W w.heap.size 40 #[.int .i64 0, .int .i64 0, .int .i64 0, .int .i64 0, .int .i64 0, .int .i64 0, .int .i64 0, .bool false, .slice none 0 0, .slice none 0 0, .int .i64 0, .int .i64 0, .slice none 0 0, .int .i64 0] := by rw [hW]; exact (BxQ.new w _ _).gr (World.grownBy_alloc _ _ none) (by simp)
  have X1 : BxQ W (w.heap.size + 1) 4 #[.bool false] := by
    have h := BxQ.new (w.alloc (.cells #[.int .i64 0, .int .i64 0, .int .i64 0, .int .i64 0, .int .i64 0, .int .i64 0, .int .i64 0, .bool false, .slice none 0 0, .slice none 0 0, .int .i64 0, .int .i64 0, .slice none 0 0, .int .i64 0] 40)) 4 #[.bool false]
    rw [show (w.alloc (.cells #[.int .i64 0, .int .i64 0, .int .i64 0, .int .i64 0, .int .i64 0, .int .i64 0, .int .i64 0, .bool false, .slice none 0 0, .slice none 0 0, .int .i64 0, .int .i64 0, .slice none 0 0, .int .i64 0] 40)).heap.size = w.heap.size + 1 by simp] at h
    rw [hW]; exact h
  have zW : W.heap.size = w.heap.size + 2 := by rw [hW]; simp
  have hGw := h.lt
  have HC : Hid (Calls Tryz.prog 48 #[.pointer (some ⟨G, 0, none⟩)] W fun e w' => RcA W w' G e r) := (record_any n s hs G W (h.below bW)).mono fun e w' ⟨r', hr', h'⟩ => by rw [IsR.uniq hr hr']; exact h'
  have HB := hideIt (gr_below bW (some G))
  have HX0 := hideIt X0
  have HX1 := hideIt X1
  clear h bW X0 X1 hr
  cases r with
  | none =>
    go_enter_defers Tryz.func32, Tryz.ntmps32
    go_upto_region 1 with fail
    rw [← hW]
    clear hW
    go_wp2_with (go_at_call 48; refine HC.out.mono ?_; rintro e u ⟨rfl, gg⟩; refine Hid.out ?_)
    refine (show ∀ {p : Prop}, p → Hid p from fun h => h) ?_
    have Y0 := HX0.out.gr gg (by simp; omega)
    have Y1 := HX1.out.gr gg (by simp; omega)
    refine leaves_cons (f := 47) (args := #[.pointer (some ⟨w.heap.size, 0, none⟩), .pointer (some ⟨w.heap.size + 1, 0, none⟩)]) (by simp) (by simp [go_sem]) ?_
    refine (catch_panicking w.heap.size (w.heap.size + 1) false u Y0 Y1 (by omega)).mono ?_
    rintro e u' w'' ⟨rfl, rfl, rfl⟩
    have Z0 : BxQ ((setQ (u.alloc (.cells #[] 93)) w.heap.size 0 [.int .i64 0, .int .i64 0, .int .i64 0, .int .i64 0, .int .i64 0, .int .i64 0, .int .i64 0, .bool false, .slice none 0 0, .slice none 0 0, .int .i64 0, .int .i64 0, .slice none 0 0, .int .i64 0]).setCell ⟨w.heap.size + 1, 0, none⟩ (.bool false)) w.heap.size 40 #[.int .i64 0, .int .i64 0, .int .i64 0, .int .i64 0, .int .i64 0, .int .i64 0, .int .i64 0, .bool false, .slice none 0 0, .slice none 0 0, .int .i64 0, .int .i64 0, .slice none 0 0, .int .i64 0] := ((Y0.gr (World.grownBy_alloc _ _ none) (by simp)).setQ 0 [.int .i64 0, .int .i64 0, .int .i64 0, .int .i64 0, .int .i64 0, .int .i64 0, .int .i64 0, .bool false, .slice none 0 0, .slice none 0 0, .int .i64 0, .int .i64 0, .slice none 0 0, .int .i64 0]).setO _ (by omega)
    have Z1 : BxQ ((setQ (u.alloc (.cells #[] 93)) w.heap.size 0 [.int .i64 0, .int .i64 0, .int .i64 0, .int .i64 0, .int .i64 0, .int .i64 0, .int .i64 0, .bool false, .slice none 0 0, .slice none 0 0, .int .i64 0, .int .i64 0, .slice none 0 0, .int .i64 0]).setCell ⟨w.heap.size + 1, 0, none⟩ (.bool false)) (w.heap.size + 1) 4 #[.bool false] := box1 _ ((Y1.gr (World.grownBy_alloc _ _ none) (by simp)).setQO 0 _ (by omega))
    have HG : Hid (w.grownBy ((setQ (u.alloc (.cells #[] 93)) w.heap.size 0 [.int .i64 0, .int .i64 0, .int .i64 0, .int .i64 0, .int .i64 0, .int .i64 0, .int .i64 0, .bool false, .slice none 0 0, .slice none 0 0, .int .i64 0, .int .i64 0, .slice none 0 0, .int .i64 0]).setCell ⟨w.heap.size + 1, 0, none⟩ (.bool false)) (some G)) := gr_own (gr_own (gr_trans (gr_trans HB.out gg) (World.grownBy_alloc _ _ _)) (gr_setQ 0 _) (fun q hq => by simp at hq; omega)) (gr_set _ _ _ _) (fun q hq => by simp at hq; omega)
    generalize (setQ (u.alloc (.cells #[] 93)) w.heap.size 0 [.int .i64 0, .int .i64 0, .int .i64 0, .int .i64 0, .int .i64 0, .int .i64 0, .int .i64 0, .bool false, .slice none 0 0, .slice none 0 0, .int .i64 0, .int .i64 0, .slice none 0 0, .int .i64 0]).setCell ⟨w.heap.size + 1, 0, none⟩ (.bool false) = V at *
    have q0 := Z0.at 0 rfl
    have q1 := Z0.at 1 rfl
    have q2 := Z0.at 2 rfl
    have q3 := Z0.at 3 rfl
    have q4 := Z0.at 4 rfl
    have q5 := Z0.at 5 rfl
    have q6 := Z0.at 6 rfl
    have q7 := Z0.at 7 rfl
    have q8 := Z0.at 8 rfl
    have q9 := Z0.at 9 rfl
    have q10 := Z0.at 10 rfl
    have q11 := Z0.at 11 rfl
    have q12 := Z0.at 12 rfl
    have q13 := Z0.at 13 rfl
    have qb := Z1.at (l := [.bool false]) 0 rfl
    simp [Leaves, settle, results, Tryz.results32, go_sem, q0, q1, q2, q3, q4, q5, q6, q7, q8, q9, q10, q11, q12, q13, qb]
    refine ⟨⟨none, 0, 0, none, 0, 0, none, 0, 0, rfl, ⟨nilR _ _ _ _, nilR _ _ _ _, nilR _ _ _ _⟩, ⟨by omega, by omega, by omega⟩, .inl ⟨rfl, rfl⟩⟩, HG.out⟩
  | some r =>
    go_enter_defers Tryz.func32, Tryz.ntmps32
    go_upto_region 1 with fail
    rw [← hW]
    clear hW
    go_wp2_with (go_at_call 48; refine HC.out.mono ?_; rintro e u ⟨⟨a1, k1, c1, a2, k2, c2, a3, k3, c3, rfl, RR⟩, gg⟩; refine Hid.out ?_)
    refine (show ∀ {p : Prop}, p → Hid p from fun h => h) ?_
    have Y0 := HX0.out.gr gg (by simp; omega)
    have Y1 := HX1.out.gr gg (by simp; omega)
    have x0 := Y0.at 0 rfl
    have x1 := Y0.at 1 rfl
    have x2 := Y0.at 2 rfl
    have x3 := Y0.at 3 rfl
    have x4 := Y0.at 4 rfl
    have x5 := Y0.at 5 rfl
    have x6 := Y0.at 6 rfl
    have x7 := Y0.at 7 rfl
    have x8 := Y0.at 8 rfl
    have x9 := Y0.at 9 rfl
    have x10 := Y0.at 10 rfl
    have x11 := Y0.at 11 rfl
    have x12 := Y0.at 12 rfl
    have x13 := Y0.at 13 rfl
    have f0 := Y0.frozen 0
    have f1 := Y0.frozen 1
    have f2 := Y0.frozen 2
    have f3 := Y0.frozen 3
    have f4 := Y0.frozen 4
    have f5 := Y0.frozen 5
    have f6 := Y0.frozen 6
    have f7 := Y0.frozen 7
    have f8 := Y0.frozen 8
    have f9 := Y0.frozen 9
    have f10 := Y0.frozen 10
    have f11 := Y0.frozen 11
    have f12 := Y0.frozen 12
    have f13 := Y0.frozen 13
    have xb := Y1.at (l := [.bool false]) 0 rfl
    have fb := Y1.frozen 0
    obtain ⟨V, hV⟩ : ∃ V, V = ((((((((((((((u.setCell ⟨w.heap.size, 0, none⟩ (.int .i64 r.kind)).setCell ⟨w.heap.size, 1, none⟩ (.int .i64 r.id)).setCell ⟨w.heap.size, 2, none⟩ (.int .i64 r.op)).setCell ⟨w.heap.size, 3, none⟩ (.int .i64 r.a)).setCell ⟨w.heap.size, 4, none⟩ (.int .i64 r.b)).setCell ⟨w.heap.size, 5, none⟩ (.int .i64 r.sh)).setCell ⟨w.heap.size, 6, none⟩ (.int .i64 r.an.num)).setCell ⟨w.heap.size, 7, none⟩ (.bool r.an.ok)).setCell ⟨w.heap.size, 8, none⟩ (.slice a1 k1 c1)).setCell ⟨w.heap.size, 9, none⟩ (.slice a2 k2 c2)).setCell ⟨w.heap.size, 10, none⟩ (.int .i64 r.o.num)).setCell ⟨w.heap.size, 11, none⟩ (.int .i64 r.o.op)).setCell ⟨w.heap.size, 12, none⟩ (.slice a3 k3 c3)).setCell ⟨w.heap.size, 13, none⟩ (.int .i64 r.o.v)).setCell ⟨w.heap.size + 1, 0, none⟩ (.bool true) := ⟨_, rfl⟩
    have eV : V = (setQ u w.heap.size 0 [.int .i64 r.kind, .int .i64 r.id, .int .i64 r.op, .int .i64 r.a, .int .i64 r.b, .int .i64 r.sh, .int .i64 r.an.num, .bool r.an.ok, .slice a1 k1 c1, .slice a2 k2 c2, .int .i64 r.o.num, .int .i64 r.o.op, .slice a3 k3 c3, .int .i64 r.o.v]).setCell ⟨w.heap.size + 1, 0, none⟩ (.bool true) := hV
    have Z0 : BxQ V w.heap.size 40 #[.int .i64 r.kind, .int .i64 r.id, .int .i64 r.op, .int .i64 r.a, .int .i64 r.b, .int .i64 r.sh, .int .i64 r.an.num, .bool r.an.ok, .slice a1 k1 c1, .slice a2 k2 c2, .int .i64 r.o.num, .int .i64 r.o.op, .slice a3 k3 c3, .int .i64 r.o.v] := by rw [eV]; exact (Y0.setQ 0 [.int .i64 r.kind, .int .i64 r.id, .int .i64 r.op, .int .i64 r.a, .int .i64 r.b, .int .i64 r.sh, .int .i64 r.an.num, .bool r.an.ok, .slice a1 k1 c1, .slice a2 k2 c2, .int .i64 r.o.num, .int .i64 r.o.op, .slice a3 k3 c3, .int .i64 r.o.v]).setO _ (by omega)
    have Z1 : BxQ V (w.heap.size + 1) 4 #[.bool true] := by rw [eV]; exact box1 _ (Y1.setQO 0 _ (by omega))
    have HRR : Hid (RcR V W.heap.size r a1 k1 c1 a2 k2 c2 a3 k3 c3) := by
      show RcR _ _ _ _ _ _ _ _ _ _ _ _
      rw [eV]
      have Y2 := Y1.setQO (G := w.heap.size) 0 [.int .i64 r.kind, .int .i64 r.id, .int .i64 r.op, .int .i64 r.a, .int .i64 r.b, .int .i64 r.sh, .int .i64 r.an.num, .bool r.an.ok, .slice a1 k1 c1, .slice a2 k2 c2, .int .i64 r.o.num, .int .i64 r.o.op, .slice a3 k3 c3, .int .i64 r.o.v] (by omega)
      exact ⟨⟨own_kinds (own_kQ RR.1.1 Y0 (by decide) 0 _) Y2 (by decide), own_kinds (own_kQ RR.1.2.1 Y0 (by decide) 0 _) Y2 (by decide), own_kinds (own_kQ RR.1.2.2 Y0 (by decide) 0 _) Y2 (by decide)⟩, RR.2.1, RR.2.2⟩
    have HG : Hid (w.grownBy V (some G)) := by
      show World.grownBy _ _ _
      rw [eV]
      exact gr_own (gr_own (gr_trans HB.out gg) (gr_setQ 0 _) (fun q hq => by simp at hq; omega)) (gr_set _ _ _ _) (fun q hq => by simp at hq; omega)
    have HZ0 := hideIt Z0
    have HZ1 := hideIt Z1
    clear eV Z0 Z1 Y0 Y1 RR gg
    go_wp2
    rw [← hV]
    clear hV
    refine leaves_cons (f := 47) (args := #[.pointer (some ⟨w.heap.size, 0, none⟩), .pointer (some ⟨w.heap.size + 1, 0, none⟩)]) (by simp) (by simp [go_sem]) ?_
    refine (catch_idle w.heap.size (w.heap.size + 1) V).mono ?_
    rintro e u' w'' ⟨rfl, rfl, rfl⟩
    have Z0 := HZ0.out.gr (World.grownBy_alloc V (.cells #[] 93) none) (by simp)
    have Z1 := HZ1.out.gr (World.grownBy_alloc V (.cells #[] 93) none) (by simp)
    have HG2 := hideIt (gr_trans HG.out (World.grownBy_alloc V (.cells #[] 93) _))
    have HR2 : Hid (RcR (V.alloc (.cells #[] 93)) w.heap.size r a1 k1 c1 a2 k2 c2 a3 k3 c3) := ⟨⟨own_mono (HRR.out.1.1.alloc _) (by omega), own_mono (HRR.out.1.2.1.alloc _) (by omega), own_mono (HRR.out.1.2.2.alloc _) (by omega)⟩, HRR.out.2.1, HRR.out.2.2⟩
    generalize V.alloc (.cells #[] 93) = V9 at *
    have q0 := Z0.at 0 rfl
    have q1 := Z0.at 1 rfl
    have q2 := Z0.at 2 rfl
    have q3 := Z0.at 3 rfl
    have q4 := Z0.at 4 rfl
    have q5 := Z0.at 5 rfl
    have q6 := Z0.at 6 rfl
    have q7 := Z0.at 7 rfl
    have q8 := Z0.at 8 rfl
    have q9 := Z0.at 9 rfl
    have q10 := Z0.at 10 rfl
    have q11 := Z0.at 11 rfl
    have q12 := Z0.at 12 rfl
    have q13 := Z0.at 13 rfl
    have qb := Z1.at (l := [.bool true]) 0 rfl
    simp [Leaves, settle, results, Tryz.results32, go_sem, q0, q1, q2, q3, q4, q5, q6, q7, q8, q9, q10, q11, q12, q13, qb]
    refine ⟨⟨a1, k1, c1, a2, k2, c2, a3, k3, c3, rfl, HR2.out⟩, HG2.out⟩
set_option maxRecDepth 100000 in
set_option maxHeartbeats 4000000 in
theorem iReadRec_any (n : Int) (s : ByteArray) (hs : s.size ≤ 1048576) (w : World) (r : Option RecV) (hr : IsR n s.data.toList r) :
    Calls Tryz.prog 13 #[.int .i64 n, .string s] w fun e w' => ReA w w' e r ∧ Below w.heap.size w w' := by
  obtain ⟨W, hW⟩ : ∃ W, W = (w.alloc (.cells #[.int .i64 0, .int .i64 0, .int .i64 0, .int .i64 0, .int .i64 0, .int .i64 0, .int .i64 0, .bool false, .slice none 0 0, .slice none 0 0, .int .i64 0, .int .i64 0, .slice none 0 0, .int .i64 0] 40)).alloc (.cells #[.int .i64 n, .string s, .int .i64 0] 73) := ⟨_, rfl⟩
  have bW : Below w.heap.size w W := by rw [hW]; exact ((Below.refl _ _).alloc (Nat.le_refl _) _).alloc (by simp) _
  have X0 : BxQ W w.heap.size 40 #[.int .i64 0, .int .i64 0, .int .i64 0, .int .i64 0, .int .i64 0, .int .i64 0, .int .i64 0, .bool false, .slice none 0 0, .slice none 0 0, .int .i64 0, .int .i64 0, .slice none 0 0, .int .i64 0] := by rw [hW]; exact (BxQ.new w _ _).gr (World.grownBy_alloc _ _ none) (by simp)
  have X1 : RrAt W (w.heap.size + 1) n s 0 := by
    have h := BxQ.new (w.alloc (.cells #[.int .i64 0, .int .i64 0, .int .i64 0, .int .i64 0, .int .i64 0, .int .i64 0, .int .i64 0, .bool false, .slice none 0 0, .slice none 0 0, .int .i64 0, .int .i64 0, .slice none 0 0, .int .i64 0] 40)) 73 #[.int .i64 n, .string s, .int .i64 0]
    rw [show (w.alloc (.cells #[.int .i64 0, .int .i64 0, .int .i64 0, .int .i64 0, .int .i64 0, .int .i64 0, .int .i64 0, .bool false, .slice none 0 0, .slice none 0 0, .int .i64 0, .int .i64 0, .slice none 0 0, .int .i64 0] 40)).heap.size = w.heap.size + 1 by simp] at h
    rw [hW]; exact ⟨h, Nat.zero_le _⟩
  have zW : W.heap.size = w.heap.size + 2 := by rw [hW]; simp
  have HC := hideIt (read_any n s hs (w.heap.size + 1) W X1 r hr)
  have HB := hideIt bW
  have HX0 := hideIt X0
  clear bW X0 X1 hr
  go_enter Tryz.func13, Tryz.ntmps13
  go_upto_region 2 with fail
  rw [← hW]
  clear hW
  go_wp2_with (go_at_call 32; refine HC.out.mono ?_; rintro e u ⟨⟨a1, k1, c1, a2, k2, c2, a3, k3, c3, rfl, RR⟩, gg⟩; refine Hid.out ?_)
  refine (show ∀ {p : Prop}, p → Hid p from fun h => h) ?_
  have Y0 := HX0.out.gr gg (by simp)
  have x0 := Y0.at 0 rfl
  have x1 := Y0.at 1 rfl
  have x2 := Y0.at 2 rfl
  have x3 := Y0.at 3 rfl
  have x4 := Y0.at 4 rfl
  have x5 := Y0.at 5 rfl
  have x6 := Y0.at 6 rfl
  have x7 := Y0.at 7 rfl
  have x8 := Y0.at 8 rfl
  have x9 := Y0.at 9 rfl
  have x10 := Y0.at 10 rfl
  have x11 := Y0.at 11 rfl
  have x12 := Y0.at 12 rfl
  have x13 := Y0.at 13 rfl
  have f0 := Y0.frozen 0
  have f1 := Y0.frozen 1
  have f2 := Y0.frozen 2
  have f3 := Y0.frozen 3
  have f4 := Y0.frozen 4
  have f5 := Y0.frozen 5
  have f6 := Y0.frozen 6
  have f7 := Y0.frozen 7
  have f8 := Y0.frozen 8
  have f9 := Y0.frozen 9
  have f10 := Y0.frozen 10
  have f11 := Y0.frozen 11
  have f12 := Y0.frozen 12
  have f13 := Y0.frozen 13
  obtain ⟨V, hV⟩ : ∃ V, V = ((((((((((((((u.setCell ⟨w.heap.size, 0, none⟩ (.int .i64 (orR r).kind)).setCell ⟨w.heap.size, 1, none⟩ (.int .i64 (orR r).id)).setCell ⟨w.heap.size, 2, none⟩ (.int .i64 (orR r).op)).setCell ⟨w.heap.size, 3, none⟩ (.int .i64 (orR r).a)).setCell ⟨w.heap.size, 4, none⟩ (.int .i64 (orR r).b)).setCell ⟨w.heap.size, 5, none⟩ (.int .i64 (orR r).sh)).setCell ⟨w.heap.size, 6, none⟩ (.int .i64 (orR r).an.num)).setCell ⟨w.heap.size, 7, none⟩ (.bool (orR r).an.ok)).setCell ⟨w.heap.size, 8, none⟩ (.slice a1 k1 c1)).setCell ⟨w.heap.size, 9, none⟩ (.slice a2 k2 c2)).setCell ⟨w.heap.size, 10, none⟩ (.int .i64 (orR r).o.num)).setCell ⟨w.heap.size, 11, none⟩ (.int .i64 (orR r).o.op)).setCell ⟨w.heap.size, 12, none⟩ (.slice a3 k3 c3)).setCell ⟨w.heap.size, 13, none⟩ (.int .i64 (orR r).o.v)) := ⟨_, rfl⟩
  have eV : V = setQ u w.heap.size 0 [.int .i64 (orR r).kind, .int .i64 (orR r).id, .int .i64 (orR r).op, .int .i64 (orR r).a, .int .i64 (orR r).b, .int .i64 (orR r).sh, .int .i64 (orR r).an.num, .bool (orR r).an.ok, .slice a1 k1 c1, .slice a2 k2 c2, .int .i64 (orR r).o.num, .int .i64 (orR r).o.op, .slice a3 k3 c3, .int .i64 (orR r).o.v] := hV
  have Z0 : BxQ V w.heap.size 40 #[.int .i64 (orR r).kind, .int .i64 (orR r).id, .int .i64 (orR r).op, .int .i64 (orR r).a, .int .i64 (orR r).b, .int .i64 (orR r).sh, .int .i64 (orR r).an.num, .bool (orR r).an.ok, .slice a1 k1 c1, .slice a2 k2 c2, .int .i64 (orR r).o.num, .int .i64 (orR r).o.op, .slice a3 k3 c3, .int .i64 (orR r).o.v] := by rw [eV]; exact Y0.setQ 0 [.int .i64 (orR r).kind, .int .i64 (orR r).id, .int .i64 (orR r).op, .int .i64 (orR r).a, .int .i64 (orR r).b, .int .i64 (orR r).sh, .int .i64 (orR r).an.num, .bool (orR r).an.ok, .slice a1 k1 c1, .slice a2 k2 c2, .int .i64 (orR r).o.num, .int .i64 (orR r).o.op, .slice a3 k3 c3, .int .i64 (orR r).o.v]
  have HRR : Hid (RcR V w.heap.size (orR r) a1 k1 c1 a2 k2 c2 a3 k3 c3) := by
    show RcR _ _ _ _ _ _ _ _ _ _ _ _
    rw [eV]
    exact ⟨⟨own_mono (own_kQ RR.1.1 Y0 (by decide) 0 _) (by omega), own_mono (own_kQ RR.1.2.1 Y0 (by decide) 0 _) (by omega), own_mono (own_kQ RR.1.2.2 Y0 (by decide) 0 _) (by omega)⟩, RR.2.1, RR.2.2⟩
  have HG : Hid (Below w.heap.size w V) := by
    show Below _ _ _
    rw [eV]
    exact bel_grown (bel_grown HB.out gg (by omega)) (gr_setQ 0 _) (Nat.le_refl _)
  have q0 := Z0.at 0 rfl
  have q1 := Z0.at 1 rfl
  have q2 := Z0.at 2 rfl
  have q3 := Z0.at 3 rfl
  have q4 := Z0.at 4 rfl
  have q5 := Z0.at 5 rfl
  have q6 := Z0.at 6 rfl
  have q7 := Z0.at 7 rfl
  have q8 := Z0.at 8 rfl
  have q9 := Z0.at 9 rfl
  have q10 := Z0.at 10 rfl
  have q11 := Z0.at 11 rfl
  have q12 := Z0.at 12 rfl
  have q13 := Z0.at 13 rfl
  clear eV Z0 Y0 RR gg
  go_wp2
  rw [← hV]
  clear hV
  exact bodyPost_ret (v := .tuple #[.agg (recC (orR r) a1 k1 c1 a2 k2 c2 a3 k3 c3), .bool r.isSome]) (by simp [results, Tryz.results13, go_sem, q0, q1, q2, q3, q4, q5, q6, q7, q8, q9, q10, q11, q12, q13]) rfl ⟨⟨a1, k1, c1, a2, k2, c2, a3, k3, c3, rfl, HRR.out⟩, HG.out⟩
end Go.Proofs.YtcieanhbipbhgaaGreatDoor
