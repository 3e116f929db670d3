/- Marks in a new head's lists, and what stands of them. markHead and heldHead of a new head. The walk of FnExactHeadNew. -/
import Derived.Test.YtiidomopnmjhbaaKHn13
import Derived.Test.YtiidomopnmjhbaaKICmp
import Derived.Test.YtiidomopnmjhbaaKHq13
import Derived.Test.YtiidomopnmjhbaaKHr13
namespace Go.Proofs.Ytiidomopnmjhbaa
open Go.RowKit

theorem markSaidS_zero (a : Option Addr) (c : Nat) (k0 : Int) (w : World) :
    Calls Try.prog 98 #[.slice a 0 c, .int .i64 k0] w fun e w' => e = .returned (.int .i64 k0) ∧ w' = w := by
  go_enter Try.func98, Try.ntmps98
  go_wp2
  refine wp_loop_rounds 1 ?_
  rw [rounds_succ]
  go_wp2
  go_ret
  exact ⟨rfl, rfl⟩
theorem heldSaidS_zero (a : Option Addr) (c : Nat) (k0 : Int) (w : World) :
    Calls Try.prog 106 #[.slice a 0 c, .int .i64 k0] w fun e w' => e = .returned (.int .i64 k0) ∧ w' = w := by
  go_enter Try.func106, Try.ntmps106
  go_wp2
  refine wp_loop_rounds 1 ?_
  rw [rounds_succ]
  go_wp2
  go_ret
  exact ⟨rfl, rfl⟩
theorem heldEdgeS_zero (a : Option Addr) (c : Nat) (k0 : Int) (w : World) :
    Calls Try.prog 103 #[.slice a 0 c, .int .i64 k0] w fun e w' => e = .returned (.int .i64 k0) ∧ w' = w := by
  go_enter Try.func103, Try.ntmps103
  go_wp2
  refine wp_loop_rounds 1 ?_
  rw [rounds_succ]
  go_wp2
  go_ret
  exact ⟨rfl, rfl⟩
theorem markOrder_nil (k0 : Int) (w : World) : Calls Try.prog 134 #[.agg #[.int .i64 0, .int .i64 0, .slice none 0 0, .int .i64 0], .int .i64 k0] w fun e w' => e = .returned (.int .i64 k0) ∧ Below w.heap.size w w' := by
  have HT := hideIt (O.markEdgeS_zero none 0 k0)
  go_enter Try.func134, Try.ntmps134
  go_wp2_with (go_at_call 95; refine (HT.out _).mono ?_; rintro e w1 ⟨rfl, rfl⟩)
  go_ret
  exact ⟨rfl, belA _ _⟩
theorem heldOrder_nil (k0 : Int) (h0 : 0 ≤ k0) (w : World) : Calls Try.prog 135 #[.agg #[.int .i64 0, .int .i64 0, .slice none 0 0, .int .i64 0], .int .i64 k0] w fun e w' => e = .returned (.int .i64 k0) ∧ Below w.heap.size w w' := by
  have HT := hideIt (heldEdgeS_zero none 0 k0)
  have d0 : decide (k0 < 0) = false := decide_eq_false (by omega)
  go_enter Try.func135, Try.ntmps135
  go_wp2_with (go_at_call 103; refine (HT.out _).mono ?_; rintro e w1 ⟨rfl, rfl⟩)
  go_ret
  exact ⟨rfl, belA _ _⟩
abbrev tkZ : Value := .agg #[.int .i64 0, .int .i64 0, .int .i64 0, .int .i64 0, .int .i64 0, .int .i64 0, .int .i64 0, .slice none 0 0, .int .i64 0]
theorem markTask_nil (k0 : Int) (w : World) : Calls Try.prog 97 #[tkZ, .int .i64 k0] w fun e w' => e = .returned (.int .i64 k0) ∧ Below w.heap.size w w' := by
  have HT := hideIt (markOrder_nil k0)
  go_enter Try.func97, Try.ntmps97
  go_wp2_with (go_at_call 134; refine (HT.out _).mono ?_; rintro e w1 ⟨rfl, hb⟩)
  go_ret
  exact ⟨rfl, (belA _ _).trans (hb.mono (by simp))⟩
theorem heldTask_nil (k0 : Int) (h0 : 0 ≤ k0) (w : World) : Calls Try.prog 105 #[tkZ, .int .i64 k0] w fun e w' => e = .returned (.int .i64 k0) ∧ Below w.heap.size w w' := by
  have HT := hideIt (heldOrder_nil k0 h0)
  have d0 : decide (k0 < 0) = false := decide_eq_false (by omega)
  go_enter Try.func105, Try.ntmps105
  go_wp2_with (go_at_call 135; refine (HT.out _).mono ?_; rintro e w1 ⟨rfl, hb⟩)
  go_ret
  exact ⟨rfl, (belA _ _).trans (hb.mono (by simp))⟩
theorem markI13 {u : World} {base n c k0 : Nat} {a : Option Addr} {xs : List Value} (hn : n ≤ 1048576) (hk : k0 ≤ 10000000) (h : u.ownsRow base 3 1 (.slice a n c) n xs) :
    Calls Try.prog 94 #[.slice a n c, .int .i64 (k0 : Int)] u fun e v => e = .returned (.int .i64 ((k0 : Int) + (n : Int))) ∧ v.ownsRow base 3 1 (.slice a n c) n (ic (imarks k0 n)) ∧ u.grownBy v (Value.slice a n c).ownBlock := by
  rcases h.2 with ⟨hv, h0⟩ | ⟨g, cap, cur, hv, _⟩
  · simp at hv
    obtain ⟨rfl, rfl, rfl⟩ := hv
    refine (markIntS_zero none 0 (k0 : Int) u).mono fun e v ⟨he, hw⟩ => ?_
    subst hw
    exact ⟨by rw [he]; simp, World.ownsRow_nil _ _ _ _, grown_of_below (Below.refl _ _) _⟩
  · simp at hv
    obtain ⟨rfl, rfl⟩ := hv
    exact markIntS_any base g c n k0 xs hn hk u h
theorem mkR_g {k : Nat} {R : List Rw} {x : Rw} (h : x ∈ mkR k R) : ∃ r ∈ R, r.g = x.g := by
  induction R generalizing k with
  | nil => simp [mkR] at h
  | cons r R ih =>
    rw [mkR] at h
    rcases List.mem_cons.1 h with rfl | h
    · exact ⟨r, by simp, rfl⟩
    · obtain ⟨y, hy, e⟩ := ih h
      exact ⟨y, by simp [hy], e⟩
theorem own_tur {u v : World} {R : List Rw} {base e s n : Nat} {x : Value} {xs : List Value} (h : u.ownsRow base e s x n xs) (ht : Tur R u v) (hne : ∀ r ∈ R, x.ownBlock ≠ some r.g) : v.ownsRow base e s x n xs := by
  refine ⟨h.1, ?_⟩
  rcases h.2 with h3 | ⟨g, cap, cur, hv, hg, hcur, hrest⟩
  · exact .inl h3
  · have hgl := h.lt g (by rw [hv]; rfl)
    refine .inr ⟨g, cap, cur, hv, hg, ?_, hrest⟩
    rw [ht.block g hgl.2 fun r hr e => hne r hr (by rw [hv, e]; rfl)]
    exact hcur
end Go.Proofs.Ytiidomopnmjhbaa
namespace Go.Proofs.Ytiidomopnmjhbaa
open Go.RowKit

/-- a new head's lists, in blocks lo .. hi -/
structure HK (u : World) (lo hi : Nat) (aO : Option Addr) (v cO : Nat) (aL : Option Addr) (k cL : Nat) (aN : Option Addr) (R : List Rw) (os ns : List Int) : Prop where
  o : u.ownsRow lo 3 1 (.slice aO v cO) v (ic os)
  l : FB u lo hi aL k cL R
  n : u.ownsRow lo 3 1 (.slice aN k k) k (ic ns)
  oh : ∀ g, (Value.slice aO v cO).ownBlock = some g → g < hi
  nh : ∀ g, (Value.slice aN k k).ownBlock = some g → g < hi
  s : HSep (nwP aO v cO aL k cL aN) R
section
variable {u x : World} {lo hi l2 h2 : Nat} {aO : Option Addr} {v cO : Nat} {aL : Option Addr} {k cL : Nat} {aN : Option Addr} {R : List Rw} {os ns : List Int}
theorem HK.rng (h : HK u lo hi aO v cO aL k cL aN R os ns) (hr : Rng l2 h2 u x) (ho : hi ≤ l2 ∨ h2 ≤ lo) : HK x lo hi aO v cO aL k cL aN R os ns :=
  ⟨own_rng h.o hr (fun g hg => by have h1 := h.oh g hg; have h2 := (h.o.lt g hg).1; omega), h.l.rng hr ho, own_rng h.n hr (fun g hg => by have h1 := h.nh g hg; have h2 := (h.n.lt g hg).1; omega), h.oh, h.nh, h.s⟩
theorem HK.up (h : HK u lo hi aO v cO aL k cL aN R os ns) (hb : Below u.heap.size u x) : HK x lo hi aO v cO aL k cL aN R os ns := h.rng (l2 := hi) (h2 := hi) (Rng.of_below hb) (.inl (Nat.le_refl _))
theorem gr_rng13 {w w' : World} {row : Option Nat} {lo b : Nat} (h : w.grownBy w' row) (h1 : ∀ g, row = some g → lo ≤ g ∧ g < b) : Rng lo b w w' :=
  ⟨h.os, h.tape, h.output, h.size, fun k hk ho => h.block k hk (fun e => by have := h1 k e.symm; omega)⟩
theorem Rng.trans13 {u v x : World} {lo b : Nat} (h : Rng lo b u v) (k : Rng lo b v x) : Rng lo b u x :=
  ⟨k.os.trans h.os, k.tape.trans h.tape, k.output.trans h.output, Nat.le_trans h.size k.size, fun j hj ho => (k.block j (Nat.lt_of_lt_of_le hj h.size) ho).trans (h.block j hj ho)⟩
theorem fb_grown {u x : World} {lo hi : Nat} {a : Option Addr} {n c : Nat} {R : List Rw} {v : Value} {m B : Nat} {xs : List Value} (h : FB u lo hi a n c R) (ho : u.ownsRow B 3 1 v m xs) (hg : u.grownBy x v.ownBlock) (hne : ∀ r ∈ R, v.ownBlock ≠ some r.g) : FB x lo hi a n c R := by
  refine ⟨h.len, World.ownsRow.kept h.own hg ?_, h.row, Nat.le_trans h.there hg.size, fun r hr => ⟨(h.ins r hr).1.grown hg (hne r hr), (h.ins r hr).2⟩, h.nod⟩
  cases hb : (Value.slice a n c).ownBlock with
  | none => exact .inl rfl
  | some b => exact .inr fun e => rowsNe h.own ho (by decide) b hb e.symm
theorem HK.mO (h : HK u lo hi aO v cO aL k cL aN R os ns) {os' : List Int} (ho : x.ownsRow lo 3 1 (.slice aO v cO) v (ic os')) (hg : u.grownBy x (Value.slice aO v cO).ownBlock) : HK x lo hi aO v cO aL k cL aN R os' ns ∧ Rng lo hi u x := by
  refine ⟨⟨ho, fb_grown h.l h.o hg h.s.orr, World.ownsRow.kept h.n hg ?_, h.oh, h.nh, h.s⟩, gr_rng13 hg fun g e => ⟨(h.o.lt g e).1, h.oh g e⟩⟩
  cases hb : (Value.slice aO v cO).ownBlock with
  | none => cases hc : (Value.slice aN k k).ownBlock with
    | none => exact .inl rfl
    | some c => exact .inr (by simp)
  | some b => exact .inr fun e => h.s.on b hb e
theorem HK.mN (h : HK u lo hi aO v cO aL k cL aN R os ns) {ns' : List Int} (ho : x.ownsRow lo 3 1 (.slice aN k k) k (ic ns')) (hg : u.grownBy x (Value.slice aN k k).ownBlock) : HK x lo hi aO v cO aL k cL aN R os ns' ∧ Rng lo hi u x := by
  refine ⟨⟨World.ownsRow.kept h.o hg ?_, fb_grown h.l h.n hg h.s.nr, ho, h.oh, h.nh, h.s⟩, gr_rng13 hg fun g e => ⟨(h.n.lt g e).1, h.nh g e⟩⟩
  cases hb : (Value.slice aO v cO).ownBlock with
  | none => exact .inl rfl
  | some b => exact .inr fun e => h.s.on b hb e.symm
theorem HK.mL (h : HK u lo hi aO v cO aL k cL aN R os ns) {q : Nat} (hF : FB x lo hi aL k cL (mkR q R)) (ht : Tur R u x) : HK x lo hi aO v cO aL k cL aN (mkR q R) os ns ∧ Rng lo hi u x := by
  refine ⟨⟨own_tur h.o ht h.s.orr, hF, own_tur h.n ht h.s.nr, h.oh, h.nh, ⟨h.s.on, fun r hr => ?_, fun r hr => ?_⟩⟩, ht.rng fun r hr => (h.l.ins r hr).2⟩
  · obtain ⟨y, hy, e⟩ := mkR_g hr
    rw [← e]
    exact h.s.orr y hy
  · obtain ⟨y, hy, e⟩ := mkR_g hr
    rw [← e]
    exact h.s.nr y hy
theorem BxA.rng {b : Nat} {t : TypeId} {cs : Array Value} (h : BxA u b t cs) (hr : Rng lo hi u x) (ho : hi ≤ b) : BxA x b t cs := by
  unfold BxA
  rw [hr.block b h.lt (.inr ho)]
  exact h

set_option maxRecDepth 100000 in
set_option maxHeartbeats 4000000 in
theorem markHead_new (N : Int) (h : HK u lo hi aO v cO aL k cL aN R os ns) (hv : v ≤ 100) (hk : k ≤ 100) (hR : rn R ≤ 1000) :
    Calls Try.prog 44 #[.agg (hnC N aO v cO aL k cL aN k), .int .i64 1] u fun e y => e = .returned (.int .i64 (1 + (v : Int) + (rn R : Int) + (k : Int))) ∧ HK y lo hi aO v cO aL k cL aN (mkR (1 + v) R) (imarks 1 v) (imarks (1 + v + rn R) k) ∧ Rng lo hi u y := by
  have hb := belA u (.cells (hnC N aO v cO aL k cL aN k) 37)
  have X0 := BxA.new u 37 (hnC N aO v cO aL k cL aN k)
  obtain ⟨W, hW⟩ : ∃ W, W = u.alloc (.cells (hnC N aO v cO aL k cL aN k) 37) := ⟨_, rfl⟩
  rw [← hW] at hb X0
  have hhi := h.l.there
  have K0 := h.up hb
  have H1 : Hid (Calls Try.prog 94 #[.slice aO v cO, .int .i64 1] W fun e y => e = .returned (.int .i64 (1 + (v : Int))) ∧ Hid (HK y lo hi aO v cO aL k cL aN R (imarks 1 v) ns ∧ Rng lo hi W y)) :=
    (markI13 (k0 := 1) (by omega) (by omega) K0.o).mono fun e y ⟨h1, h2, h3⟩ => ⟨h1, K0.mO h2 h3⟩
  have HX := hideIt X0
  have x1 := X0.cell 1 rfl
  have HE := hideIt (O.markEdgeS_zero none 0)
  have HTk := hideIt markTask_nil
  have HSd := hideIt (markSaidS_zero none 0)
  have HB : Hid (Rng lo hi u W) := Rng.of_below hb
  clear h hb X0 K0
  go_enter Try.func44, Try.ntmps44
  go_upto_region 1 with fail
  rw [← hW]
  clear hW
  go_wp2_with (go_at_call 94; refine H1.out.mono ?_; rintro e w1 ⟨rfl, q1⟩; refine Hid.out ?_)
  refine (show ∀ {p : Prop}, p → Hid p from fun h => h) ?_
  have HX1 := hideIt (HX.out.rng q1.out.2 hhi)
  have HB1 := hideIt (HB.out.trans13 q1.out.2)
  have x2 := HX1.out.cell 2 rfl
  have x3 := HX1.out.cell 3 rfl
  have H2 : Hid (Calls Try.prog 96 #[.slice aL k cL, .int .i64 (1 + (v : Int))] w1 fun e y => e = .returned (.int .i64 (1 + (v : Int) + (rn R : Int))) ∧ Hid (HK y lo hi aO v cO aL k cL aN (mkR (1 + v) R) (imarks 1 v) ns ∧ Rng lo hi w1 y)) := by
    have h := markIntSS_any R lo hi k (1 + v) aL cL (by omega) (by omega) w1 q1.out.1.l
    rw [show ((1 + v : Nat) : Int) = 1 + (v : Int) by omega] at h
    exact h.mono fun e y ⟨h1, h2, h3⟩ => ⟨h1, q1.out.1.mL h2 h3⟩
  clear x1 H1 q1 HX HB
  go_wp2_with (first
    | (go_at_call 95; refine (HE.out _ _).mono ?_; rintro e w2 ⟨rfl, hw⟩; have hw' := hw.symm; subst hw'; clear hw)
    | (go_at_call 96; refine H2.out.mono ?_; rintro e w3 ⟨rfl, q3⟩; refine Hid.out ?_))
  refine (show ∀ {p : Prop}, p → Hid p from fun h => h) ?_
  have HX3 := hideIt (HX1.out.rng q3.out.2 hhi)
  have HB3 := hideIt (HB1.out.trans13 q3.out.2)
  have x4 := HX3.out.cell 4 rfl
  have H4 : Hid (Calls Try.prog 94 #[.slice aN k k, .int .i64 (1 + (v : Int) + (rn R : Int))] w3 fun e y => e = .returned (.int .i64 (1 + (v : Int) + (rn R : Int) + (k : Int))) ∧ Hid (HK y lo hi aO v cO aL k cL aN (mkR (1 + v) R) (imarks 1 v) (imarks (1 + v + rn R) k) ∧ Rng lo hi w3 y)) := by
    have h := markI13 (k0 := 1 + v + rn R) (by omega) (by omega) q3.out.1.n
    rw [show ((1 + v + rn R : Nat) : Int) = 1 + (v : Int) + (rn R : Int) by omega] at h
    exact h.mono fun e y ⟨h1, h2, h3⟩ => ⟨h1, q3.out.1.mN h2 h3⟩
  clear x2 x3 H2 q3 HX1 HB1
  go_wp2_with (go_at_call 94; refine H4.out.mono ?_; rintro e w4 ⟨rfl, q4⟩; refine Hid.out ?_)
  refine (show ∀ {p : Prop}, p → Hid p from fun h => h) ?_
  have HX4 := hideIt (HX3.out.rng q4.out.2 hhi)
  have HB4 := hideIt (HB3.out.trans13 q4.out.2)
  have x5 := HX4.out.cell 5 rfl
  have x6 := HX4.out.cell 6 rfl
  have x7 := HX4.out.cell 7 rfl
  have x8 := HX4.out.cell 8 rfl
  have x9 := HX4.out.cell 9 rfl
  have x10 := HX4.out.cell 10 rfl
  have x11 := HX4.out.cell 11 rfl
  have x12 := HX4.out.cell 12 rfl
  have x13 := HX4.out.cell 13 rfl
  have HQ4 := q4
  clear x4 H4 HX3 HB3 q4
  go_wp2_with (go_at_call 97; refine (HTk.out _ _).mono ?_; rintro e w5 ⟨rfl, b5⟩; refine Hid.out ?_)
  refine (show ∀ {p : Prop}, p → Hid p from fun h => h) ?_
  have x14 := (HX4.out.up b5).cell 14 rfl
  have HK5 := hideIt (HQ4.out.1.up b5)
  have HB5 := hideIt (HB4.out.trans13 (Rng.of_below b5))
  clear x5 x6 x7 x8 x9 x10 x11 x12 x13 b5 HX4 HB4 HQ4
  go_wp2_with (go_at_call 98; refine (HSd.out _ _).mono ?_; rintro e w6 ⟨rfl, hw⟩; have hw' := hw.symm; subst hw'; clear hw)
  go_ret
  exact ⟨rfl, HK5.out, HB5.out⟩

set_option maxRecDepth 100000 in
set_option maxHeartbeats 4000000 in
theorem heldHead_new (N : Int) (h : HK u lo hi aO v cO aL k cL aN (mkR (1 + v) R) (imarks 1 v) (imarks (1 + v + rn R) k)) (hv : v ≤ 100) (hk : k ≤ 100) (hR : rn R ≤ 1000) :
    Calls Try.prog 51 #[.agg (hnC N aO v cO aL k cL aN k), .int .i64 1] u fun e y => e = .returned (.int .i64 (1 + (v : Int) + (rn R : Int) + (k : Int))) ∧ Below u.heap.size u y := by
  have hb := belA u (.cells (hnC N aO v cO aL k cL aN k) 37)
  have X0 := BxA.new u 37 (hnC N aO v cO aL k cL aN k)
  obtain ⟨W, hW⟩ : ∃ W, W = u.alloc (.cells (hnC N aO v cO aL k cL aN k) 37) := ⟨_, rfl⟩
  rw [← hW] at hb X0
  have K0 := h.up hb
  have H1 := hideIt (heldIntS_any v 1 aO cO (by omega) (by omega) W (Is_of_own K0.o))
  have H2 := hideIt (heldIntSS_any R lo hi k (1 + v) aL cL (by omega) (by omega) W K0.l)
  rw [show ((1 + v : Nat) : Int) = 1 + (v : Int) by omega] at H2
  have H4 := hideIt (heldIntS_any k (1 + v + rn R) aN k (by omega) (by omega) W (Is_of_own K0.n))
  rw [show ((1 + v + rn R : Nat) : Int) = 1 + (v : Int) + (rn R : Int) by omega] at H4
  have d1 : decide (1 + (v : Int) < 0) = false := decide_eq_false (by omega)
  have d2 : decide (1 + (v : Int) + (rn R : Int) < 0) = false := decide_eq_false (by omega)
  have d3 : decide (1 + (v : Int) + (rn R : Int) + (k : Int) < 0) = false := decide_eq_false (by omega)
  have HE := hideIt (heldEdgeS_zero none 0)
  have HTk := hideIt (heldTask_nil (1 + (v : Int) + (rn R : Int) + (k : Int)) (by omega))
  have HSd := hideIt (heldSaidS_zero none 0)
  have HX := hideIt X0
  have x1 := X0.cell 1 rfl
  have x2 := X0.cell 2 rfl
  have x3 := X0.cell 3 rfl
  have x4 := X0.cell 4 rfl
  have x5 := X0.cell 5 rfl
  have x6 := X0.cell 6 rfl
  have x7 := X0.cell 7 rfl
  have x8 := X0.cell 8 rfl
  have x9 := X0.cell 9 rfl
  have x10 := X0.cell 10 rfl
  have x11 := X0.cell 11 rfl
  have x12 := X0.cell 12 rfl
  have x13 := X0.cell 13 rfl
  have HB := hideIt hb
  clear h hb X0 K0
  go_enter Try.func51, Try.ntmps51
  go_upto_region 1 with fail
  rw [← hW]
  clear hW
  go_wp2_with (go_at_call 102; refine H1.out.mono ?_; rintro e w1 ⟨rfl, hw⟩; have hw' := hw.symm; subst hw'; clear hw; refine Hid.out ?_)
  refine (show ∀ {p : Prop}, p → Hid p from fun h => h) ?_
  go_wp2_with (first
    | (go_at_call 103; refine (HE.out _ _).mono ?_; rintro e w1 ⟨rfl, hw⟩; have hw' := hw.symm; subst hw'; clear hw)
    | (go_at_call 104; refine H2.out.mono ?_; rintro e w1 ⟨rfl, hw⟩; have hw' := hw.symm; subst hw'; clear hw)
    | (go_at_call 102; refine H4.out.mono ?_; rintro e w1 ⟨rfl, hw⟩; have hw' := hw.symm; subst hw'; clear hw)
    | (go_at_call 105; refine (HTk.out _).mono ?_; rintro e w5 ⟨rfl, b5⟩; refine Hid.out ?_))
  refine (show ∀ {p : Prop}, p → Hid p from fun h => h) ?_
  have x14 := (HX.out.up b5).cell 14 rfl
  have HB5 := hideIt (HB.out.trans (b5.mono HB.out.size))
  clear x1 x2 x3 x4 x5 x6 x7 x8 x9 x10 x11 x12 x13 b5 HB HX
  go_wp2_with (go_at_call 106; refine (HSd.out _ _).mono ?_; rintro e w6 ⟨rfl, hw⟩; have hw' := hw.symm; subst hw'; clear hw)
  go_ret
  exact ⟨rfl, HB5.out⟩
end
end Go.Proofs.Ytiidomopnmjhbaa
namespace Go.Proofs.Ytiidomopnmjhbaa
open Go.RowKit

theorem hnC_eq {n sh : Int} {aO : Option Addr} {v cO : Nat} {aL : Option Addr} {k cL : Nat} {aN : Option Addr} : hC (hnH n sh) (nwP aO v cO aL k cL aN) = hnC (hnH n sh).N aO v cO aL k cL aN k := by
  unfold hnH
  split <;> rfl
theorem lnS_rep (s : Nat) (l : List Int) : lnS (List.replicate s l) = s * l.length := by simp [lnS]
theorem hn_small {u : World} {B : Nat} {n sh : Int} {aO : Option Addr} {v cO : Nat} {aL : Option Addr} {k cL : Nat} {aN : Option Addr} {R : List Rw} (h : HOwn u B (hnH n sh) (nwP aO v cO aL k cL aN) R) : v ≤ 100 ∧ k ≤ 100 ∧ rn R ≤ 1000 := by
  have h1 := h.o.1
  have h2 := h.l.len
  have h3 := h.r
  rw [rn_lnS, h3]
  have h4 := congrArg List.length h3
  rw [rts_len] at h4
  rw [ic_len] at h1
  by_cases hc : (1 ≤ n ∧ n ≤ 12) ∧ 1 ≤ sh ∧ sh ≤ 3
  · obtain ⟨nn, rfl⟩ : ∃ nn : Nat, n = (nn : Int) := ⟨n.toNat, by omega⟩
    obtain ⟨s, rfl⟩ : ∃ s : Nat, sh = (s : Int) := ⟨sh.toNat, by omega⟩
    have hy : (1 ≤ nn ∧ nn ≤ 12) ∧ 1 ≤ s ∧ s ≤ 3 := by omega
    rw [(hn_yes hy).1] at h1 h4 ⊢
    have e1 : (ownL s nn).length = v * 1 := h1
    have e2 : R.length = (List.replicate s (O.labs [] nn nn)).length := h4
    rw [ownL_len] at e1
    rw [List.length_replicate] at e2
    have e3 : lnS (newH nn s).lab = s * nn := by
      show lnS (List.replicate s (O.labs [] nn nn)) = _
      rw [lnS_rep, O.labs_len]
    rw [e3]
    have e4 : s * nn ≤ 3 * 12 := Nat.mul_le_mul hy.2.2 hy.1.2
    dsimp only at h2
    omega
  · rw [(hn_no hc).1] at h1 h4 ⊢
    have e1 : 0 = v * 1 := h1
    have e2 : R.length = 0 := h4
    have e3 : lnS zeroH.lab = 0 := rfl
    rw [e3]
    dsimp only at h2
    omega
theorem hn_fit {u : World} {B : Nat} {n sh : Int} {aO : Option Addr} {v cO : Nat} {aL : Option Addr} {k cL : Nat} {aN : Option Addr} {R : List Rw} (h : HOwn u B (hnH n sh) (nwP aO v cO aL k cL aN) R) : HFit (hnH n sh) (nwP aO v cO aL k cL aN) := by
  obtain ⟨h1, h2, h3⟩ := hn_small h
  have h4 := h.r
  rw [rn_lnS, h4] at h3
  exact ⟨by show v ≤ _; omega, Nat.zero_le _, by show k + _ ≤ _; omega, by show k ≤ _; omega, Nat.zero_le _, Nat.zero_le _⟩
theorem HOwn.hk {u : World} {B : Nat} {h : Hd} {aO : Option Addr} {v cO : Nat} {aL : Option Addr} {k cL : Nat} {aN : Option Addr} {R : List Rw} (q : HOwn u B h (nwP aO v cO aL k cL aN) R) (s : HSep (nwP aO v cO aL k cL aN) R) : HK u B u.heap.size aO v cO aL k cL aN R h.own h.nums := ⟨q.o, q.l, q.n, fun g hg => (q.o.lt g hg).2, fun g hg => (q.n.lt g hg).2, s⟩
theorem bupN {w u v : World} (h : Below w.heap.size w u) (hb : Below u.heap.size u v) : Below w.heap.size w v := h.trans (hb.mono h.size)
theorem BxA.d15 {u : World} {b : Nat} {t : TypeId} {v0 v1 v2 v3 v4 v5 v6 v7 v8 v9 v10 v11 v12 v13 v14 : Value} (x : BxA u b t #[v0, v1, v2, v3, v4, v5, v6, v7, v8, v9, v10, v11, v12, v13, v14]) : u.cell? ⟨b, 0, none⟩ = some v0 ∧ u.cell? ⟨b, 1, none⟩ = some v1 ∧ u.cell? ⟨b, 2, none⟩ = some v2 ∧ u.cell? ⟨b, 3, none⟩ = some v3 ∧ u.cell? ⟨b, 4, none⟩ = some v4 ∧ u.cell? ⟨b, 5, none⟩ = some v5 ∧ u.cell? ⟨b, 6, none⟩ = some v6 ∧ u.cell? ⟨b, 7, none⟩ = some v7 ∧ u.cell? ⟨b, 8, none⟩ = some v8 ∧ u.cell? ⟨b, 9, none⟩ = some v9 ∧ u.cell? ⟨b, 10, none⟩ = some v10 ∧ u.cell? ⟨b, 11, none⟩ = some v11 ∧ u.cell? ⟨b, 12, none⟩ = some v12 ∧ u.cell? ⟨b, 13, none⟩ = some v13 ∧ u.cell? ⟨b, 14, none⟩ = some v14 :=
  ⟨x.cell 0 rfl, x.cell 1 rfl, x.cell 2 rfl, x.cell 3 rfl, x.cell 4 rfl, x.cell 5 rfl, x.cell 6 rfl, x.cell 7 rfl, x.cell 8 rfl, x.cell 9 rfl, x.cell 10 rfl, x.cell 11 rfl, x.cell 12 rfl, x.cell 13 rfl, x.cell 14 rfl⟩

end Go.Proofs.Ytiidomopnmjhbaa
