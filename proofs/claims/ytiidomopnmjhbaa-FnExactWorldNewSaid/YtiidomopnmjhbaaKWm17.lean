/- Worlds marked and held. -/
import Derived.Test.YtiidomopnmjhbaaKWe17
namespace Go.Proofs.Ytiidomopnmjhbaa
open Go.RowKit

theorem Rng.wide {lo hi lo' hi' : Nat} {u v : World} (h : Rng lo hi u v) (h1 : lo' ≤ lo) (h2 : hi ≤ hi') : Rng lo' hi' u v := ⟨h.os, h.tape, h.output, h.size, fun k hk ho => h.block k hk (by omega)⟩
/-- a new world's lists, owned -/
structure WK (u : World) (lo hi h2 : Nat) (aO : Option Addr) (v cO : Nat) (aL : Option Addr) (k cL : Nat) (aN : Option Addr) (R : List Rw) (os ns : List Int) (aS : Option Addr) (nS cS : Nat) (aD : Option Addr) (nD cD : Nat) (aU : Option Addr) (nU cU : Nat) (cs ds us : List Value) : Prop where
  h : HK u lo hi aO v cO aL k cL aN R os ns
  s : u.ownsRow hi 80 7 (.slice aS nS cS) nS cs
  d : u.ownsRow hi 136 1 (.slice aD nD cD) nD ds
  b : u.ownsRow hi 4 1 (.slice aU nU cU) nU us
  sh : ∀ g, (Value.slice aS nS cS).ownBlock = some g → g < h2
  dh : ∀ g, (Value.slice aD nD cD).ownBlock = some g → g < h2
  bh : ∀ g, (Value.slice aU nU cU).ownBlock = some g → g < h2
  lo : lo ≤ hi
  le : hi ≤ h2
  there : h2 ≤ u.heap.size
theorem keptNe {u x : World} {B B' e e' s s' n n' : Nat} {a b : Value} {xs ys : List Value} (h : u.ownsRow B e s a n xs) (h' : u.ownsRow B' e' s' b n' ys) (hne : e ≠ e') (hg : u.grownBy x b.ownBlock) : x.ownsRow B e s a n xs := by
  refine World.ownsRow.kept h hg ?_
  cases hb : a.ownBlock with
  | none => cases hc : b.ownBlock with
    | none => exact .inl rfl
    | some c => exact .inr (by simp)
  | some g => exact .inr fun e => rowsNe h h' hne g hb e.symm
section
variable {u x : World} {lo hi h2 : Nat} {aO : Option Addr} {v cO : Nat} {aL : Option Addr} {k cL : Nat} {aN : Option Addr} {R : List Rw} {os ns : List Int} {aS : Option Addr} {nS cS : Nat} {aD : Option Addr} {nD cD : Nat} {aU : Option Addr} {nU cU : Nat} {cs ds us : List Value}
theorem WK.up (w : WK u lo hi h2 aO v cO aL k cL aN R os ns aS nS cS aD nD cD aU nU cU cs ds us) (hb : Below u.heap.size u x) : WK x lo hi h2 aO v cO aL k cL aN R os ns aS nS cS aD nD cD aU nU cU cs ds us :=
  ⟨w.h.up hb, own_up w.s hb, own_up w.d hb, own_up w.b hb, w.sh, w.dh, w.bh, w.lo, w.le, Nat.le_trans w.there hb.size⟩
theorem WK.mH (w : WK u lo hi h2 aO v cO aL k cL aN R os ns aS nS cS aD nD cD aU nU cU cs ds us) {R' : List Rw} {os' ns' : List Int} (hh : HK x lo hi aO v cO aL k cL aN R' os' ns') (hr : Rng lo hi u x) : WK x lo hi h2 aO v cO aL k cL aN R' os' ns' aS nS cS aD nD cD aU nU cU cs ds us ∧ Rng lo h2 u x :=
  ⟨⟨hh, own_rng w.s hr (fun g hg => by have := (w.s.lt g hg).1; omega), own_rng w.d hr (fun g hg => by have := (w.d.lt g hg).1; omega), own_rng w.b hr (fun g hg => by have := (w.b.lt g hg).1; omega), w.sh, w.dh, w.bh, w.lo, w.le, Nat.le_trans w.there hr.size⟩, hr.wide (Nat.le_refl _) w.le⟩
theorem WK.mS (w : WK u lo hi h2 aO v cO aL k cL aN R os ns aS nS cS aD nD cD aU nU cU cs ds us) {cs' : List Value} (ho : x.ownsRow hi 80 7 (.slice aS nS cS) nS cs') (hg : u.grownBy x (Value.slice aS nS cS).ownBlock) : WK x lo hi h2 aO v cO aL k cL aN R os ns aS nS cS aD nD cD aU nU cU cs' ds us ∧ Rng lo h2 u x := by
  have hr : Rng hi h2 u x := gr_rng13 hg fun g e => ⟨(w.s.lt g e).1, w.sh g e⟩
  exact ⟨⟨w.h.rng hr (.inl (Nat.le_refl _)), ho, keptNe w.d w.s (by decide) hg, keptNe w.b w.s (by decide) hg, w.sh, w.dh, w.bh, w.lo, w.le, Nat.le_trans w.there hr.size⟩, hr.wide w.lo (Nat.le_refl _)⟩
theorem WK.mB (w : WK u lo hi h2 aO v cO aL k cL aN R os ns aS nS cS aD nD cD aU nU cU cs ds us) {us' : List Value} (ho : x.ownsRow hi 4 1 (.slice aU nU cU) nU us') (hg : u.grownBy x (Value.slice aU nU cU).ownBlock) : WK x lo hi h2 aO v cO aL k cL aN R os ns aS nS cS aD nD cD aU nU cU cs ds us' ∧ Rng lo h2 u x := by
  have hr : Rng hi h2 u x := gr_rng13 hg fun g e => ⟨(w.b.lt g e).1, w.bh g e⟩
  exact ⟨⟨w.h.rng hr (.inl (Nat.le_refl _)), keptNe w.s w.b (by decide) hg, keptNe w.d w.b (by decide) hg, ho, w.sh, w.dh, w.bh, w.lo, w.le, Nat.le_trans w.there hr.size⟩, hr.wide w.lo (Nat.le_refl _)⟩
end
theorem markSh_zero (k0 : Int) (w : World) : Calls Try.prog 45 #[.slice none 0 0, .int .i64 k0] w fun e w' => e = .returned (.int .i64 k0) ∧ w' = w := by
  go_enter Try.func45, Try.ntmps45
  go_wp2
  refine wp_loop_rounds 1 ?_
  rw [rounds_succ]
  go_wp2
  go_ret
  exact ⟨rfl, rfl⟩
theorem markBo_zero (k0 : Int) (w : World) : Calls Try.prog 47 #[.slice none 0 0, .int .i64 k0] w fun e w' => e = .returned (.int .i64 k0) ∧ w' = w := by
  go_enter Try.func47, Try.ntmps47
  go_wp2
  refine wp_loop_rounds 1 ?_
  rw [rounds_succ]
  go_wp2
  go_ret
  exact ⟨rfl, rfl⟩
theorem markS17 {u : World} {base n c k0 : Nat} {a : Option Addr} {cs : List Value} (hn : n ≤ 1048576) (hk : k0 ≤ 10000000) (h : u.ownsRow base 80 7 (.slice a n c) n cs) (he : ∀ t < n, ∃ x, El cs t x) :
    Calls Try.prog 45 #[.slice a n c, .int .i64 (k0 : Int)] u fun e v => e = .returned (.int .i64 ((k0 : Int) + (n : Int) * 4)) ∧ (∃ cs, v.ownsRow base 80 7 (.slice a n c) n cs ∧ ∀ t < n, El cs t (smk k0 t)) ∧ u.grownBy v (Value.slice a n c).ownBlock := by
  rcases h.2 with ⟨hv, h0⟩ | ⟨g, cap, cur, hv, _⟩
  · simp at hv
    obtain ⟨rfl, rfl, rfl⟩ := hv
    refine (markSh_zero (k0 : Int) u).mono fun e v ⟨he, hw⟩ => ?_
    subst hw
    exact ⟨by rw [he]; simp, ⟨[], World.ownsRow_nil _ _ _ _, fun t ht => absurd ht (by omega)⟩, grown_of_below (Below.refl _ _) _⟩
  · simp at hv
    obtain ⟨rfl, rfl⟩ := hv
    exact markShardS_any base g c n k0 cs hn hk u h he
theorem markB17 {u : World} {base n c k0 : Nat} {a : Option Addr} {xs : List Value} (hn : n ≤ 1048576) (hk : k0 ≤ 10000000) (h : u.ownsRow base 4 1 (.slice a n c) n xs) :
    Calls Try.prog 47 #[.slice a n c, .int .i64 (k0 : Int)] u fun e v => e = .returned (.int .i64 ((k0 : Int) + (n : Int))) ∧ v.ownsRow base 4 1 (.slice a n c) n (bmarks k0 n) ∧ u.grownBy v (Value.slice a n c).ownBlock := by
  rcases h.2 with ⟨hv, h0⟩ | ⟨g, cap, cur, hv, _⟩
  · simp at hv
    obtain ⟨rfl, rfl, rfl⟩ := hv
    refine (markBo_zero (k0 : Int) u).mono fun e v ⟨he, hw⟩ => ?_
    subst hw
    exact ⟨by rw [he]; simp, World.ownsRow_nil _ _ _ _, grown_of_below (Below.refl _ _) _⟩
  · simp at hv
    obtain ⟨rfl, rfl⟩ := hv
    exact markBoolS_any base g c n k0 xs hn hk u h
section
variable {u x : World} {lo hi h2 : Nat} {aO : Option Addr} {v cO : Nat} {aL : Option Addr} {k cL : Nat} {aN : Option Addr} {R : List Rw} {os ns : List Int} {aS : Option Addr} {nS cS : Nat} {aD : Option Addr} {nD cD : Nat} {aU : Option Addr} {nU cU : Nat} {cs ds us : List Value}
set_option maxRecDepth 100000 in
set_option maxHeartbeats 8000000 in
theorem markWorld_new (M N : Int) (q1 q2 q3 : Nat) (e1 : q1 = 1 + v + rn R + k) (e2 : q2 = q1 + nS * 4) (e3 : q3 = q2 + nU) (w : WK u lo hi h2 aO v cO aL k cL aN R os ns aS nS cS aD nD cD aU nU cU cs (List.replicate nD (.slice none 0 0)) us) (he : ∀ t < nS, ∃ x, El cs t x)
    (hv : v ≤ 100) (hk : k ≤ 100) (hR : rn R ≤ 1000) (hnS : nS ≤ 100) (hnD : nD ≤ 100) (hnU : nU ≤ 100) :
    Calls Try.prog 16 #[.agg #[.int .i64 M, .int .i64 N, .slice aO v cO, .slice none 0 0, .slice aL k cL, .slice aN k k, .int .i64 0, .int .i64 0, .int .i64 0, .int .i64 0, .int .i64 0, .int .i64 0, .int .i64 0, .slice none 0 0, .int .i64 0, .slice none 0 0, .slice aS nS cS, .slice aD nD cD, .slice aU nU cU, .slice none 0 0, .slice none 0 0, .slice none 0 0], .int .i64 1] u fun e y => e = .returned (.int .i64 (q3 : Int)) ∧ (∃ cs', WK y lo hi h2 aO v cO aL k cL aN (mkR (1 + v) R) (imarks 1 v) (imarks (1 + v + rn R) k) aS nS cS aD nD cD aU nU cU cs' (List.replicate nD (.slice none 0 0)) (bmarks q2 nU) ∧ ∀ t < nS, El cs' t (smk q1 t)) ∧ Rng lo h2 u y := by
  obtain ⟨W, hW⟩ : ∃ W, W = u.alloc (.cells #[.int .i64 M, .int .i64 N, .slice aO v cO, .slice none 0 0, .slice aL k cL, .slice aN k k, .int .i64 0, .int .i64 0, .int .i64 0, .int .i64 0, .int .i64 0, .int .i64 0, .int .i64 0, .slice none 0 0, .int .i64 0, .slice none 0 0, .slice aS nS cS, .slice aD nD cD, .slice aU nU cU, .slice none 0 0, .slice none 0 0, .slice none 0 0] 52) := ⟨_, rfl⟩
  have hb : Below u.heap.size u W := by rw [hW]; exact belA _ _
  have X0 : BxA W u.heap.size 52 #[.int .i64 M, .int .i64 N, .slice aO v cO, .slice none 0 0, .slice aL k cL, .slice aN k k, .int .i64 0, .int .i64 0, .int .i64 0, .int .i64 0, .int .i64 0, .int .i64 0, .int .i64 0, .slice none 0 0, .int .i64 0, .slice none 0 0, .slice aS nS cS, .slice aD nD cD, .slice aU nU cU, .slice none 0 0, .slice none 0 0, .slice none 0 0] := by rw [hW]; exact BxA.new _ _ _
  have K0 := w.up hb
  have ht : h2 ≤ u.heap.size := w.there
  have H1 : Hid (Calls Try.prog 44 #[.agg #[.int .i64 N, .slice aO v cO, .slice none 0 0, .slice aL k cL, .slice aN k k, .int .i64 0, .int .i64 0, .int .i64 0, .int .i64 0, .int .i64 0, .int .i64 0, .int .i64 0, .slice none 0 0, .int .i64 0, .slice none 0 0], .int .i64 1] W fun e y => e = .returned (.int .i64 (q1 : Int)) ∧ Hid (WK y lo hi h2 aO v cO aL k cL aN (mkR (1 + v) R) (imarks 1 v) (imarks (1 + v + rn R) k) aS nS cS aD nD cD aU nU cU cs (List.replicate nD (.slice none 0 0)) us ∧ Rng lo h2 W y)) := by
    have h := markHead_new N K0.h hv hk hR
    rw [show (1 + (v : Int) + (rn R : Int) + (k : Int)) = (q1 : Int) by omega] at h
    exact h.mono fun e y ⟨h1, h2, h3⟩ => ⟨h1, K0.mH h2 h3⟩
  have HX := hideIt X0
  have HB : Hid (Rng lo h2 u W) := Rng.of_below hb
  have HE := hideIt he
  have HN1 := hideIt (markPacketS_nil (q3 : Int))
  have HN2 := hideIt (markCallS_nil (q3 : Int))
  have HN3 := hideIt (markRecS_nil (q3 : Int))
  have f1 : Hid (((q1 : Nat) : Int) + (nS : Int) * 4 = (q2 : Int)) := by show _ = _; omega
  have f2 : Hid (((q2 : Nat) : Int) + (nU : Int) = (q3 : Int)) := by show _ = _; omega
  have g1 : Hid (q1 ≤ 10000000) := by show _ ≤ _; omega
  have g2 : Hid (q2 ≤ 10000000) := by show _ ≤ _; omega
  have x1 := X0.cell 1 rfl
  have x2 := X0.cell 2 rfl
  have x3 := X0.cell 3 rfl
  have x4 := X0.cell 4 rfl
  have x5 := X0.cell 5 rfl
  have x6 := X0.cell 6 rfl
  have x7 := X0.cell 7 rfl
  have x8 := X0.cell 8 rfl
  have x9 := X0.cell 9 rfl
  have x10 := X0.cell 10 rfl
  have x11 := X0.cell 11 rfl
  have x12 := X0.cell 12 rfl
  have x13 := X0.cell 13 rfl
  have x14 := X0.cell 14 rfl
  have x15 := X0.cell 15 rfl
  clear w hb X0 K0 he e1 e2 e3
  go_enter Try.func16, Try.ntmps16
  go_upto_region 1 with fail
  rw [← hW]
  clear hW
  go_wp2_with (go_at_call 44; refine H1.out.mono ?_; rintro e w1 ⟨rfl, r1⟩; refine Hid.out ?_)
  refine hidw ?_
  have HX1 := hideIt (HX.out.rng r1.out.2 ht)
  have HB1 := hideIt (HB.out.trans13 r1.out.2)
  have x16 := HX1.out.cell 16 rfl
  have H2 : Hid (Calls Try.prog 45 #[.slice aS nS cS, .int .i64 (q1 : Int)] w1 fun e y => e = .returned (.int .i64 (q2 : Int)) ∧ Hid ((∃ cs', WK y lo hi h2 aO v cO aL k cL aN (mkR (1 + v) R) (imarks 1 v) (imarks (1 + v + rn R) k) aS nS cS aD nD cD aU nU cU cs' (List.replicate nD (.slice none 0 0)) us ∧ ∀ t < nS, El cs' t (smk q1 t)) ∧ Rng lo h2 w1 y)) := by
    have h := markS17 (k0 := q1) (by omega) g1.out r1.out.1.s HE.out
    rw [f1.out] at h
    exact h.mono fun e y ⟨h1, ⟨cs', h2, h3⟩, h4⟩ => ⟨h1, ⟨⟨cs', (r1.out.1.mS h2 h4).1, h3⟩, (r1.out.1.mS h2 h4).2⟩⟩
  clear x1 x2 x3 x4 x5 x6 x7 x8 x9 x10 x11 x12 x13 x14 x15 H1 r1 HX HB HE f1
  go_wp2_with (go_at_call 45; refine H2.out.mono ?_; rintro e w2 ⟨rfl, r2⟩; refine Hid.out ?_)
  refine hidw ?_
  have HX2 := hideIt (HX1.out.rng r2.out.2 ht)
  have HB2 := hideIt (HB1.out.trans13 r2.out.2)
  obtain ⟨⟨cs', K2, E2⟩, _⟩ := r2.out
  have HE2 := hideIt E2
  have x17 := HX2.out.cell 17 rfl
  have x18 := HX2.out.cell 18 rfl
  have H3 := hideIt (markDiskS_rep nD aD cD (q2 : Int) (by omega) (by omega) w2 (Vq.of_own K2.d))
  have H4 : Hid (Calls Try.prog 47 #[.slice aU nU cU, .int .i64 (q2 : Int)] w2 fun e y => e = .returned (.int .i64 (q3 : Int)) ∧ Hid (WK y lo hi h2 aO v cO aL k cL aN (mkR (1 + v) R) (imarks 1 v) (imarks (1 + v + rn R) k) aS nS cS aD nD cD aU nU cU cs' (List.replicate nD (.slice none 0 0)) (bmarks q2 nU) ∧ Rng lo h2 w2 y)) := by
    have h := markB17 (k0 := q2) (by omega) g2.out K2.b
    rw [f2.out] at h
    exact h.mono fun e y ⟨h1, h2, h3⟩ => ⟨h1, K2.mB h2 h3⟩
  clear x16 H2 r2 HX1 HB1 K2 E2 f2 g1 g2
  go_wp2_with (first
    | (go_at_call 46; refine H3.out.mono ?_; rintro e w3 ⟨rfl, hw⟩; have hw' := hw.symm; subst hw'; clear hw)
    | (go_at_call 47; refine H4.out.mono ?_; rintro e w4 ⟨rfl, r4⟩; refine Hid.out ?_))
  refine hidw ?_
  have X4 := HX2.out.rng r4.out.2 ht
  have HB4 := hideIt (HB2.out.trans13 r4.out.2)
  have x19 := X4.cell 19 rfl
  have x20 := X4.cell 20 rfl
  have x21 := X4.cell 21 rfl
  clear x17 x18 H3 H4 HX2 HB2 X4
  go_wp2_with (first
    | (go_at_call 48; refine (HN1.out _).mono ?_; rintro e w5 ⟨rfl, hw⟩; have hw' := hw.symm; subst hw'; clear hw)
    | (go_at_call 49; refine (HN2.out _).mono ?_; rintro e w6 ⟨rfl, hw⟩; have hw' := hw.symm; subst hw'; clear hw)
    | (go_at_call 50; refine (HN3.out _).mono ?_; rintro e w7 ⟨rfl, hw⟩; have hw' := hw.symm; subst hw'; clear hw))
  go_ret
  exact ⟨rfl, ⟨cs', r4.out.1, HE2.out⟩, HB4.out⟩
set_option maxRecDepth 100000 in
set_option maxHeartbeats 8000000 in
theorem heldWorld_new (M N : Int) (q1 q2 q3 : Nat) (e1 : q1 = 1 + v + rn R + k) (e2 : q2 = q1 + nS * 4) (e3 : q3 = q2 + nU) (w : WK u lo hi h2 aO v cO aL k cL aN (mkR (1 + v) R) (imarks 1 v) (imarks (1 + v + rn R) k) aS nS cS aD nD cD aU nU cU cs (List.replicate nD (.slice none 0 0)) (bmarks q2 nU)) (he : ∀ t < nS, El cs t (smk q1 t))
    (hv : v ≤ 100) (hk : k ≤ 100) (hR : rn R ≤ 1000) (hnS : nS ≤ 100) (hnD : nD ≤ 100) (hnU : nU ≤ 100) :
    Calls Try.prog 17 #[.agg #[.int .i64 M, .int .i64 N, .slice aO v cO, .slice none 0 0, .slice aL k cL, .slice aN k k, .int .i64 0, .int .i64 0, .int .i64 0, .int .i64 0, .int .i64 0, .int .i64 0, .int .i64 0, .slice none 0 0, .int .i64 0, .slice none 0 0, .slice aS nS cS, .slice aD nD cD, .slice aU nU cU, .slice none 0 0, .slice none 0 0, .slice none 0 0], .int .i64 1] u fun e y => e = .returned (.int .i64 (q3 : Int)) ∧ Below u.heap.size u y := by
  obtain ⟨W, hW⟩ : ∃ W, W = u.alloc (.cells #[.int .i64 M, .int .i64 N, .slice aO v cO, .slice none 0 0, .slice aL k cL, .slice aN k k, .int .i64 0, .int .i64 0, .int .i64 0, .int .i64 0, .int .i64 0, .int .i64 0, .int .i64 0, .slice none 0 0, .int .i64 0, .slice none 0 0, .slice aS nS cS, .slice aD nD cD, .slice aU nU cU, .slice none 0 0, .slice none 0 0, .slice none 0 0] 52) := ⟨_, rfl⟩
  have hb : Below u.heap.size u W := by rw [hW]; exact belA _ _
  have X0 : BxA W u.heap.size 52 #[.int .i64 M, .int .i64 N, .slice aO v cO, .slice none 0 0, .slice aL k cL, .slice aN k k, .int .i64 0, .int .i64 0, .int .i64 0, .int .i64 0, .int .i64 0, .int .i64 0, .int .i64 0, .slice none 0 0, .int .i64 0, .slice none 0 0, .slice aS nS cS, .slice aD nD cD, .slice aU nU cU, .slice none 0 0, .slice none 0 0, .slice none 0 0] := by rw [hW]; exact BxA.new _ _ _
  have K0 := w.up hb
  have H1 : Hid (Calls Try.prog 51 #[.agg #[.int .i64 N, .slice aO v cO, .slice none 0 0, .slice aL k cL, .slice aN k k, .int .i64 0, .int .i64 0, .int .i64 0, .int .i64 0, .int .i64 0, .int .i64 0, .int .i64 0, .slice none 0 0, .int .i64 0, .slice none 0 0], .int .i64 1] W fun e y => e = .returned (.int .i64 (q1 : Int)) ∧ Below W.heap.size W y) := by
    have h := heldHead_new N K0.h hv hk hR
    rw [show (1 + (v : Int) + (rn R : Int) + (k : Int)) = (q1 : Int) by omega] at h
    exact h
  have HX := hideIt X0
  have HB := hideIt hb
  have HK0 := hideIt K0
  have HE := hideIt he
  have HN1 := hideIt (heldPacketS_nil (q3 : Int))
  have HN2 := hideIt (heldCallS_nil (q3 : Int))
  have HN3 := hideIt (heldRecS_nil (q3 : Int))
  have f1 : Hid (((q1 : Nat) : Int) + (nS : Int) * 4 = (q2 : Int)) := by show _ = _; omega
  have f2 : Hid (((q2 : Nat) : Int) + (nU : Int) = (q3 : Int)) := by show _ = _; omega
  have g1 : Hid (q1 ≤ 10000000) := by show _ ≤ _; omega
  have g2 : Hid (q2 ≤ 10000000) := by show _ ≤ _; omega
  have d1 : decide (((q1 : Nat) : Int) < 0) = false := decide_eq_false (by omega)
  have d2 : decide (((q2 : Nat) : Int) < 0) = false := decide_eq_false (by omega)
  have d3 : decide (((q3 : Nat) : Int) < 0) = false := decide_eq_false (by omega)
  have x1 := X0.cell 1 rfl
  have x2 := X0.cell 2 rfl
  have x3 := X0.cell 3 rfl
  have x4 := X0.cell 4 rfl
  have x5 := X0.cell 5 rfl
  have x6 := X0.cell 6 rfl
  have x7 := X0.cell 7 rfl
  have x8 := X0.cell 8 rfl
  have x9 := X0.cell 9 rfl
  have x10 := X0.cell 10 rfl
  have x11 := X0.cell 11 rfl
  have x12 := X0.cell 12 rfl
  have x13 := X0.cell 13 rfl
  have x14 := X0.cell 14 rfl
  have x15 := X0.cell 15 rfl
  clear w hb X0 K0 he e1 e2 e3
  go_enter Try.func17, Try.ntmps17
  go_upto_region 1 with fail
  rw [← hW]
  clear hW
  go_wp2_with (go_at_call 51; refine H1.out.mono ?_; rintro e w1 ⟨rfl, b1⟩; refine Hid.out ?_)
  refine hidw ?_
  have X1 := HX.out.up b1
  have K1 := HK0.out.up b1
  have HB1 := hideIt (bupN HB.out b1)
  have z16 := X1.cell 16 rfl
  have z17 := X1.cell 17 rfl
  have z18 := X1.cell 18 rfl
  have z19 := X1.cell 19 rfl
  have z20 := X1.cell 20 rfl
  have z21 := X1.cell 21 rfl
  have H2 : Hid (Calls Try.prog 52 #[.slice aS nS cS, .int .i64 (q1 : Int)] w1 fun e y => e = .returned (.int .i64 (q2 : Int)) ∧ y = w1) := by
    have h := heldShardS_any nS q1 aS cS (by omega) g1.out w1 (Sq.of_own K1.s HE.out)
    rw [f1.out] at h
    exact h
  have H3 := hideIt (heldDiskS_rep nD aD cD (q2 : Int) (by omega) (by omega) w1 (Vq.of_own K1.d))
  have H4 : Hid (Calls Try.prog 54 #[.slice aU nU cU, .int .i64 (q2 : Int)] w1 fun e y => e = .returned (.int .i64 (q3 : Int)) ∧ y = w1) := by
    have h := heldBoolS_any nU q2 aU cU (by omega) g2.out w1 (Vq.of_own K1.b)
    rw [f2.out] at h
    exact h
  clear x1 x2 x3 x4 x5 x6 x7 x8 x9 x10 x11 x12 x13 x14 x15 H1 X1 K1 HX HB HE HK0 f1 f2 g1 g2 b1
  go_wp2_with (first
    | (go_at_call 52; refine H2.out.mono ?_; rintro e w2 ⟨rfl, hw⟩; have hw' := hw.symm; subst hw'; clear hw)
    | (go_at_call 53; refine H3.out.mono ?_; rintro e w3 ⟨rfl, hw⟩; have hw' := hw.symm; subst hw'; clear hw)
    | (go_at_call 54; refine H4.out.mono ?_; rintro e w4 ⟨rfl, hw⟩; have hw' := hw.symm; subst hw'; clear hw)
    | (go_at_call 55; refine (HN1.out _).mono ?_; rintro e w5 ⟨rfl, hw⟩; have hw' := hw.symm; subst hw'; clear hw)
    | (go_at_call 56; refine (HN2.out _).mono ?_; rintro e w6 ⟨rfl, hw⟩; have hw' := hw.symm; subst hw'; clear hw)
    | (go_at_call 57; refine (HN3.out _).mono ?_; rintro e w7 ⟨rfl, hw⟩; have hw' := hw.symm; subst hw'; clear hw))
  go_ret
  exact ⟨rfl, HB1.out⟩
end
end Go.Proofs.Ytiidomopnmjhbaa
