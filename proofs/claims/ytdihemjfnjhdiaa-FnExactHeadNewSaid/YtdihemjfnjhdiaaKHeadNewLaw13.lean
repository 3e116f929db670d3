/- The walk of FnExactHeadNew. -/
import Derived.Test.YtdihemjfnjhdiaaKHr13
import Derived.Test.YtdihemjfnjhdiaaKHt13
namespace Go.Proofs.Ytdihemjfnjhdiaa
open Go.RowKit

theorem hnC_eq {n sh : Int} {aO : Option Addr} {v cO : Nat} {aL : Option Addr} {k cL : Nat} {aN : Option Addr} : hC (hnH n sh) (nwP aO v cO aL k cL aN) = hnC (hnH n sh).N aO v cO aL k cL aN k := by
  unfold hnH
  split <;> rfl
theorem lnS_rep (s : Nat) (l : List Int) : lnS (List.replicate s l) = s * l.length := by simp [lnS]
theorem hn_small {u : World} {B : Nat} {n sh : Int} {aO : Option Addr} {v cO : Nat} {aL : Option Addr} {k cL : Nat} {aN : Option Addr} {R : List Rw} (h : HOwn u B (hnH n sh) (nwP aO v cO aL k cL aN) R) : v ≤ 100 ∧ k ≤ 100 ∧ rn R ≤ 1000 := by
  have h1 := h.o.1
  have h2 := h.l.len
  have h3 := h.r
  rw [rn_lnS, h3]
  have h4 := congrArg List.length h3
  rw [rts_len] at h4
  rw [ic_len] at h1
  by_cases hc : (1 ≤ n ∧ n ≤ 12) ∧ 1 ≤ sh ∧ sh ≤ 3
  · obtain ⟨nn, rfl⟩ : ∃ nn : Nat, n = (nn : Int) := ⟨n.toNat, by omega⟩
    obtain ⟨s, rfl⟩ : ∃ s : Nat, sh = (s : Int) := ⟨sh.toNat, by omega⟩
    have hy : (1 ≤ nn ∧ nn ≤ 12) ∧ 1 ≤ s ∧ s ≤ 3 := by omega
    rw [(hn_yes hy).1] at h1 h4 ⊢
    have e1 : (ownL s nn).length = v * 1 := h1
    have e2 : R.length = (List.replicate s (O.labs [] nn nn)).length := h4
    rw [ownL_len] at e1
    rw [List.length_replicate] at e2
    have e3 : lnS (newH nn s).lab = s * nn := by
      show lnS (List.replicate s (O.labs [] nn nn)) = _
      rw [lnS_rep, O.labs_len]
    rw [e3]
    have e4 : s * nn ≤ 3 * 12 := Nat.mul_le_mul hy.2.2 hy.1.2
    dsimp only at h2
    omega
  · rw [(hn_no hc).1] at h1 h4 ⊢
    have e1 : 0 = v * 1 := h1
    have e2 : R.length = 0 := h4
    have e3 : lnS zeroH.lab = 0 := rfl
    rw [e3]
    dsimp only at h2
    omega
theorem hn_fit {u : World} {B : Nat} {n sh : Int} {aO : Option Addr} {v cO : Nat} {aL : Option Addr} {k cL : Nat} {aN : Option Addr} {R : List Rw} (h : HOwn u B (hnH n sh) (nwP aO v cO aL k cL aN) R) : HFit (hnH n sh) (nwP aO v cO aL k cL aN) := by
  obtain ⟨h1, h2, h3⟩ := hn_small h
  have h4 := h.r
  rw [rn_lnS, h4] at h3
  exact ⟨by show v ≤ _; omega, Nat.zero_le _, by show k + _ ≤ _; omega, by show k ≤ _; omega, Nat.zero_le _, Nat.zero_le _⟩
theorem HOwn.hk {u : World} {B : Nat} {h : Hd} {aO : Option Addr} {v cO : Nat} {aL : Option Addr} {k cL : Nat} {aN : Option Addr} {R : List Rw} (q : HOwn u B h (nwP aO v cO aL k cL aN) R) (s : HSep (nwP aO v cO aL k cL aN) R) : HK u B u.heap.size aO v cO aL k cL aN R h.own h.nums := ⟨q.o, q.l, q.n, fun g hg => (q.o.lt g hg).2, fun g hg => (q.n.lt g hg).2, s⟩
theorem bupN {w u v : World} (h : Below w.heap.size w u) (hb : Below u.heap.size u v) : Below w.heap.size w v := h.trans (hb.mono h.size)
theorem BxA.d15 {u : World} {b : Nat} {t : TypeId} {v0 v1 v2 v3 v4 v5 v6 v7 v8 v9 v10 v11 v12 v13 v14 : Value} (x : BxA u b t #[v0, v1, v2, v3, v4, v5, v6, v7, v8, v9, v10, v11, v12, v13, v14]) : u.cell? ⟨b, 0, none⟩ = some v0 ∧ u.cell? ⟨b, 1, none⟩ = some v1 ∧ u.cell? ⟨b, 2, none⟩ = some v2 ∧ u.cell? ⟨b, 3, none⟩ = some v3 ∧ u.cell? ⟨b, 4, none⟩ = some v4 ∧ u.cell? ⟨b, 5, none⟩ = some v5 ∧ u.cell? ⟨b, 6, none⟩ = some v6 ∧ u.cell? ⟨b, 7, none⟩ = some v7 ∧ u.cell? ⟨b, 8, none⟩ = some v8 ∧ u.cell? ⟨b, 9, none⟩ = some v9 ∧ u.cell? ⟨b, 10, none⟩ = some v10 ∧ u.cell? ⟨b, 11, none⟩ = some v11 ∧ u.cell? ⟨b, 12, none⟩ = some v12 ∧ u.cell? ⟨b, 13, none⟩ = some v13 ∧ u.cell? ⟨b, 14, none⟩ = some v14 :=
  ⟨x.cell 0 rfl, x.cell 1 rfl, x.cell 2 rfl, x.cell 3 rfl, x.cell 4 rfl, x.cell 5 rfl, x.cell 6 rfl, x.cell 7 rfl, x.cell 8 rfl, x.cell 9 rfl, x.cell 10 rfl, x.cell 11 rfl, x.cell 12 rfl, x.cell 13 rfl, x.cell 14 rfl⟩

set_option maxRecDepth 100000 in
set_option maxHeartbeats 16000000 in
theorem fnExactHeadNew.walk (n : Int) (_ : (Lit.int .i64 n).wf = true) (sh : Int) (_ : (Lit.int .i64 sh).wf = true) (w : World) :
    Calls Try.prog 4 #[.int .i64 n, .int .i64 sh] w fun e w' => e = .returned (.bool true) ∧ Below w.heap.size w w' := by
  have HS := hideIt (sHeadNew_any n sh w)
  have HI := hideIt (iHeadNew_any n sh)
  have HE : Hid (∀ (u : World) aO v cO aL k cL aN aO_ v_ cO_ aL_ k_ cL_ aN_, HFit (hnH n sh) (nwP aO v cO aL k cL aN) → HIn u (hnH n sh) (nwP aO v cO aL k cL aN) → HIn u (hnH n sh) (nwP aO_ v_ cO_ aL_ k_ cL_ aN_) → Calls Try.prog 16 #[.agg (hnC (hnH n sh).N aO v cO aL k cL aN k), .agg (hnC (hnH n sh).N aO_ v_ cO_ aL_ k_ cL_ aN_ k_)] u fun e y => e = .returned (.bool true) ∧ Below u.heap.size u y) := fun u aO v cO aL k cL aN aO_ v_ cO_ aL_ k_ cL_ aN_ hf h1 h2 => by
    have := eqHead_same (hnH n sh) (nwP aO v cO aL k cL aN) (nwP aO_ v_ cO_ aL_ k_ cL_ aN_) hf u h1 h2
    rw [hnC_eq, hnC_eq] at this
    exact this
  obtain ⟨N, hN⟩ : ∃ N, N = (hnH n sh).N := ⟨_, rfl⟩
  obtain ⟨fl, hfl⟩ : ∃ fl, fl = hnB n sh := ⟨_, rfl⟩
  unfold HnA at HS HI
  rw [← hN, ← hfl] at HS
  rw [← hN, ← hfl] at HI
  rw [← hN] at HE
  have hff : (fl != fl) = false := by simp
  clear hN hfl
  go_enter Try.func4, Try.ntmps4
  go_wp2_with (go_at_call 11; refine HS.out.mono ?_; rintro e w1 ⟨aO0, v0, cO0, aL0, k0, cL0, aN0, R0, rfl, q1, _, b1⟩; refine Hid.out ?_)
  refine (show ∀ {p : Prop}, p → Hid p from fun h => h) ?_
  obtain ⟨W5, hW5⟩ : ∃ W5, W5 = w1.alloc (.cells #[.int .i64 N, .slice aO0 v0 cO0, .slice none 0 0, .slice aL0 k0 cL0, .slice aN0 k0 k0, .int .i64 0, .int .i64 0, .int .i64 0, .int .i64 0, .int .i64 0, .int .i64 0, .int .i64 0, .slice none 0 0, .int .i64 0, .slice none 0 0] 37) := ⟨_, rfl⟩
  obtain ⟨B5, hB5⟩ : ∃ B5, B5 = w1.heap.size := ⟨_, rfl⟩
  have bA : Below w1.heap.size w1 W5 := by rw [hW5]; exact belA _ _
  have K5 : Hid (∀ x, Below W5.heap.size W5 x → BxA x B5 37 #[.int .i64 N, .slice aO0 v0 cO0, .slice none 0 0, .slice aL0 k0 cL0, .slice aN0 k0 k0, .int .i64 0, .int .i64 0, .int .i64 0, .int .i64 0, .int .i64 0, .int .i64 0, .int .i64 0, .slice none 0 0, .int .i64 0, .slice none 0 0] ∧ HIn x (hnH n sh) (nwP aO0 v0 cO0 aL0 k0 cL0 aN0)) := fun x hx => by
    refine ⟨?_, (q1.inn.up bA).up hx⟩
    have := BxA.new w1 37 #[.int .i64 N, .slice aO0 v0 cO0, .slice none 0 0, .slice aL0 k0 cL0, .slice aN0 k0 k0, .int .i64 0, .int .i64 0, .int .i64 0, .int .i64 0, .int .i64 0, .int .i64 0, .int .i64 0, .slice none 0 0, .int .i64 0, .slice none 0 0]
    rw [← hW5, ← hB5] at this
    exact this.up hx
  have HB5 := hideIt (bupN b1 bA)
  clear HS q1 b1 bA
  go_upto_region 2 with fail
  rw [← hW5, ← hB5]
  clear hW5 hB5
  have HI5 := hideIt (HI.out W5)
  go_wp2_with (go_at_call 10; refine HI5.out.mono ?_; rintro e w2 ⟨aO, v, cO, aL, k, cL, aN, R, rfl, q2, s2, b2⟩; refine Hid.out ?_)
  refine (show ∀ {p : Prop}, p → Hid p from fun h => h) ?_
  obtain ⟨W7, hW7⟩ : ∃ W7, W7 = w2.alloc (.cells #[.int .i64 N, .slice aO v cO, .slice none 0 0, .slice aL k cL, .slice aN k k, .int .i64 0, .int .i64 0, .int .i64 0, .int .i64 0, .int .i64 0, .int .i64 0, .int .i64 0, .slice none 0 0, .int .i64 0, .slice none 0 0] 37) := ⟨_, rfl⟩
  obtain ⟨B7, hB7⟩ : ∃ B7, B7 = w2.heap.size := ⟨_, rfl⟩
  have bA : Below w2.heap.size w2 W7 := by rw [hW7]; exact belA _ _
  have X7 : BxA W7 B7 37 #[.int .i64 N, .slice aO v cO, .slice none 0 0, .slice aL k cL, .slice aN k k, .int .i64 0, .int .i64 0, .int .i64 0, .int .i64 0, .int .i64 0, .int .i64 0, .int .i64 0, .slice none 0 0, .int .i64 0, .slice none 0 0] := by rw [hW7, hB7]; exact BxA.new _ _ _
  have HK7 := hideIt ((q2.hk s2).up bA)
  have hf := hn_fit q2
  have Hf := hideIt hf
  obtain ⟨m1, m2, m3⟩ := hn_small q2
  have B7b := bupN b2 bA
  obtain ⟨Y7, I7⟩ := K5.out W7 B7b
  have HE7 := hideIt (HE.out W7 aO v cO aL k cL aN aO0 v0 cO0 aL0 k0 cL0 aN0 hf (q2.inn.up bA) I7)
  have hhi : Hid (w2.heap.size ≤ B7) := by show _ ≤ _; omega
  obtain ⟨x0_, x1_, x2_, x3_, x4_, x5_, x6_, x7_, x8_, x9_, x10_, x11_, x12_, x13_, x14_⟩ := X7.d15
  obtain ⟨y0_, y1_, y2_, y3_, y4_, y5_, y6_, y7_, y8_, y9_, y10_, y11_, y12_, y13_, y14_⟩ := Y7.d15
  have HX7 := hideIt X7
  have HB7 := hideIt B7b
  clear HI5 q2 s2 b2 bA X7 Y7 I7 hf B7b
  go_upto_region 3 with fail
  rw [← hW7, ← hB7]
  clear hW7 hB7
  go_wp2_with (go_at_call 16; refine HE7.out.mono ?_; rintro e w8 ⟨rfl, b8⟩; refine Hid.out ?_)
  refine (show ∀ {p : Prop}, p → Hid p from fun h => h) ?_
  as_aux_lemma =>
    have X8 := HX7.out.up b8
    have HX8 := hideIt X8
    have HK8 := hideIt (HK7.out.up b8)
    have HB8 := hideIt (bupN HB7.out b8)
    clear x0_ x1_ x2_ x3_ x4_ x5_ x6_ x7_ x8_ x9_ x10_ x11_ x12_ x13_ x14_ y0_ y1_ y2_ y3_ y4_ y5_ y6_ y7_ y8_ y9_ y10_ y11_ y12_ y13_ y14_ HE7 HX7 HK7 HB7 b8
    obtain ⟨x0_, x1_, x2_, x3_, x4_, x5_, x6_, x7_, x8_, x9_, x10_, x11_, x12_, x13_, x14_⟩ := X8.d15
    have HM := hideIt (markHead_new N HK8.out m1 m2 m3)
    clear X8
    go_wp2_with (go_at_call 17; refine HM.out.mono ?_; rintro e w9 ⟨rfl, q9, r9⟩; refine Hid.out ?_)
    refine (show ∀ {p : Prop}, p → Hid p from fun h => h) ?_
    as_aux_lemma =>
      have X9 := HX8.out.rng r9 hhi.out
      have HX9 := hideIt X9
      have HK9 := hideIt q9
      have HB9 := hideIt (HB8.out.trans (r9.below (Nat.le_refl _) HB8.out.size))
      clear x0_ x1_ x2_ x3_ x4_ x5_ x6_ x7_ x8_ x9_ x10_ x11_ x12_ x13_ x14_ HM HX8 HK8 HB8 q9 r9
      obtain ⟨x0_, x1_, x2_, x3_, x4_, x5_, x6_, x7_, x8_, x9_, x10_, x11_, x12_, x13_, x14_⟩ := X9.d15
      have HH := hideIt (heldHead_new N HK9.out m1 m2 m3)
      have dq : decide (1 + (v : Int) + (rn R : Int) + (k : Int) < 0) = false := decide_eq_false (by omega)
      have HQ := hideIt (fun (y : World) (hy : HK y W5.heap.size w2.heap.size aO v cO aL k cL aN (mkR (1 + v) R) (imarks 1 v) (imarks (1 + v + rn R) k)) => heldHead_new N hy m1 m2 m3)
      generalize 1 + (v : Int) + (rn R : Int) + (k : Int) = q at *
      have dqq : (q != q) = false := by simp
      clear X9
      go_wp2_with (go_at_call 18; refine HH.out.mono ?_; rintro e wa ⟨rfl, ba⟩; refine Hid.out ?_)
      refine (show ∀ {p : Prop}, p → Hid p from fun h => h) ?_
      as_aux_lemma =>
        have HXa := hideIt (HX9.out.up ba)
        have HKa := hideIt (HK9.out.up ba)
        have HBa := hideIt (bupN HB9.out ba)
        have HIa := hideIt (HI.out wa)
        clear x0_ x1_ x2_ x3_ x4_ x5_ x6_ x7_ x8_ x9_ x10_ x11_ x12_ x13_ x14_ HH HX9 HK9 HB9 ba
        go_wp2_with (go_at_call 10; refine HIa.out.mono ?_; rintro e wb ⟨aO3, v3, cO3, aL3, k3, cL3, aN3, R3, rfl, q3, _, b3⟩; refine Hid.out ?_)
        refine (show ∀ {p : Prop}, p → Hid p from fun h => h) ?_
        as_aux_lemma =>
          obtain ⟨Wc, hWc⟩ : ∃ Wc, Wc = wb.alloc (.cells #[.int .i64 N, .slice aO3 v3 cO3, .slice none 0 0, .slice aL3 k3 cL3, .slice aN3 k3 k3, .int .i64 0, .int .i64 0, .int .i64 0, .int .i64 0, .int .i64 0, .int .i64 0, .int .i64 0, .slice none 0 0, .int .i64 0, .slice none 0 0] 37) := ⟨_, rfl⟩
          obtain ⟨Bc, hBc⟩ : ∃ Bc, Bc = wb.heap.size := ⟨_, rfl⟩
          have bA : Below wb.heap.size wb Wc := by rw [hWc]; exact belA _ _
          have Xc : BxA Wc Bc 37 #[.int .i64 N, .slice aO3 v3 cO3, .slice none 0 0, .slice aL3 k3 cL3, .slice aN3 k3 k3, .int .i64 0, .int .i64 0, .int .i64 0, .int .i64 0, .int .i64 0, .int .i64 0, .int .i64 0, .slice none 0 0, .int .i64 0, .slice none 0 0] := by rw [hWc, hBc]; exact BxA.new _ _ _
          have Bcb := bupN (bupN HBa.out b3) bA
          obtain ⟨Yc, Ic⟩ := K5.out Wc Bcb
          have HEc := hideIt (HE.out Wc aO3 v3 cO3 aL3 k3 cL3 aN3 aO0 v0 cO0 aL0 k0 cL0 aN0 (hn_fit q3) (q3.inn.up bA) Ic)
          have HXc := hideIt ((HXa.out.up b3).up bA)
          have HKc := hideIt ((HKa.out.up b3).up bA)
          have HBc := hideIt Bcb
          obtain ⟨x0_, x1_, x2_, x3_, x4_, x5_, x6_, x7_, x8_, x9_, x10_, x11_, x12_, x13_, x14_⟩ := Xc.d15
          obtain ⟨y0_, y1_, y2_, y3_, y4_, y5_, y6_, y7_, y8_, y9_, y10_, y11_, y12_, y13_, y14_⟩ := Yc.d15
          clear HIa q3 b3 bA Bcb Xc Yc Ic HXa HKa HBa
          go_upto_region 14 with fail
          rw [← hWc, ← hBc]
          clear hWc hBc
          go_wp2_with (go_at_call 16; refine HEc.out.mono ?_; rintro e wd ⟨rfl, bd⟩; refine Hid.out ?_)
          refine (show ∀ {p : Prop}, p → Hid p from fun h => h) ?_
          as_aux_lemma =>
            have Xd := HXc.out.up bd
            have HKd := hideIt (HKc.out.up bd)
            have HBd := hideIt (bupN HBc.out bd)
            clear x0_ x1_ x2_ x3_ x4_ x5_ x6_ x7_ x8_ x9_ x10_ x11_ x12_ x13_ x14_ y0_ y1_ y2_ y3_ y4_ y5_ y6_ y7_ y8_ y9_ y10_ y11_ y12_ y13_ y14_ HEc HXc HKc HBc bd
            obtain ⟨x0_, x1_, x2_, x3_, x4_, x5_, x6_, x7_, x8_, x9_, x10_, x11_, x12_, x13_, x14_⟩ := Xd.d15
            have HH : Hid (Calls Try.prog 18 #[.agg #[.int .i64 N, .slice aO v cO, .slice none 0 0, .slice aL k cL, .slice aN k k, .int .i64 0, .int .i64 0, .int .i64 0, .int .i64 0, .int .i64 0, .int .i64 0, .int .i64 0, .slice none 0 0, .int .i64 0, .slice none 0 0], .int .i64 1] wd fun e y => e = .returned (.int .i64 q) ∧ Below wd.heap.size wd y) := HQ.out wd HKd.out
            clear Xd
            go_wp2_with (go_at_call 18; refine HH.out.mono ?_; rintro e we ⟨rfl, be⟩; refine Hid.out ?_)
            refine (show ∀ {p : Prop}, p → Hid p from fun h => h) ?_
            have BF := hideIt (bupN HB5.out (bupN HBd.out be))
            clear x0_ x1_ x2_ x3_ x4_ x5_ x6_ x7_ x8_ x9_ x10_ x11_ x12_ x13_ x14_ HH HKd HBd be
            go_wp2
            go_ret
            exact ⟨rfl, BF.out⟩
end Go.Proofs.Ytdihemjfnjhdiaa
