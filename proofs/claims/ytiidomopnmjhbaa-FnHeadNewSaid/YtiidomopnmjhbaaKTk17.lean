/- Take of a new head and a question that makes no sense. -/
import Derived.Test.YtiidomopnmjhbaaKHc17
import Derived.Test.YtiidomopnmjhbaaKMarkE
namespace Go.Proofs.Ytiidomopnmjhbaa
open Go.RowKit

theorem numOk5 (w : World) : Calls Try.prog 25 #[.int .i64 5] w fun e w' => e = .returned (.bool true) ∧ w' = w := by
  go_enter Try.func25, Try.ntmps25
  go_wp2
  go_ret
  exact ⟨rfl, rfl⟩
theorem BxA.grownB {u v : World} {b G : Nat} {t : TypeId} {cs : Array Value} (h : BxA u b t cs) (hg : u.grownBy v (some G)) (hr : b ≠ G) : BxA v b t cs := h.grown hg (fun e => hr (Option.some.inj e).symm)
theorem below_grown {w u v : World} {G : Nat} (h : Below w.heap.size w u) (hg : u.grownBy v (some G)) (hG : w.heap.size ≤ G) : Below w.heap.size w v :=
  ⟨hg.os.trans h.os, hg.tape.trans h.tape, hg.output.trans h.output, Nat.le_trans h.size hg.size, fun k hk => (hg.block k (Nat.lt_of_lt_of_le hk h.size) (fun e => by have := Option.some.inj e; omega)).trans (h.block k hk)⟩
set_option maxRecDepth 100000 in
set_option maxHeartbeats 16000000 in
theorem take_new (nn sh : Nat) (aO : Option Addr) (cO : Nat) (aL : Option Addr) (cL : Nat) (aN : Option Addr) (w : World) (h : NwH w nn sh aO aL aN) :
    Calls Try.prog 9 #[.agg (hnC (nn : Int) aO nn cO aL sh cL aN sh), .agg #[.int .i64 5, .int .i64 9, .int .i64 0, .int .i64 0]] w fun e w' => ∃ (p1 : Option Addr) (m1 c1 : Nat) (p2 : Option Addr) (m2 c2 : Nat) (p3 : Option Addr) (m3 c3 : Nat) (g c : Nat), e = .returned (.tuple #[.agg (hkC (nn : Int) (.slice p1 m1 c1) (.slice p2 m2 c2) (.slice p3 m3 c3) (.slice (some ⟨g, 0, none⟩) 1 c)), .int .i64 1]) ∧ Below w.heap.size w w' ∧ w'.ownsRow w.heap.size 72 6 (.slice (some ⟨g, 0, none⟩) 1 c) 1 [.int .i64 5, .int .i64 5, .int .i64 9, .int .i64 0, .int .i64 0, .int .i64 3] := by
  obtain ⟨W, hW⟩ : ∃ W, W = ((w.alloc (.cells #[.int .i64 (nn : Int), .slice aO nn cO, .slice none 0 0, .slice aL sh cL, .slice aN sh sh, .int .i64 0, .int .i64 0, .int .i64 0, .int .i64 0, .int .i64 0, .int .i64 0, .int .i64 0, .slice none 0 0, .int .i64 0, .slice none 0 0] 37)).alloc (.cells #[.int .i64 5, .int .i64 9, .int .i64 0, .int .i64 0] 30)).alloc (.cells #[.int .i64 0, .slice none 0 0, .slice none 0 0, .slice none 0 0, .slice none 0 0, .int .i64 0, .int .i64 0, .int .i64 0, .int .i64 0, .int .i64 0, .int .i64 0, .int .i64 0, .slice none 0 0, .int .i64 0, .slice none 0 0] 37) := ⟨_, rfl⟩
  have bW : Below w.heap.size w W := by rw [hW]; exact (((Below.refl _ _).alloc (Nat.le_refl _) _).alloc (by simp) _).alloc (by simp; omega) _
  have B0 : BxA W w.heap.size 37 #[.int .i64 (nn : Int), .slice aO nn cO, .slice none 0 0, .slice aL sh cL, .slice aN sh sh, .int .i64 0, .int .i64 0, .int .i64 0, .int .i64 0, .int .i64 0, .int .i64 0, .int .i64 0, .slice none 0 0, .int .i64 0, .slice none 0 0] := by rw [hW]; exact ((BxA.new w _ _).up (belA _ _)).up (belA _ _)
  have B1 : BxA W (w.heap.size + 1) 30 #[.int .i64 5, .int .i64 9, .int .i64 0, .int .i64 0] := by
    have h := (BxA.new (w.alloc (.cells #[.int .i64 (nn : Int), .slice aO nn cO, .slice none 0 0, .slice aL sh cL, .slice aN sh sh, .int .i64 0, .int .i64 0, .int .i64 0, .int .i64 0, .int .i64 0, .int .i64 0, .int .i64 0, .slice none 0 0, .int .i64 0, .slice none 0 0] 37)) 30 #[.int .i64 5, .int .i64 9, .int .i64 0, .int .i64 0]).up (belA _ (.cells #[.int .i64 0, .slice none 0 0, .slice none 0 0, .slice none 0 0, .slice none 0 0, .int .i64 0, .int .i64 0, .int .i64 0, .int .i64 0, .int .i64 0, .int .i64 0, .int .i64 0, .slice none 0 0, .int .i64 0, .slice none 0 0] 37))
    rw [show (w.alloc (.cells #[.int .i64 (nn : Int), .slice aO nn cO, .slice none 0 0, .slice aL sh cL, .slice aN sh sh, .int .i64 0, .int .i64 0, .int .i64 0, .int .i64 0, .int .i64 0, .int .i64 0, .int .i64 0, .slice none 0 0, .int .i64 0, .slice none 0 0] 37)).heap.size = w.heap.size + 1 by simp] at h
    rw [hW]; exact h
  have B2 : BxA W (w.heap.size + 1 + 1) 37 #[.int .i64 0, .slice none 0 0, .slice none 0 0, .slice none 0 0, .slice none 0 0, .int .i64 0, .int .i64 0, .int .i64 0, .int .i64 0, .int .i64 0, .int .i64 0, .int .i64 0, .slice none 0 0, .int .i64 0, .slice none 0 0] := by
    have h := BxA.new ((w.alloc (.cells #[.int .i64 (nn : Int), .slice aO nn cO, .slice none 0 0, .slice aL sh cL, .slice aN sh sh, .int .i64 0, .int .i64 0, .int .i64 0, .int .i64 0, .int .i64 0, .int .i64 0, .int .i64 0, .slice none 0 0, .int .i64 0, .slice none 0 0] 37)).alloc (.cells #[.int .i64 5, .int .i64 9, .int .i64 0, .int .i64 0] 30)) 37 #[.int .i64 0, .slice none 0 0, .slice none 0 0, .slice none 0 0, .slice none 0 0, .int .i64 0, .int .i64 0, .int .i64 0, .int .i64 0, .int .i64 0, .int .i64 0, .int .i64 0, .slice none 0 0, .int .i64 0, .slice none 0 0]
    rw [show ((w.alloc (.cells #[.int .i64 (nn : Int), .slice aO nn cO, .slice none 0 0, .slice aL sh cL, .slice aN sh sh, .int .i64 0, .int .i64 0, .int .i64 0, .int .i64 0, .int .i64 0, .int .i64 0, .int .i64 0, .slice none 0 0, .int .i64 0, .slice none 0 0] 37)).alloc (.cells #[.int .i64 5, .int .i64 9, .int .i64 0, .int .i64 0] 30)).heap.size = w.heap.size + 1 + 1 by simp] at h
    rw [hW]; exact h
  have H0 := hideIt B0
  have H1 := hideIt B1
  have H2 := hideIt B2
  have HB := hideIt bW
  have HN := hideIt (h.up bW)
  have HOk := hideIt (headOk_new nn sh aO cO aL cL aN W HN.out)
  have HNu := hideIt numOk5
  have HCp := hideIt (fun (u : World) (hu : Below W.heap.size W u) => headCopy_new nn sh aO cO aL cL aN u (HN.out.up hu))
  have HSa := hideIt (isSaid_nil 5)
  have HBu : Hid (∀ u, Calls Try.prog 12 #[.agg #[.int .i64 (nn : Int), .slice aO nn cO, .slice none 0 0, .slice aL sh cL, .slice aN sh sh, .int .i64 0, .int .i64 0, .int .i64 0, .int .i64 0, .int .i64 0, .int .i64 0, .int .i64 0, .slice none 0 0, .int .i64 0, .slice none 0 0]] u fun e v => e = .returned (.bool false) ∧ Below u.heap.size u v) := fun u => iBusy_any (newH nn sh) (nwP aO nn cO aL sh cL aN) u
  have y0 := B0.cell 0 rfl
  have y1 := B0.cell 1 rfl
  have y2 := B0.cell 2 rfl
  have y3 := B0.cell 3 rfl
  have y4 := B0.cell 4 rfl
  have y5 := B0.cell 5 rfl
  have y6 := B0.cell 6 rfl
  have y7 := B0.cell 7 rfl
  have y8 := B0.cell 8 rfl
  have y9 := B0.cell 9 rfl
  have y10 := B0.cell 10 rfl
  have y11 := B0.cell 11 rfl
  have y12 := B0.cell 12 rfl
  have y13 := B0.cell 13 rfl
  have y14 := B0.cell 14 rfl
  clear B0 B1 B2 bW h
  go_enter Try.func9, Try.ntmps9
  go_upto_region 1 with fail
  rw [← hW]
  clear hW
  go_wp2_with (first
    | (go_at_call 11; refine HOk.out.mono ?_; rintro e w1 ⟨rfl, b1⟩; have A1 := H1.out.up b1; have a0 := A1.cell 0 rfl; have hb1 := hideIt b1; clear A1 b1)
    | (go_at_call 25; refine (HNu.out _).mono ?_; rintro e w1_ ⟨rfl, rfl⟩; refine Hid.out ?_))
  refine hidp ?_
  have X1 := H0.out.up hb1.out
  clear a0 y0 y1 y2 y3 y4 y5 y6 y7 y8 y9 y10 y11 y12 y13 y14
  have y0 := X1.cell 0 rfl
  have y1 := X1.cell 1 rfl
  have y2 := X1.cell 2 rfl
  have y3 := X1.cell 3 rfl
  have y4 := X1.cell 4 rfl
  have y5 := X1.cell 5 rfl
  have y6 := X1.cell 6 rfl
  have y7 := X1.cell 7 rfl
  have y8 := X1.cell 8 rfl
  have y9 := X1.cell 9 rfl
  have y10 := X1.cell 10 rfl
  have y11 := X1.cell 11 rfl
  have y12 := X1.cell 12 rfl
  have y13 := X1.cell 13 rfl
  have y14 := X1.cell 14 rfl
  have HCq := hideIt (HCp.out _ hb1.out)
  clear X1 HCp HOk HNu
  go_wp2_with (go_at_call 26; refine HCq.out.mono ?_; rintro e w2 ⟨p1, m1, c1, p2, m2, c2, p3, m3, c3, rfl, b2⟩; refine Hid.out ?_)
  refine hidp ?_
  obtain ⟨W3, hW3⟩ : ∃ W3, W3 = w2.alloc (.cells #[.int .i64 (nn : Int), .slice p1 m1 c1, .slice none 0 0, .slice p2 m2 c2, .slice p3 m3 c3, .int .i64 0, .int .i64 0, .int .i64 0, .int .i64 0, .int .i64 0, .int .i64 0, .int .i64 0, .slice none 0 0, .int .i64 0, .slice none 0 0] 37) := ⟨_, rfl⟩
  obtain ⟨G, hG⟩ : ∃ G, G = w2.heap.size := ⟨_, rfl⟩
  have b3 : Below W.heap.size W W3 := by rw [hW3]; exact (hb1.out.trans (b2.mono hb1.out.size)).alloc (Nat.le_trans hb1.out.size b2.size) _
  have X3 : BxA W3 G 37 #[.int .i64 (nn : Int), .slice p1 m1 c1, .slice none 0 0, .slice p2 m2 c2, .slice p3 m3 c3, .int .i64 0, .int .i64 0, .int .i64 0, .int .i64 0, .int .i64 0, .int .i64 0, .int .i64 0, .slice none 0 0, .int .i64 0, .slice none 0 0] := by rw [hW3, hG]; exact BxA.new _ _ _
  have lG : Hid (W.heap.size ≤ G) := by show _ ≤ _; rw [hG]; exact Nat.le_trans hb1.out.size b2.size
  have HX3 := hideIt X3
  have HB3 := hideIt b3
  have Z0 := H0.out.up b3
  have Z1 := H1.out.up b3
  clear y0 y1 y2 y3 y4 y5 y6 y7 y8 y9 y10 y11 y12 y13 y14
  have y14 := Z0.cell 14 rfl
  have a0 := Z1.cell 0 rfl
  clear X3 b3 Z0 Z1
  clear HCq
  clear b2
  go_upto_region 4 with fail
  rw [← hW3, ← hG]
  clear hW3 hG
  go_wp2_with (go_at_call 27; refine (HSa.out _).mono ?_; rintro e w4 ⟨rfl, b4⟩; refine Hid.out ?_)
  refine hidp ?_
  have HB4 := hideIt (HB3.out.trans (b4.mono HB3.out.size))
  have HX4 := hideIt (HX3.out.up b4)
  clear y14 a0 HSa HX3 HB3 b4
  have Z0 := H0.out.up HB4.out
  have y0 := Z0.cell 0 rfl
  have y1 := Z0.cell 1 rfl
  have y2 := Z0.cell 2 rfl
  have y3 := Z0.cell 3 rfl
  have y4 := Z0.cell 4 rfl
  have y5 := Z0.cell 5 rfl
  have y6 := Z0.cell 6 rfl
  have y7 := Z0.cell 7 rfl
  have y8 := Z0.cell 8 rfl
  have y9 := Z0.cell 9 rfl
  have y10 := Z0.cell 10 rfl
  have y11 := Z0.cell 11 rfl
  have y12 := Z0.cell 12 rfl
  have y13 := Z0.cell 13 rfl
  have y14 := Z0.cell 14 rfl
  clear Z0
  go_wp2_with (go_at_call 12; refine (HBu.out _).mono ?_; rintro e w5 ⟨rfl, b5⟩; refine Hid.out ?_)
  refine hidp ?_
  have HB5 := hideIt (HB4.out.trans (b5.mono HB4.out.size))
  have HX5 := hideIt (HX4.out.up b5)
  clear y0 y1 y2 y3 y4 y5 y6 y7 y8 y9 y10 y11 y12 y13 y14 HBu HB4 HX4 b5
  have Z0 := H0.out.up HB5.out
  have y14 := Z0.cell 14 rfl
  have Z1 := H1.out.up HB5.out
  have a0 := Z1.cell 0 rfl
  have a1 := Z1.cell 1 rfl
  have a2 := Z1.cell 2 rfl
  have a3 := Z1.cell 3 rfl
  have HA := hideIt (ask_new (nn : Int) p1 m1 c1 p2 m2 c2 p3 m3 c3 G w5 HX5.out)
  clear Z0 Z1
  go_wp2_with (go_at_call 28; refine HA.out.mono ?_; rintro e w6 ⟨rfl, g, c, X6, O6, G6⟩; refine Hid.out ?_)
  refine hidp ?_
  have q2 := H2.out.lt
  have qG := lG.out
  have q5 := HB5.out.size
  have X2 : BxA w6 (w.heap.size + 1 + 1) 37 #[.int .i64 0, .slice none 0 0, .slice none 0 0, .slice none 0 0, .slice none 0 0, .int .i64 0, .int .i64 0, .int .i64 0, .int .i64 0, .int .i64 0, .int .i64 0, .int .i64 0, .slice none 0 0, .int .i64 0, .slice none 0 0] := (H2.out.up HB5.out).grownB G6 (by omega)
  have bb := below_grown (HB.out.trans (HB5.out.mono HB.out.size)) G6 (by have := HB.out.size; omega)
  have XF := BxA.setA (l := [.int .i64 0, .slice none 0 0, .slice none 0 0, .slice none 0 0, .slice none 0 0, .int .i64 0, .int .i64 0, .int .i64 0, .int .i64 0, .int .i64 0, .int .i64 0, .int .i64 0, .slice none 0 0, .int .i64 0, .slice none 0 0]) X2 0 [.int .i64 (nn : Int), .slice p1 m1 c1, .slice none 0 0, .slice p2 m2 c2, .slice p3 m3 c3, .int .i64 0, .int .i64 0, .int .i64 0, .int .i64 0, .int .i64 0, .int .i64 0, .int .i64 0, .slice none 0 0, .int .i64 0, .slice (some ⟨g, 0, none⟩) 1 c]
  rw [setV_all [.int .i64 0, .slice none 0 0, .slice none 0 0, .slice none 0 0, .slice none 0 0, .int .i64 0, .int .i64 0, .int .i64 0, .int .i64 0, .int .i64 0, .int .i64 0, .int .i64 0, .slice none 0 0, .int .i64 0, .slice none 0 0] [.int .i64 (nn : Int), .slice p1 m1 c1, .slice none 0 0, .slice p2 m2 c2, .slice p3 m3 c3, .int .i64 0, .int .i64 0, .int .i64 0, .int .i64 0, .int .i64 0, .int .i64 0, .int .i64 0, .slice none 0 0, .int .i64 0, .slice (some ⟨g, 0, none⟩) 1 c] rfl] at XF
  have HFn := hideIt (below_setA bb (show w.heap.size ≤ w.heap.size + 1 + 1 by omega) 0 [.int .i64 (nn : Int), .slice p1 m1 c1, .slice none 0 0, .slice p2 m2 c2, .slice p3 m3 c3, .int .i64 0, .int .i64 0, .int .i64 0, .int .i64 0, .int .i64 0, .int .i64 0, .int .i64 0, .slice none 0 0, .int .i64 0, .slice (some ⟨g, 0, none⟩) 1 c])
  have HOw := hideIt (own_setA (own_mono O6 (Nat.le_refl _)) (show w.heap.size + 1 + 1 < w5.heap.size by omega) 0 [.int .i64 (nn : Int), .slice p1 m1 c1, .slice none 0 0, .slice p2 m2 c2, .slice p3 m3 c3, .int .i64 0, .int .i64 0, .int .i64 0, .int .i64 0, .int .i64 0, .int .i64 0, .int .i64 0, .slice none 0 0, .int .i64 0, .slice (some ⟨g, 0, none⟩) 1 c])
  have hsz : Hid (w.heap.size ≤ w5.heap.size) := by show _ ≤ _; omega
  dsimp only [setA] at XF HFn HOw
  clear y14 a0 a1 a2 a3
  have k0 := X6.cell 0 rfl
  have r0 := X2.cell 0 rfl
  have zz0 := X2.frozen 0
  have s0 := XF.at 0 rfl
  have k1 := X6.cell 1 rfl
  have r1 := X2.cell 1 rfl
  have zz1 := X2.frozen 1
  have s1 := XF.at 1 rfl
  have k2 := X6.cell 2 rfl
  have r2 := X2.cell 2 rfl
  have zz2 := X2.frozen 2
  have s2 := XF.at 2 rfl
  have k3 := X6.cell 3 rfl
  have r3 := X2.cell 3 rfl
  have zz3 := X2.frozen 3
  have s3 := XF.at 3 rfl
  have k4 := X6.cell 4 rfl
  have r4 := X2.cell 4 rfl
  have zz4 := X2.frozen 4
  have s4 := XF.at 4 rfl
  have k5 := X6.cell 5 rfl
  have r5 := X2.cell 5 rfl
  have zz5 := X2.frozen 5
  have s5 := XF.at 5 rfl
  have k6 := X6.cell 6 rfl
  have r6 := X2.cell 6 rfl
  have zz6 := X2.frozen 6
  have s6 := XF.at 6 rfl
  have k7 := X6.cell 7 rfl
  have r7 := X2.cell 7 rfl
  have zz7 := X2.frozen 7
  have s7 := XF.at 7 rfl
  have k8 := X6.cell 8 rfl
  have r8 := X2.cell 8 rfl
  have zz8 := X2.frozen 8
  have s8 := XF.at 8 rfl
  have k9 := X6.cell 9 rfl
  have r9 := X2.cell 9 rfl
  have zz9 := X2.frozen 9
  have s9 := XF.at 9 rfl
  have k10 := X6.cell 10 rfl
  have r10 := X2.cell 10 rfl
  have zz10 := X2.frozen 10
  have s10 := XF.at 10 rfl
  have k11 := X6.cell 11 rfl
  have r11 := X2.cell 11 rfl
  have zz11 := X2.frozen 11
  have s11 := XF.at 11 rfl
  have k12 := X6.cell 12 rfl
  have r12 := X2.cell 12 rfl
  have zz12 := X2.frozen 12
  have s12 := XF.at 12 rfl
  have k13 := X6.cell 13 rfl
  have r13 := X2.cell 13 rfl
  have zz13 := X2.frozen 13
  have s13 := XF.at 13 rfl
  have k14 := X6.cell 14 rfl
  have r14 := X2.cell 14 rfl
  have zz14 := X2.frozen 14
  have s14 := XF.at 14 rfl
  have HSx := hideIt (And.intro s0 (And.intro s1 (And.intro s2 (And.intro s3 (And.intro s4 (And.intro s5 (And.intro s6 (And.intro s7 (And.intro s8 (And.intro s9 (And.intro s10 (And.intro s11 (And.intro s12 (And.intro s13 (s14)))))))))))))))
  have lE := X2.lt
  have lE2 := X6.lt
  clear s0 s1 s2 s3 s4 s5 s6 s7 s8 s9 s10 s11 s12 s13 s14 XF X2 X6 O6 G6 bb HB5 HX5 HA H0 H1 H2 HB HN lG q2 qG q5
  go_wp2
  obtain ⟨s0, s1, s2, s3, s4, s5, s6, s7, s8, s9, s10, s11, s12, s13, s14⟩ := HSx.out
  exact bodyPost_ret (v := .tuple #[.agg #[.int .i64 (nn : Int), .slice p1 m1 c1, .slice none 0 0, .slice p2 m2 c2, .slice p3 m3 c3, .int .i64 0, .int .i64 0, .int .i64 0, .int .i64 0, .int .i64 0, .int .i64 0, .int .i64 0, .slice none 0 0, .int .i64 0, .slice (some ⟨g, 0, none⟩) 1 c], .int .i64 1]) (by simp [results, Try.results9, go_sem, s0, s1, s2, s3, s4, s5, s6, s7, s8, s9, s10, s11, s12, s13, s14]) rfl ⟨p1, m1, c1, p2, m2, c2, p3, m3, c3, g, c, rfl, HFn.out, own_mono HOw.out hsz.out⟩
end Go.Proofs.Ytiidomopnmjhbaa
