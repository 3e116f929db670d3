/- The walk of FnExactReplyOf. -/
import Derived.Test.YtdihemjfnjhdiaaKOpenH13
namespace Go.Proofs.Ytdihemjfnjhdiaa
open Go.RowKit

theorem bupH {w u v : World} (h : Below w.heap.size w u) (hb : Below u.heap.size u v) : Below w.heap.size w v := h.trans (hb.mono h.size)
theorem BxA.c15 {u : World} {b : Nat} {t : TypeId} {v0 v1 v2 v3 v4 v5 v6 v7 v8 v9 v10 v11 v12 v13 v14 : Value} (x : BxA u b t #[v0, v1, v2, v3, v4, v5, v6, v7, v8, v9, v10, v11, v12, v13, v14]) : u.cell? ⟨b, 0, none⟩ = some v0 ∧ u.cell? ⟨b, 1, none⟩ = some v1 ∧ u.cell? ⟨b, 2, none⟩ = some v2 ∧ u.cell? ⟨b, 3, none⟩ = some v3 ∧ u.cell? ⟨b, 4, none⟩ = some v4 ∧ u.cell? ⟨b, 5, none⟩ = some v5 ∧ u.cell? ⟨b, 6, none⟩ = some v6 ∧ u.cell? ⟨b, 7, none⟩ = some v7 ∧ u.cell? ⟨b, 8, none⟩ = some v8 ∧ u.cell? ⟨b, 9, none⟩ = some v9 ∧ u.cell? ⟨b, 10, none⟩ = some v10 ∧ u.cell? ⟨b, 11, none⟩ = some v11 ∧ u.cell? ⟨b, 12, none⟩ = some v12 ∧ u.cell? ⟨b, 13, none⟩ = some v13 ∧ u.cell? ⟨b, 14, none⟩ = some v14 :=
  ⟨x.cell 0 rfl, x.cell 1 rfl, x.cell 2 rfl, x.cell 3 rfl, x.cell 4 rfl, x.cell 5 rfl, x.cell 6 rfl, x.cell 7 rfl, x.cell 8 rfl, x.cell 9 rfl, x.cell 10 rfl, x.cell 11 rfl, x.cell 12 rfl, x.cell 13 rfl, x.cell 14 rfl⟩
set_option maxRecDepth 100000 in
set_option maxHeartbeats 16000000 in
theorem fnExactReplyOf.walk (h : Hd) (p : Hp) (hm : HMax h p) (id : Int) (_ : (Lit.int .i64 id).wf = true) (w : World) (k : HIn w h p) :
    Calls Try.prog 7 #[.agg (hC h p), .int .i64 id] w fun e w' => e = .returned (.bool true) ∧ Below w.heap.size w w' := by
  have bW := belA w (.cells (hC h p) 56)
  have X1 := BxA.new w 56 (hC h p)
  have HS := hideIt (szHead_or h p hm _ (k.up bW))
  have HT := hideIt (fun u (hu : Below w.heap.size w u) (hf : HFit h p) => toHead_any h p hf u (k.up hu))
  have HDs := hideIt (fun (u : World) q (hf : HFit h q) (r : HIn u h q) => sReplyOf_any h q id hf.s u r.s)
  have HDi := hideIt (fun (u : World) q (hf : HFit h q) (r : HIn u h q) => iReplyOf_any h q id hf.s u r.s)
  have HE := hideIt (fun (u : World) q q' (hf : HFit h q) (r : HIn u h q) (r' : HIn u h q') => eqHead_same h q q' hf u r r')
  have HL := hideIt (fun (u : World) q (hf : HFit h p) (r : HIn u h q) => hf.of (k.lens r))
  generalize ryI h.said id = ri at *
  generalize ryB h.said id = rb at *
  have hff : (rb != rb) = false := by simp
  have hgg : (ri != ri) = false := by simp
  obtain ⟨N, own, cuts, lab, nums, i, o, a, b, sh, num, op, es, v, said⟩ := h
  obtain ⟨⟨a1, n1, c1⟩, ⟨a2, n2, c2⟩, ⟨a3, n3, c3⟩, ⟨a4, n4, c4⟩, ⟨a5, n5, c5⟩, ⟨a6, n6, c6⟩⟩ := p
  clear k hm
  obtain ⟨W1, hW1⟩ : ∃ W1, W1 = w.alloc (.cells #[.int .i64 N, .slice a1 n1 c1, .slice a2 n2 c2, .slice a3 n3 c3, .slice a4 n4 c4, .int .i64 i, .int .i64 o, .int .i64 a, .int .i64 b, .int .i64 sh, .int .i64 num, .int .i64 op, .slice a5 n5 c5, .int .i64 v, .slice a6 n6 c6] 56) := ⟨_, rfl⟩
  dsimp only [hC, Sx.v, newP] at *
  rw [← hW1] at bW X1 HS
  have HB := hideIt bW
  obtain ⟨x0, x1, x2, x3, x4, x5, x6, x7, x8, x9, x10, x11, x12, x13, x14⟩ := X1.c15
  have HX1 := hideIt X1
  clear X1 bW
  go_enter Try.func7, Try.ntmps7
  go_upto_region 1 with fail
  rw [← hW1]
  clear hW1
  go_wp2_with (go_at_call 19; refine HS.out.mono ?_; rintro e w2 ⟨z, rfl, hz, b2⟩; refine Hid.out ?_)
  refine (show ∀ {p : Prop}, p → Hid p from fun h => h) ?_
  clear x0 x1 x2 x3 x4 x5 x6 x7 x8 x9 x10 x11 x12 x13 x14 HS
  have B2 := bupH HB.out b2
  rcases hz with ⟨d1, hz⟩ | ⟨d1, hf⟩
  · have HB2 := hideIt B2
    clear B2 b2
    go_wp2
    go_ret
    exact ⟨rfl, HB2.out⟩
  obtain ⟨x0, x1, x2, x3, x4, x5, x6, x7, x8, x9, x10, x11, x12, x13, x14⟩ := (HX1.out.up b2).c15
  have Hf := hideIt hf
  have H3 := hideIt (HT.out w2 B2 hf)
  have HX2 := hideIt (HX1.out.up b2)
  have HB2 := hideIt B2
  clear hf b2 B2 HX1
  go_wp2_with (go_at_call 21; refine H3.out.mono ?_; rintro e w3 ⟨g1, g2, g3, g4, g5, g6, R, rfl, q3, b3⟩; refine Hid.out ?_)
  refine (show ∀ {p : Prop}, p → Hid p from fun h => h) ?_
  have r3 := q3.inn
  have B3 := bupH HB2.out b3
  have H4 := hideIt (HDs.out w3 _ (HL.out w3 _ Hf.out r3) r3)
  dsimp only at H4
  have HX3 := hideIt (HX2.out.up b3)
  have HB3 := hideIt B3
  clear H3 q3 b3 r3 B3 HX2 HDs
  go_wp2_with (go_at_call 23; refine H4.out.mono ?_; rintro e w4 ⟨rfl, b4⟩; refine Hid.out ?_)
  refine (show ∀ {p : Prop}, p → Hid p from fun h => h) ?_
  have B4 := bupH HB3.out b4
  have HX4 := hideIt (HX3.out.up b4)
  clear x0 x1 x2 x3 x4 x5 x6 x7 x8 x9 x10 x11 x12 x13 x14
  obtain ⟨x0, x1, x2, x3, x4, x5, x6, x7, x8, x9, x10, x11, x12, x13, x14⟩ := HX4.out.c15
  have H5 := hideIt (HT.out w4 B4 Hf.out)
  have HB4 := hideIt B4
  clear H4 b4 B4 HX3 HB3
  go_wp2_with (go_at_call 21; refine H5.out.mono ?_; rintro e w5 ⟨g1, g2, g3, g4, g5, g6, R, rfl, q5, b5⟩; refine Hid.out ?_)
  refine (show ∀ {p : Prop}, p → Hid p from fun h => h) ?_
  obtain ⟨W5, hW5⟩ : ∃ W5, W5 = w5.alloc (.cells #[.int .i64 N, .slice (some ⟨g1, 0, none⟩) n1 n1, .slice (some ⟨g2, 0, none⟩) n2 n2, .slice (some ⟨g3, 0, none⟩) n3 n3, .slice (some ⟨g4, 0, none⟩) n4 n4, .int .i64 i, .int .i64 o, .int .i64 a, .int .i64 b, .int .i64 sh, .int .i64 num, .int .i64 op, .slice (some ⟨g5, 0, none⟩) n5 n5, .int .i64 v, .slice (some ⟨g6, 0, none⟩) n6 n6] 37) := ⟨_, rfl⟩
  have bA : Below w5.heap.size w5 W5 := by rw [hW5]; exact belA _ _
  have Y5 : BxA W5 w5.heap.size 37 #[.int .i64 N, .slice (some ⟨g1, 0, none⟩) n1 n1, .slice (some ⟨g2, 0, none⟩) n2 n2, .slice (some ⟨g3, 0, none⟩) n3 n3, .slice (some ⟨g4, 0, none⟩) n4 n4, .int .i64 i, .int .i64 o, .int .i64 a, .int .i64 b, .int .i64 sh, .int .i64 num, .int .i64 op, .slice (some ⟨g5, 0, none⟩) n5 n5, .int .i64 v, .slice (some ⟨g6, 0, none⟩) n6 n6] := by rw [hW5]; exact BxA.new _ _ _
  have B5 := bupH (bupH HB4.out b5) bA
  have HX5 := hideIt ((HX4.out.up b5).up bA)
  have r5 := q5.inn.up bA
  have Hr5 := hideIt r5
  have H6 := hideIt (HDi.out W5 _ (HL.out W5 _ Hf.out r5) r5)
  dsimp only at H6
  obtain ⟨b9, hb9⟩ : ∃ b9, b9 = w5.heap.size := ⟨_, rfl⟩
  rw [← hb9] at Y5
  obtain ⟨y0, y1, y2, y3, y4, y5, y6, y7, y8, y9, y10, y11, y12, y13, y14⟩ := Y5.c15
  have HY5 := hideIt Y5
  have HB5 := hideIt B5
  clear H5 q5 b5 bA B5 r5 Y5 HX4 HB4 HDi
  go_upto_region 7 with fail
  rw [← hW5, ← hb9]
  clear hW5 hb9 x0 x1 x2 x3 x4 x5 x6 x7 x8 x9 x10 x11 x12 x13 x14
  go_wp2_with (go_at_call 13; refine H6.out.mono ?_; rintro e w6 ⟨rfl, b6⟩; refine Hid.out ?_)
  refine (show ∀ {p : Prop}, p → Hid p from fun h => h) ?_
  have D6 : Below w6.heap.size w6 w6.drew := (Below.refl _ _).drew
  have HC := hideIt (fun u (hu : Below w6.heap.size w6 u) => And.intro (HY5.out.up (bupH b6 hu)).c15 (HX5.out.up (bupH b6 hu)).c15)
  have hS6 := HC.out _ D6
  have H7 := hideIt (HT.out _ (bupH (bupH HB5.out b6) D6) Hf.out)
  have HE2 := hideIt (fun (u : World) q' (hu : Below w6.heap.size w6 u) (r' : HIn u ⟨N, own, cuts, lab, nums, i, o, a, b, sh, num, op, es, v, said⟩ q') => HE.out u _ q' (HL.out W5 _ Hf.out Hr5.out) (Hr5.out.up (bupH b6 hu)) r')
  have HB6 := hideIt (bupH HB5.out b6)
  clear H6 y0 y1 y2 y3 y4 y5 y6 y7 y8 y9 y10 y11 y12 y13 y14 b6 HT HE HL Hf Hr5 HB5 HY5 HX5
  go_upto_region 10 with fail
  go_region_held3 (fun u => (u.cell? ⟨b9, 0, none⟩ = some (.int .i64 N) ∧ u.cell? ⟨b9, 1, none⟩ = some (.slice (some ⟨g1, 0, none⟩) n1 n1) ∧ u.cell? ⟨b9, 2, none⟩ = some (.slice (some ⟨g2, 0, none⟩) n2 n2) ∧ u.cell? ⟨b9, 3, none⟩ = some (.slice (some ⟨g3, 0, none⟩) n3 n3) ∧ u.cell? ⟨b9, 4, none⟩ = some (.slice (some ⟨g4, 0, none⟩) n4 n4) ∧ u.cell? ⟨b9, 5, none⟩ = some (.int .i64 i) ∧ u.cell? ⟨b9, 6, none⟩ = some (.int .i64 o) ∧ u.cell? ⟨b9, 7, none⟩ = some (.int .i64 a) ∧ u.cell? ⟨b9, 8, none⟩ = some (.int .i64 b) ∧ u.cell? ⟨b9, 9, none⟩ = some (.int .i64 sh) ∧ u.cell? ⟨b9, 10, none⟩ = some (.int .i64 num) ∧ u.cell? ⟨b9, 11, none⟩ = some (.int .i64 op) ∧ u.cell? ⟨b9, 12, none⟩ = some (.slice (some ⟨g5, 0, none⟩) n5 n5) ∧ u.cell? ⟨b9, 13, none⟩ = some (.int .i64 v) ∧ u.cell? ⟨b9, 14, none⟩ = some (.slice (some ⟨g6, 0, none⟩) n6 n6)) ∧ (u.cell? ⟨w.heap.size, 0, none⟩ = some (.int .i64 N) ∧ u.cell? ⟨w.heap.size, 1, none⟩ = some (.slice a1 n1 c1) ∧ u.cell? ⟨w.heap.size, 2, none⟩ = some (.slice a2 n2 c2) ∧ u.cell? ⟨w.heap.size, 3, none⟩ = some (.slice a3 n3 c3) ∧ u.cell? ⟨w.heap.size, 4, none⟩ = some (.slice a4 n4 c4) ∧ u.cell? ⟨w.heap.size, 5, none⟩ = some (.int .i64 i) ∧ u.cell? ⟨w.heap.size, 6, none⟩ = some (.int .i64 o) ∧ u.cell? ⟨w.heap.size, 7, none⟩ = some (.int .i64 a) ∧ u.cell? ⟨w.heap.size, 8, none⟩ = some (.int .i64 b) ∧ u.cell? ⟨w.heap.size, 9, none⟩ = some (.int .i64 sh) ∧ u.cell? ⟨w.heap.size, 10, none⟩ = some (.int .i64 num) ∧ u.cell? ⟨w.heap.size, 11, none⟩ = some (.int .i64 op) ∧ u.cell? ⟨w.heap.size, 12, none⟩ = some (.slice a5 n5 c5) ∧ u.cell? ⟨w.heap.size, 13, none⟩ = some (.int .i64 v) ∧ u.cell? ⟨w.heap.size, 14, none⟩ = some (.slice a6 n6 c6)))
    (first | assumption)
    (first
    | (go_at_call 21; refine H7.out.mono ?_; rintro e w7 ⟨k1, k2, k3, k4, k5, k6, R2, rfl, q7, b7⟩; have B7 := bupH D6 b7; have hS7 := HC.out _ B7)
    | (go_at_call 16; refine (HE2.out _ _ B7 q7.inn).mono ?_; rintro e w8 ⟨rfl, b8⟩; have B8 := bupH B7 b8; have hS8 := HC.out _ B8))
  have BF := hideIt (bupH HB6.out B8)
  clear hS6 hS7 hS8 HC H7 HE2
  go_wp2
  go_ret
  exact ⟨rfl, BF.out⟩
end Go.Proofs.Ytdihemjfnjhdiaa
