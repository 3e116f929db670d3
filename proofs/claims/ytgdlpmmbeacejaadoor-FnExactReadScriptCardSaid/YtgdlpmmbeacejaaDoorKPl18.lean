/- The specification's events of parts, but for cut. -/
import Derived.Test.YtgdlpmmbeacejaaDoorKEo18
namespace Go.Proofs.YtgdlpmmbeacejaaDoor
open Go.RowKit C

def kdW (k : Nat) : Int := if k < 4 then 1 else (k : Int) - 2
theorem wIdx_of : ∀ k < 10, wIdx (nmW k) = some k := by decide
theorem words_at (k : Nat) (hk : k < 10) : (#[.string ⟨#[97, 100, 100]⟩, .string ⟨#[116, 97, 107, 101]⟩, .string ⟨#[116, 111, 103, 101, 116, 104, 101, 114]⟩, .string ⟨#[109, 111, 118, 101]⟩, .string ⟨#[100, 101, 108, 105, 118, 101, 114]⟩, .string ⟨#[100, 114, 111, 112]⟩, .string ⟨#[99, 111, 112, 121]⟩, .string ⟨#[116, 105, 99, 107]⟩, .string ⟨#[100, 111, 119, 110]⟩, .string ⟨#[117, 112]⟩] : Array Value)[k]? = some (.string (nmW k)) := by
  rcases (by omega : k = 0 ∨ k = 1 ∨ k = 2 ∨ k = 3 ∨ k = 4 ∨ k = 5 ∨ k = 6 ∨ k = 7 ∨ k = 8 ∨ k = 9) with rfl | rfl | rfl | rfl | rfl | rfl | rfl | rfl | rfl | rfl <;> rfl
theorem kinds_at (k : Nat) (hk : k < 10) : (#[.int .i64 1, .int .i64 1, .int .i64 1, .int .i64 1, .int .i64 2, .int .i64 3, .int .i64 4, .int .i64 5, .int .i64 6, .int .i64 7] : Array Value)[k]? = some (.int .i64 (kdW k)) := by
  rcases (by omega : k = 0 ∨ k = 1 ∨ k = 2 ∨ k = 3 ∨ k = 4 ∨ k = 5 ∨ k = 6 ∨ k = 7 ∨ k = 8 ∨ k = 9) with rfl | rfl | rfl | rfl | rfl | rfl | rfl | rfl | rfl | rfl <;> rfl
theorem wIdx_no {y : ByteArray} (h : ∀ j < 10, y ≠ nmW j) : wIdx y = none := by
  cases hy : wIdx y with
  | none => rfl
  | some i =>
    obtain ⟨h1, h2⟩ := wIdx_some hy
    exact absurd h2 (h i h1)
/-- what is answered -/
def PlOut (ps : List ByteArray) (w : World) (e : Ending) (w' : World) : Prop := Below w.heap.size w w' ∧
  ((evO ps = none ∧ e = .returned (.tuple #[.agg #[.int .i64 0, .int .i64 0, .int .i64 0, .int .i64 0, .int .i64 0, .int .i64 0, .int .i64 0, .bool false, .slice none 0 0], .bool false])) ∨
   ∃ v, evO ps = some v ∧ e = .returned (.tuple #[.agg #[.int .i64 v.k, .int .i64 v.nd, .int .i64 v.t, .int .i64 v.i, .int .i64 v.o, .int .i64 v.a, .int .i64 v.b, .bool false, .slice none 0 0], .bool true]))

set_option maxRecDepth 100000 in
set_option maxHeartbeats 16000000 in
theorem sPlain_any (y : ByteArray) (r : List ByteArray) (m : Nat) (hm : r.length = m) (hm9 : m ≤ 100) (hz : ∀ x ∈ r, x.size ≤ 1000) (b off c : Nat) (hcap : m + 1 ≤ c)
    (w : World) (hb : b < w.heap.size) (hc1 : w.cell? ⟨b, off, none⟩ = some (.string y)) (hr : ∀ (j : Nat) (x : ByteArray), r[j]? = some x → w.cell? ⟨b, off + 1 + j, none⟩ = some (.string x)) :
    Calls Tryd.prog 23 #[.slice (some ⟨b, off, none⟩) (m + 1 : Nat) c] w (PlOut (y :: r) w) := by
  obtain ⟨W, hW⟩ : ∃ W, W = ((w.alloc (.cells #[.int .i64 0, .int .i64 0, .int .i64 0, .int .i64 0, .int .i64 0, .int .i64 0, .int .i64 0, .bool false, .slice none 0 0] 57)).alloc (.cells #[.string ⟨#[97, 100, 100]⟩, .string ⟨#[116, 97, 107, 101]⟩, .string ⟨#[116, 111, 103, 101, 116, 104, 101, 114]⟩, .string ⟨#[109, 111, 118, 101]⟩, .string ⟨#[100, 101, 108, 105, 118, 101, 114]⟩, .string ⟨#[100, 114, 111, 112]⟩, .string ⟨#[99, 111, 112, 121]⟩, .string ⟨#[116, 105, 99, 107]⟩, .string ⟨#[100, 111, 119, 110]⟩, .string ⟨#[117, 112]⟩] 9)).alloc (.cells #[.int .i64 1, .int .i64 1, .int .i64 1, .int .i64 1, .int .i64 2, .int .i64 3, .int .i64 4, .int .i64 5, .int .i64 6, .int .i64 7] 3) := ⟨_, rfl⟩
  have bW : Below w.heap.size w W := by rw [hW]; exact (((Below.refl _ _).alloc (Nat.le_refl _) _).alloc (by simp) _).alloc (by simp; omega) _
  have B0 : BxA W w.heap.size 57 #[.int .i64 0, .int .i64 0, .int .i64 0, .int .i64 0, .int .i64 0, .int .i64 0, .int .i64 0, .bool false, .slice none 0 0] := by rw [hW]; exact ((BxA.new _ _ _).up (belA _ _)).up (belA _ _)
  have B1 : BxA W (w.heap.size + 1) 9 #[.string ⟨#[97, 100, 100]⟩, .string ⟨#[116, 97, 107, 101]⟩, .string ⟨#[116, 111, 103, 101, 116, 104, 101, 114]⟩, .string ⟨#[109, 111, 118, 101]⟩, .string ⟨#[100, 101, 108, 105, 118, 101, 114]⟩, .string ⟨#[100, 114, 111, 112]⟩, .string ⟨#[99, 111, 112, 121]⟩, .string ⟨#[116, 105, 99, 107]⟩, .string ⟨#[100, 111, 119, 110]⟩, .string ⟨#[117, 112]⟩] := by
    have h := (BxA.new (w.alloc (.cells #[.int .i64 0, .int .i64 0, .int .i64 0, .int .i64 0, .int .i64 0, .int .i64 0, .int .i64 0, .bool false, .slice none 0 0] 57)) 9 #[.string ⟨#[97, 100, 100]⟩, .string ⟨#[116, 97, 107, 101]⟩, .string ⟨#[116, 111, 103, 101, 116, 104, 101, 114]⟩, .string ⟨#[109, 111, 118, 101]⟩, .string ⟨#[100, 101, 108, 105, 118, 101, 114]⟩, .string ⟨#[100, 114, 111, 112]⟩, .string ⟨#[99, 111, 112, 121]⟩, .string ⟨#[116, 105, 99, 107]⟩, .string ⟨#[100, 111, 119, 110]⟩, .string ⟨#[117, 112]⟩]).up (belA _ (.cells #[.int .i64 1, .int .i64 1, .int .i64 1, .int .i64 1, .int .i64 2, .int .i64 3, .int .i64 4, .int .i64 5, .int .i64 6, .int .i64 7] 3))
    rw [show (w.alloc (.cells #[.int .i64 0, .int .i64 0, .int .i64 0, .int .i64 0, .int .i64 0, .int .i64 0, .int .i64 0, .bool false, .slice none 0 0] 57)).heap.size = w.heap.size + 1 by simp] at h
    rw [hW]; exact h
  have B2 : BxA W (w.heap.size + 1 + 1) 3 #[.int .i64 1, .int .i64 1, .int .i64 1, .int .i64 1, .int .i64 2, .int .i64 3, .int .i64 4, .int .i64 5, .int .i64 6, .int .i64 7] := by
    have h := BxA.new ((w.alloc (.cells #[.int .i64 0, .int .i64 0, .int .i64 0, .int .i64 0, .int .i64 0, .int .i64 0, .int .i64 0, .bool false, .slice none 0 0] 57)).alloc (.cells #[.string ⟨#[97, 100, 100]⟩, .string ⟨#[116, 97, 107, 101]⟩, .string ⟨#[116, 111, 103, 101, 116, 104, 101, 114]⟩, .string ⟨#[109, 111, 118, 101]⟩, .string ⟨#[100, 101, 108, 105, 118, 101, 114]⟩, .string ⟨#[100, 114, 111, 112]⟩, .string ⟨#[99, 111, 112, 121]⟩, .string ⟨#[116, 105, 99, 107]⟩, .string ⟨#[100, 111, 119, 110]⟩, .string ⟨#[117, 112]⟩] 9)) 3 #[.int .i64 1, .int .i64 1, .int .i64 1, .int .i64 1, .int .i64 2, .int .i64 3, .int .i64 4, .int .i64 5, .int .i64 6, .int .i64 7]
    rw [show ((w.alloc (.cells #[.int .i64 0, .int .i64 0, .int .i64 0, .int .i64 0, .int .i64 0, .int .i64 0, .int .i64 0, .bool false, .slice none 0 0] 57)).alloc (.cells #[.string ⟨#[97, 100, 100]⟩, .string ⟨#[116, 97, 107, 101]⟩, .string ⟨#[116, 111, 103, 101, 116, 104, 101, 114]⟩, .string ⟨#[109, 111, 118, 101]⟩, .string ⟨#[100, 101, 108, 105, 118, 101, 114]⟩, .string ⟨#[100, 114, 111, 112]⟩, .string ⟨#[99, 111, 112, 121]⟩, .string ⟨#[116, 105, 99, 107]⟩, .string ⟨#[100, 111, 119, 110]⟩, .string ⟨#[117, 112]⟩] 9)).heap.size = w.heap.size + 1 + 1 by simp] at h
    rw [hW]; exact h
  obtain ⟨a2, c2, hs2, ha2, hl2, hu2⟩ := slice1 b off (m + 1) c m rfl hcap
  have HV : Hid (Sv W a2 r) := by
    by_cases h0 : 0 < m
    · rw [ha2 h0]
      exact .inr ⟨b, _, rfl, Nat.lt_of_lt_of_le hb bW.size, fun j x hx => by rw [bW.cell hb]; exact hr j x hx⟩
    · exact .inl (List.eq_nil_of_length_eq_zero (by omega))
  have HNm : Hid (∀ u, Below W.heap.size W u → Calls Tryd.prog 11 #[.slice a2 m c2] u (NmOut r u)) := fun u hu => sNums_any r m hm (by omega) hz a2 c2 u (HV.out.up hu)
  have HY : Hid (W.cell? ⟨b, off, none⟩ = some (.string y)) := by show _ = _; rw [bW.cell hb]; exact hc1
  have lb : b < W.heap.size := Nat.lt_of_lt_of_le hb bW.size
  have Hlb := hideIt lb
  have HB := hideIt bW
  have H0 := hideIt B0
  have H1 := hideIt B1
  have H2 := hideIt B2
  clear B0 B1 B2 bW hr hc1 hz ha2 HV hb lb
  go_enter Tryd.func23, Tryd.ntmps23
  go_upto_region 3 with fail
  rw [← hW]
  clear hW
  go_wp2
  go_loopw [6] (fun i wr => ∃ k : Nat, k ≤ 10 ∧ i = .int .i64 (k : Int) ∧ Hid (∀ j < k, y ≠ nmW j) ∧ Hid (Below W.heap.size W wr)) (fun i _ => 10 - (intOf i).toNat)
  case atStart => exact ⟨0, by omega, rfl, fun j hj => by omega, Below.refl _ _⟩
  case round =>
    obtain ⟨k, hk, rfl, hno, hbl⟩ := hrel
    by_cases hlt : k < 10
    · have b1 : (0 : Int) ≤ (k : Int) := by omega
      have b2 : (k : Int) < 10 := by omega
      have cW := (H1.out.up hbl.out).cell k (words_at k hlt)
      have cY : wr.cell? ⟨b, off, none⟩ = some (.string y) := by rw [hbl.out.cell Hlb.out]; exact HY.out
      have lb : b < wr.heap.size := Nat.lt_of_lt_of_le Hlb.out hbl.out.size
      have lw := (H1.out.up hbl.out).lt
      by_cases hq : y = nmW k
      · have hqe : ((nmW k).toList == y.toList) = true := by rw [hq]; simp
        have hidx : wIdx y = some k := by rw [hq]; exact wIdx_of k hlt
        have HI := hideIt hidx
        have HB2 : Hid (Below W.heap.size W wr.drew) := hbl.out.drew
        generalize nmW k = qk at cW hqe
        clear hno hbl hq hidx
        go_upto_region 6 with fail
        go_region
        go_upto_region 7 with fail
        go_wp2_with (go_at_call 11; refine (HNm.out _ HB2.out).mono ?_; rintro e w3 hN; rcases hN with ⟨hn, a3, c3, rfl, b3⟩ | ⟨ns, hn, a3, n3, c3, rfl, hl3, o3, b3⟩ <;> refine Hid.out ?_)
        · refine hidw ?_
          have HB3 := hideIt (HB2.out.trans (b3.mono HB2.out.size))
          have XK := H2.out.up HB3.out
          have cK := XK.cell k (kinds_at k hlt)
          have lk := XK.lt
          obtain ⟨kq, hkq_⟩ : ∃ kq, kq = kdW k := ⟨_, rfl⟩
          rw [← hkq_] at cK
          have hkq := hideIt hkq_
          clear hkq_ XK b3 cW cY hqe HB2
          by_cases h4 : k < 4
          · have ke : (kq == 1) = true := by rw [hkq.out]; unfold kdW; rw [if_pos h4]; rfl
            have HE : Hid (evO (y :: r) = none) := by show _ = _; simp only [evO, HI.out, hn]
            have X2 := H0.out.up HB3.out
            have XF := BxA.setA (l := [.int .i64 0, .int .i64 0, .int .i64 0, .int .i64 0, .int .i64 0, .int .i64 0, .int .i64 0, .bool false, .slice none 0 0]) X2 0 [.int .i64 0, .int .i64 0, .int .i64 0, .int .i64 0, .int .i64 0, .int .i64 0, .int .i64 0, .bool false, .slice none 0 0]
            rw [setV_all [.int .i64 0, .int .i64 0, .int .i64 0, .int .i64 0, .int .i64 0, .int .i64 0, .int .i64 0, .bool false, .slice none 0 0] [.int .i64 0, .int .i64 0, .int .i64 0, .int .i64 0, .int .i64 0, .int .i64 0, .int .i64 0, .bool false, .slice none 0 0] rfl] at XF
            have HFn := hideIt (below_setA (bupN HB.out HB3.out) (Nat.le_refl _) 0 [.int .i64 0, .int .i64 0, .int .i64 0, .int .i64 0, .int .i64 0, .int .i64 0, .int .i64 0, .bool false, .slice none 0 0])
            dsimp only [setA] at XF HFn
            have r0 := X2.cell 0 rfl
            have z0 := X2.frozen 0
            have s0 := XF.at 0 rfl
            have r1 := X2.cell 1 rfl
            have z1 := X2.frozen 1
            have s1 := XF.at 1 rfl
            have r2 := X2.cell 2 rfl
            have z2 := X2.frozen 2
            have s2 := XF.at 2 rfl
            have r3 := X2.cell 3 rfl
            have z3 := X2.frozen 3
            have s3 := XF.at 3 rfl
            have r4 := X2.cell 4 rfl
            have z4 := X2.frozen 4
            have s4 := XF.at 4 rfl
            have r5 := X2.cell 5 rfl
            have z5 := X2.frozen 5
            have s5 := XF.at 5 rfl
            have r6 := X2.cell 6 rfl
            have z6 := X2.frozen 6
            have s6 := XF.at 6 rfl
            have r7 := X2.cell 7 rfl
            have z7 := X2.frozen 7
            have s7 := XF.at 7 rfl
            have r8 := X2.cell 8 rfl
            have z8 := X2.frozen 8
            have s8 := XF.at 8 rfl
            have HSx := hideIt (And.intro s0 (And.intro s1 (And.intro s2 (And.intro s3 (And.intro s4 (And.intro s5 (And.intro s6 (And.intro s7 s8))))))))
            clear XF X2 HB3  s0 s1 s2 s3 s4 s5 s6 s7 s8
            go_wp2
            obtain ⟨s0, s1, s2, s3, s4, s5, s6, s7, s8⟩ := HSx.out
            exact bodyPost_ret (v := .tuple #[.agg #[.int .i64 0, .int .i64 0, .int .i64 0, .int .i64 0, .int .i64 0, .int .i64 0, .int .i64 0, .bool false, .slice none 0 0], .bool false]) (by simp [results, Tryd.results23, go_sem, s0, s1, s2, s3, s4, s5, s6, s7, s8]) rfl ⟨HFn.out, .inl ⟨HE.out, rfl⟩⟩
          · have ke : (kq == 1) = false := by rw [hkq.out]; unfold kdW; rw [if_neg h4]; simp; omega
            have HE : Hid (evO (y :: r) = none) := by show _ = _; simp only [evO, HI.out, hn]
            have X2 := H0.out.up HB3.out
            have XF := BxA.setA (l := [.int .i64 0, .int .i64 0, .int .i64 0, .int .i64 0, .int .i64 0, .int .i64 0, .int .i64 0, .bool false, .slice none 0 0]) X2 0 [.int .i64 0, .int .i64 0, .int .i64 0, .int .i64 0, .int .i64 0, .int .i64 0, .int .i64 0, .bool false, .slice none 0 0]
            rw [setV_all [.int .i64 0, .int .i64 0, .int .i64 0, .int .i64 0, .int .i64 0, .int .i64 0, .int .i64 0, .bool false, .slice none 0 0] [.int .i64 0, .int .i64 0, .int .i64 0, .int .i64 0, .int .i64 0, .int .i64 0, .int .i64 0, .bool false, .slice none 0 0] rfl] at XF
            have HFn := hideIt (below_setA (bupN HB.out HB3.out) (Nat.le_refl _) 0 [.int .i64 0, .int .i64 0, .int .i64 0, .int .i64 0, .int .i64 0, .int .i64 0, .int .i64 0, .bool false, .slice none 0 0])
            dsimp only [setA] at XF HFn
            have r0 := X2.cell 0 rfl
            have z0 := X2.frozen 0
            have s0 := XF.at 0 rfl
            have r1 := X2.cell 1 rfl
            have z1 := X2.frozen 1
            have s1 := XF.at 1 rfl
            have r2 := X2.cell 2 rfl
            have z2 := X2.frozen 2
            have s2 := XF.at 2 rfl
            have r3 := X2.cell 3 rfl
            have z3 := X2.frozen 3
            have s3 := XF.at 3 rfl
            have r4 := X2.cell 4 rfl
            have z4 := X2.frozen 4
            have s4 := XF.at 4 rfl
            have r5 := X2.cell 5 rfl
            have z5 := X2.frozen 5
            have s5 := XF.at 5 rfl
            have r6 := X2.cell 6 rfl
            have z6 := X2.frozen 6
            have s6 := XF.at 6 rfl
            have r7 := X2.cell 7 rfl
            have z7 := X2.frozen 7
            have s7 := XF.at 7 rfl
            have r8 := X2.cell 8 rfl
            have z8 := X2.frozen 8
            have s8 := XF.at 8 rfl
            have HSx := hideIt (And.intro s0 (And.intro s1 (And.intro s2 (And.intro s3 (And.intro s4 (And.intro s5 (And.intro s6 (And.intro s7 s8))))))))
            clear XF X2 HB3  s0 s1 s2 s3 s4 s5 s6 s7 s8
            go_wp2
            obtain ⟨s0, s1, s2, s3, s4, s5, s6, s7, s8⟩ := HSx.out
            exact bodyPost_ret (v := .tuple #[.agg #[.int .i64 0, .int .i64 0, .int .i64 0, .int .i64 0, .int .i64 0, .int .i64 0, .int .i64 0, .bool false, .slice none 0 0], .bool false]) (by simp [results, Tryd.results23, go_sem, s0, s1, s2, s3, s4, s5, s6, s7, s8]) rfl ⟨HFn.out, .inl ⟨HE.out, rfl⟩⟩
        · refine hidw ?_
          have HB3 := hideIt (HB2.out.trans (b3.mono HB2.out.size))
          have XK := H2.out.up HB3.out
          have cK := XK.cell k (kinds_at k hlt)
          have lk := XK.lt
          obtain ⟨kq, hkq_⟩ : ∃ kq, kq = kdW k := ⟨_, rfl⟩
          rw [← hkq_] at cK
          have hkq := hideIt hkq_
          clear hkq_ XK b3 cW cY hqe HB2
          by_cases h4 : k < 4
          · have ke : kq = 1 := by rw [hkq.out]; unfold kdW; rw [if_pos h4]
            subst ke
            by_cases h3 : n3 = 3
            · subst h3
              match ns, hl3 with
              | [x0, x1, x2], _ =>
                have hwr : IntKind.i64.wrap (1 + (k : Int)) = 1 + (k : Int) := by rw [IntKind.wrap_i64]; omega
                have HV3 := Vi.of_own o3
                rcases HV3 with hnil | ⟨bn, offn, rfl, hbn, hcn⟩
                · cases hnil
                have m0 := hcn 0 x0 rfl
                have m1 := hcn 1 x1 rfl
                have m2 := hcn 2 x2 rfl
                rw [Nat.add_zero] at m0
                obtain ⟨W5, hW5⟩ : ∃ W5, W5 = w3.alloc (.cells #[.int .i64 1, .int .i64 0, .int .i64 0, .int .i64 0, .int .i64 0, .int .i64 0, .int .i64 0, .bool false, .slice none 0 0] 57) := ⟨_, rfl⟩
                obtain ⟨bE, hbE⟩ : ∃ bE, bE = w3.heap.size := ⟨_, rfl⟩
                have b5 : Below w3.heap.size w3 W5 := by rw [hW5]; exact belA _ _
                have B5 : Below W.heap.size W W5 := HB3.out.trans (b5.mono HB3.out.size)
                have X5 : BxA W5 bE 57 #[.int .i64 1, .int .i64 0, .int .i64 0, .int .i64 0, .int .i64 0, .int .i64 0, .int .i64 0, .bool false, .slice none 0 0] := by rw [hW5, hbE]; exact BxA.new _ _ _
                have lE : W.heap.size ≤ bE := by rw [hbE]; exact HB3.out.size
                have lbE := X5.lt
                have cK5 : W5.cell? ⟨w.heap.size + 1 + 1, k, none⟩ = some (.int .i64 1) := by rw [b5.cell lk]; exact cK
                have lk5 : w.heap.size + 1 + 1 < W5.heap.size := Nat.lt_of_lt_of_le lk b5.size
                have lbn : bn < W5.heap.size := Nat.lt_of_lt_of_le hbn b5.size
                have m50 : W5.cell? ⟨bn, offn, none⟩ = some (.int .i64 (x0 : Int)) := by rw [b5.cell hbn]; exact m0
                have m51 : W5.cell? ⟨bn, offn + 1, none⟩ = some (.int .i64 (x1 : Int)) := by rw [b5.cell hbn]; exact m1
                have m52 : W5.cell? ⟨bn, offn + 2, none⟩ = some (.int .i64 (x2 : Int)) := by rw [b5.cell hbn]; exact m2
                go_upto_region 15 with fail
                rw [← hW5, ← hbE]
                clear hW5 hbE m0 m1 m2 cK hcn o3
                have c3 := X5.cell 3 rfl
                have f3 := X5.frozen 3
                have c4 := X5.cell 4 rfl
                have f4 := X5.frozen 4
                have c5 := X5.cell 5 rfl
                have f5 := X5.frozen 5
                have c6 := X5.cell 6 rfl
                have f6 := X5.frozen 6
                obtain ⟨W6, hW6⟩ : ∃ W6, W6 = ((((W5.setCell ⟨bE, 3, none⟩ (.int .i64 (x0 : Int))).setCell ⟨bE, 4, none⟩ (.int .i64 (1 + (k : Int)))).setCell ⟨bE, 5, none⟩ (.int .i64 (x1 : Int))).setCell ⟨bE, 6, none⟩ (.int .i64 (x2 : Int))).drew := ⟨_, rfl⟩
                have X6 : BxA W6 bE 57 #[.int .i64 1, .int .i64 0, .int .i64 0, .int .i64 (x0 : Int), .int .i64 (1 + (k : Int)), .int .i64 (x1 : Int), .int .i64 (x2 : Int), .bool false, .slice none 0 0] := by rw [hW6]; exact (((((X5.set 3 (.int .i64 (x0 : Int))).set 4 (.int .i64 (1 + (k : Int)))).set 5 (.int .i64 (x1 : Int))).set 6 (.int .i64 (x2 : Int))).up (Below.refl _ _).drew)
                have B6 : Below W.heap.size W W6 := by rw [hW6]; exact (Below.setCell (Below.setCell (Below.setCell (Below.setCell B5 (p := ⟨bE, 3, none⟩) lE (.int .i64 (x0 : Int))) (p := ⟨bE, 4, none⟩) lE (.int .i64 (1 + (k : Int)))) (p := ⟨bE, 5, none⟩) lE (.int .i64 (x1 : Int))) (p := ⟨bE, 6, none⟩) lE (.int .i64 (x2 : Int))).drew
                have HE : Hid (evO (y :: r) = some ⟨1, 0, 0, (x0 : Int), 1 + (k : Int), (x1 : Int), (x2 : Int)⟩) := by show _ = _; simp only [evO, HI.out, hn]; unfold evI; rw [if_pos h4]; simp only [Int.add_comm]
                have X2 := H0.out.up B6
                have XF := BxA.setA (l := [.int .i64 0, .int .i64 0, .int .i64 0, .int .i64 0, .int .i64 0, .int .i64 0, .int .i64 0, .bool false, .slice none 0 0]) X2 0 [.int .i64 1, .int .i64 0, .int .i64 0, .int .i64 (x0 : Int), .int .i64 (1 + (k : Int)), .int .i64 (x1 : Int), .int .i64 (x2 : Int), .bool false, .slice none 0 0]
                rw [setV_all [.int .i64 0, .int .i64 0, .int .i64 0, .int .i64 0, .int .i64 0, .int .i64 0, .int .i64 0, .bool false, .slice none 0 0] [.int .i64 1, .int .i64 0, .int .i64 0, .int .i64 (x0 : Int), .int .i64 (1 + (k : Int)), .int .i64 (x1 : Int), .int .i64 (x2 : Int), .bool false, .slice none 0 0] rfl] at XF
                have HFn := hideIt (below_setA (bupN HB.out B6) (Nat.le_refl _) 0 [.int .i64 1, .int .i64 0, .int .i64 0, .int .i64 (x0 : Int), .int .i64 (1 + (k : Int)), .int .i64 (x1 : Int), .int .i64 (x2 : Int), .bool false, .slice none 0 0])
                dsimp only [setA] at XF HFn
                have p0 := X6.cell 0 rfl
                have r0 := X2.cell 0 rfl
                have z0 := X2.frozen 0
                have s0 := XF.at 0 rfl
                have p1 := X6.cell 1 rfl
                have r1 := X2.cell 1 rfl
                have z1 := X2.frozen 1
                have s1 := XF.at 1 rfl
                have p2 := X6.cell 2 rfl
                have r2 := X2.cell 2 rfl
                have z2 := X2.frozen 2
                have s2 := XF.at 2 rfl
                have p3 := X6.cell 3 rfl
                have r3 := X2.cell 3 rfl
                have z3 := X2.frozen 3
                have s3 := XF.at 3 rfl
                have p4 := X6.cell 4 rfl
                have r4 := X2.cell 4 rfl
                have z4 := X2.frozen 4
                have s4 := XF.at 4 rfl
                have p5 := X6.cell 5 rfl
                have r5 := X2.cell 5 rfl
                have z5 := X2.frozen 5
                have s5 := XF.at 5 rfl
                have p6 := X6.cell 6 rfl
                have r6 := X2.cell 6 rfl
                have z6 := X2.frozen 6
                have s6 := XF.at 6 rfl
                have p7 := X6.cell 7 rfl
                have r7 := X2.cell 7 rfl
                have z7 := X2.frozen 7
                have s7 := XF.at 7 rfl
                have p8 := X6.cell 8 rfl
                have r8 := X2.cell 8 rfl
                have z8 := X2.frozen 8
                have s8 := XF.at 8 rfl
                have HSx := hideIt (And.intro s0 (And.intro s1 (And.intro s2 (And.intro s3 (And.intro s4 (And.intro s5 (And.intro s6 (And.intro s7 s8))))))))
                clear XF X2 X6 B6 B5 X5 b5 HB3 s0 s1 s2 s3 s4 s5 s6 s7 s8
                go_upto_region 16 with fail
                go_region
                go_upto_region 19 with fail
                rw [← hW6]
                clear hW6 c3 f3 c4 f4 c5 f5 c6 f6 m50 m51 m52 cK5
                go_wp2
                obtain ⟨s0, s1, s2, s3, s4, s5, s6, s7, s8⟩ := HSx.out
                exact bodyPost_ret (v := .tuple #[.agg #[.int .i64 1, .int .i64 0, .int .i64 0, .int .i64 (x0 : Int), .int .i64 (1 + (k : Int)), .int .i64 (x1 : Int), .int .i64 (x2 : Int), .bool false, .slice none 0 0], .bool true]) (by simp [results, Tryd.results23, go_sem, s0, s1, s2, s3, s4, s5, s6, s7, s8]) rfl ⟨HFn.out, .inr ⟨_, HE.out, rfl⟩⟩
            · have dn : ((n3 : Int) != 3) = true := by simp; omega
              have hev0 : evI k ns = none := evI_none (by unfold cntW; rw [if_pos h4, hl3]; exact h3)
              have HE : Hid (evO (y :: r) = none) := by show _ = _; simp only [evO, HI.out, hn, hev0]
              have X2 := H0.out.up HB3.out
              have XF := BxA.setA (l := [.int .i64 0, .int .i64 0, .int .i64 0, .int .i64 0, .int .i64 0, .int .i64 0, .int .i64 0, .bool false, .slice none 0 0]) X2 0 [.int .i64 0, .int .i64 0, .int .i64 0, .int .i64 0, .int .i64 0, .int .i64 0, .int .i64 0, .bool false, .slice none 0 0]
              rw [setV_all [.int .i64 0, .int .i64 0, .int .i64 0, .int .i64 0, .int .i64 0, .int .i64 0, .int .i64 0, .bool false, .slice none 0 0] [.int .i64 0, .int .i64 0, .int .i64 0, .int .i64 0, .int .i64 0, .int .i64 0, .int .i64 0, .bool false, .slice none 0 0] rfl] at XF
              have HFn := hideIt (below_setA (bupN HB.out HB3.out) (Nat.le_refl _) 0 [.int .i64 0, .int .i64 0, .int .i64 0, .int .i64 0, .int .i64 0, .int .i64 0, .int .i64 0, .bool false, .slice none 0 0])
              dsimp only [setA] at XF HFn
              have r0 := X2.cell 0 rfl
              have z0 := X2.frozen 0
              have s0 := XF.at 0 rfl
              have r1 := X2.cell 1 rfl
              have z1 := X2.frozen 1
              have s1 := XF.at 1 rfl
              have r2 := X2.cell 2 rfl
              have z2 := X2.frozen 2
              have s2 := XF.at 2 rfl
              have r3 := X2.cell 3 rfl
              have z3 := X2.frozen 3
              have s3 := XF.at 3 rfl
              have r4 := X2.cell 4 rfl
              have z4 := X2.frozen 4
              have s4 := XF.at 4 rfl
              have r5 := X2.cell 5 rfl
              have z5 := X2.frozen 5
              have s5 := XF.at 5 rfl
              have r6 := X2.cell 6 rfl
              have z6 := X2.frozen 6
              have s6 := XF.at 6 rfl
              have r7 := X2.cell 7 rfl
              have z7 := X2.frozen 7
              have s7 := XF.at 7 rfl
              have r8 := X2.cell 8 rfl
              have z8 := X2.frozen 8
              have s8 := XF.at 8 rfl
              have HSx := hideIt (And.intro s0 (And.intro s1 (And.intro s2 (And.intro s3 (And.intro s4 (And.intro s5 (And.intro s6 (And.intro s7 s8))))))))
              clear XF X2 HB3 o3 s0 s1 s2 s3 s4 s5 s6 s7 s8
              go_wp2
              obtain ⟨s0, s1, s2, s3, s4, s5, s6, s7, s8⟩ := HSx.out
              exact bodyPost_ret (v := .tuple #[.agg #[.int .i64 0, .int .i64 0, .int .i64 0, .int .i64 0, .int .i64 0, .int .i64 0, .int .i64 0, .bool false, .slice none 0 0], .bool false]) (by simp [results, Tryd.results23, go_sem, s0, s1, s2, s3, s4, s5, s6, s7, s8]) rfl ⟨HFn.out, .inl ⟨HE.out, rfl⟩⟩
          · have ke : (kq == 1) = false := by rw [hkq.out]; unfold kdW; rw [if_neg h4]; simp; omega
            by_cases h3 : n3 = 1
            · subst h3
              match ns, hl3 with
              | [x0], _ =>
                by_cases h7 : k < 7
                · have kl : decide (kq ≤ 4) = true := by rw [hkq.out]; unfold kdW; rw [if_neg h4]; simp; omega
                  have kl' : kq ≤ 4 := by simpa using kl
                  have HV3 := Vi.of_own o3
                  rcases HV3 with hnil | ⟨bn, offn, rfl, hbn, hcn⟩
                  · cases hnil
                  have m0 := hcn 0 x0 rfl
                  rw [Nat.add_zero] at m0
                  obtain ⟨W5, hW5⟩ : ∃ W5, W5 = w3.alloc (.cells #[.int .i64 kq, .int .i64 0, .int .i64 0, .int .i64 0, .int .i64 0, .int .i64 0, .int .i64 0, .bool false, .slice none 0 0] 57) := ⟨_, rfl⟩
                  obtain ⟨bE, hbE⟩ : ∃ bE, bE = w3.heap.size := ⟨_, rfl⟩
                  have b5 : Below w3.heap.size w3 W5 := by rw [hW5]; exact belA _ _
                  have B5 : Below W.heap.size W W5 := HB3.out.trans (b5.mono HB3.out.size)
                  have X5 : BxA W5 bE 57 #[.int .i64 kq, .int .i64 0, .int .i64 0, .int .i64 0, .int .i64 0, .int .i64 0, .int .i64 0, .bool false, .slice none 0 0] := by rw [hW5, hbE]; exact BxA.new _ _ _
                  have lE : W.heap.size ≤ bE := by rw [hbE]; exact HB3.out.size
                  have lbE := X5.lt
                  have cK5 : W5.cell? ⟨w.heap.size + 1 + 1, k, none⟩ = some (.int .i64 kq) := by rw [b5.cell lk]; exact cK
                  have lk5 : w.heap.size + 1 + 1 < W5.heap.size := Nat.lt_of_lt_of_le lk b5.size
                  have lbn : bn < W5.heap.size := Nat.lt_of_lt_of_le hbn b5.size
                  have m50 : W5.cell? ⟨bn, offn, none⟩ = some (.int .i64 (x0 : Int)) := by rw [b5.cell hbn]; exact m0
                  go_upto_region 15 with fail
                  rw [← hW5, ← hbE]
                  clear hW5 hbE m0 cK hcn o3
                  have c2 := X5.cell 2 rfl
                  have f2 := X5.frozen 2
                  obtain ⟨W6, hW6⟩ : ∃ W6, W6 = (W5.setCell ⟨bE, 2, none⟩ (.int .i64 (x0 : Int))) := ⟨_, rfl⟩
                  have X6 : BxA W6 bE 57 #[.int .i64 kq, .int .i64 0, .int .i64 (x0 : Int), .int .i64 0, .int .i64 0, .int .i64 0, .int .i64 0, .bool false, .slice none 0 0] := by rw [hW6]; exact (X5.set 2 (.int .i64 (x0 : Int)))
                  have B6 : Below W.heap.size W W6 := by rw [hW6]; exact (Below.setCell B5 (p := ⟨bE, 2, none⟩) lE (.int .i64 (x0 : Int)))
                  have HE : Hid (evO (y :: r) = some ⟨kq, 0, (x0 : Int), 0, 0, 0, 0⟩) := by show _ = _; simp only [evO, HI.out, hn]; unfold evI; rw [if_neg h4, if_pos h7, hkq.out]; unfold kdW; rw [if_neg h4]
                  have X2 := H0.out.up B6
                  have XF := BxA.setA (l := [.int .i64 0, .int .i64 0, .int .i64 0, .int .i64 0, .int .i64 0, .int .i64 0, .int .i64 0, .bool false, .slice none 0 0]) X2 0 [.int .i64 kq, .int .i64 0, .int .i64 (x0 : Int), .int .i64 0, .int .i64 0, .int .i64 0, .int .i64 0, .bool false, .slice none 0 0]
                  rw [setV_all [.int .i64 0, .int .i64 0, .int .i64 0, .int .i64 0, .int .i64 0, .int .i64 0, .int .i64 0, .bool false, .slice none 0 0] [.int .i64 kq, .int .i64 0, .int .i64 (x0 : Int), .int .i64 0, .int .i64 0, .int .i64 0, .int .i64 0, .bool false, .slice none 0 0] rfl] at XF
                  have HFn := hideIt (below_setA (bupN HB.out B6) (Nat.le_refl _) 0 [.int .i64 kq, .int .i64 0, .int .i64 (x0 : Int), .int .i64 0, .int .i64 0, .int .i64 0, .int .i64 0, .bool false, .slice none 0 0])
                  dsimp only [setA] at XF HFn
                  have p0 := X6.cell 0 rfl
                  have r0 := X2.cell 0 rfl
                  have z0 := X2.frozen 0
                  have s0 := XF.at 0 rfl
                  have p1 := X6.cell 1 rfl
                  have r1 := X2.cell 1 rfl
                  have z1 := X2.frozen 1
                  have s1 := XF.at 1 rfl
                  have p2 := X6.cell 2 rfl
                  have r2 := X2.cell 2 rfl
                  have z2 := X2.frozen 2
                  have s2 := XF.at 2 rfl
                  have p3 := X6.cell 3 rfl
                  have r3 := X2.cell 3 rfl
                  have z3 := X2.frozen 3
                  have s3 := XF.at 3 rfl
                  have p4 := X6.cell 4 rfl
                  have r4 := X2.cell 4 rfl
                  have z4 := X2.frozen 4
                  have s4 := XF.at 4 rfl
                  have p5 := X6.cell 5 rfl
                  have r5 := X2.cell 5 rfl
                  have z5 := X2.frozen 5
                  have s5 := XF.at 5 rfl
                  have p6 := X6.cell 6 rfl
                  have r6 := X2.cell 6 rfl
                  have z6 := X2.frozen 6
                  have s6 := XF.at 6 rfl
                  have p7 := X6.cell 7 rfl
                  have r7 := X2.cell 7 rfl
                  have z7 := X2.frozen 7
                  have s7 := XF.at 7 rfl
                  have p8 := X6.cell 8 rfl
                  have r8 := X2.cell 8 rfl
                  have z8 := X2.frozen 8
                  have s8 := XF.at 8 rfl
                  have HSx := hideIt (And.intro s0 (And.intro s1 (And.intro s2 (And.intro s3 (And.intro s4 (And.intro s5 (And.intro s6 (And.intro s7 s8))))))))
                  clear XF X2 X6 B6 B5 X5 b5 HB3 s0 s1 s2 s3 s4 s5 s6 s7 s8
                  go_upto_region 18 with fail
                  go_upto_region 19 with fail
                  rw [← hW6]
                  clear hW6 c2 f2 m50 cK5
                  go_wp2
                  obtain ⟨s0, s1, s2, s3, s4, s5, s6, s7, s8⟩ := HSx.out
                  exact bodyPost_ret (v := .tuple #[.agg #[.int .i64 kq, .int .i64 0, .int .i64 (x0 : Int), .int .i64 0, .int .i64 0, .int .i64 0, .int .i64 0, .bool false, .slice none 0 0], .bool true]) (by simp [results, Tryd.results23, go_sem, s0, s1, s2, s3, s4, s5, s6, s7, s8]) rfl ⟨HFn.out, .inr ⟨_, HE.out, rfl⟩⟩
                · have kl : decide (kq ≤ 4) = false := by rw [hkq.out]; unfold kdW; rw [if_neg h4]; simp; omega
                  have kl' : ¬ kq ≤ 4 := by simpa using kl
                  have HV3 := Vi.of_own o3
                  rcases HV3 with hnil | ⟨bn, offn, rfl, hbn, hcn⟩
                  · cases hnil
                  have m0 := hcn 0 x0 rfl
                  rw [Nat.add_zero] at m0
                  obtain ⟨W5, hW5⟩ : ∃ W5, W5 = w3.alloc (.cells #[.int .i64 kq, .int .i64 0, .int .i64 0, .int .i64 0, .int .i64 0, .int .i64 0, .int .i64 0, .bool false, .slice none 0 0] 57) := ⟨_, rfl⟩
                  obtain ⟨bE, hbE⟩ : ∃ bE, bE = w3.heap.size := ⟨_, rfl⟩
                  have b5 : Below w3.heap.size w3 W5 := by rw [hW5]; exact belA _ _
                  have B5 : Below W.heap.size W W5 := HB3.out.trans (b5.mono HB3.out.size)
                  have X5 : BxA W5 bE 57 #[.int .i64 kq, .int .i64 0, .int .i64 0, .int .i64 0, .int .i64 0, .int .i64 0, .int .i64 0, .bool false, .slice none 0 0] := by rw [hW5, hbE]; exact BxA.new _ _ _
                  have lE : W.heap.size ≤ bE := by rw [hbE]; exact HB3.out.size
                  have lbE := X5.lt
                  have cK5 : W5.cell? ⟨w.heap.size + 1 + 1, k, none⟩ = some (.int .i64 kq) := by rw [b5.cell lk]; exact cK
                  have lk5 : w.heap.size + 1 + 1 < W5.heap.size := Nat.lt_of_lt_of_le lk b5.size
                  have lbn : bn < W5.heap.size := Nat.lt_of_lt_of_le hbn b5.size
                  have m50 : W5.cell? ⟨bn, offn, none⟩ = some (.int .i64 (x0 : Int)) := by rw [b5.cell hbn]; exact m0
                  go_upto_region 15 with fail
                  rw [← hW5, ← hbE]
                  clear hW5 hbE m0 cK hcn o3
                  have c1 := X5.cell 1 rfl
                  have f1 := X5.frozen 1
                  obtain ⟨W6, hW6⟩ : ∃ W6, W6 = (W5.setCell ⟨bE, 1, none⟩ (.int .i64 (x0 : Int))) := ⟨_, rfl⟩
                  have X6 : BxA W6 bE 57 #[.int .i64 kq, .int .i64 (x0 : Int), .int .i64 0, .int .i64 0, .int .i64 0, .int .i64 0, .int .i64 0, .bool false, .slice none 0 0] := by rw [hW6]; exact (X5.set 1 (.int .i64 (x0 : Int)))
                  have B6 : Below W.heap.size W W6 := by rw [hW6]; exact (Below.setCell B5 (p := ⟨bE, 1, none⟩) lE (.int .i64 (x0 : Int)))
                  have HE : Hid (evO (y :: r) = some ⟨kq, (x0 : Int), 0, 0, 0, 0, 0⟩) := by show _ = _; simp only [evO, HI.out, hn]; unfold evI; rw [if_neg h4, if_neg h7, hkq.out]; unfold kdW; rw [if_neg h4]
                  have X2 := H0.out.up B6
                  have XF := BxA.setA (l := [.int .i64 0, .int .i64 0, .int .i64 0, .int .i64 0, .int .i64 0, .int .i64 0, .int .i64 0, .bool false, .slice none 0 0]) X2 0 [.int .i64 kq, .int .i64 (x0 : Int), .int .i64 0, .int .i64 0, .int .i64 0, .int .i64 0, .int .i64 0, .bool false, .slice none 0 0]
                  rw [setV_all [.int .i64 0, .int .i64 0, .int .i64 0, .int .i64 0, .int .i64 0, .int .i64 0, .int .i64 0, .bool false, .slice none 0 0] [.int .i64 kq, .int .i64 (x0 : Int), .int .i64 0, .int .i64 0, .int .i64 0, .int .i64 0, .int .i64 0, .bool false, .slice none 0 0] rfl] at XF
                  have HFn := hideIt (below_setA (bupN HB.out B6) (Nat.le_refl _) 0 [.int .i64 kq, .int .i64 (x0 : Int), .int .i64 0, .int .i64 0, .int .i64 0, .int .i64 0, .int .i64 0, .bool false, .slice none 0 0])
                  dsimp only [setA] at XF HFn
                  have p0 := X6.cell 0 rfl
                  have r0 := X2.cell 0 rfl
                  have z0 := X2.frozen 0
                  have s0 := XF.at 0 rfl
                  have p1 := X6.cell 1 rfl
                  have r1 := X2.cell 1 rfl
                  have z1 := X2.frozen 1
                  have s1 := XF.at 1 rfl
                  have p2 := X6.cell 2 rfl
                  have r2 := X2.cell 2 rfl
                  have z2 := X2.frozen 2
                  have s2 := XF.at 2 rfl
                  have p3 := X6.cell 3 rfl
                  have r3 := X2.cell 3 rfl
                  have z3 := X2.frozen 3
                  have s3 := XF.at 3 rfl
                  have p4 := X6.cell 4 rfl
                  have r4 := X2.cell 4 rfl
                  have z4 := X2.frozen 4
                  have s4 := XF.at 4 rfl
                  have p5 := X6.cell 5 rfl
                  have r5 := X2.cell 5 rfl
                  have z5 := X2.frozen 5
                  have s5 := XF.at 5 rfl
                  have p6 := X6.cell 6 rfl
                  have r6 := X2.cell 6 rfl
                  have z6 := X2.frozen 6
                  have s6 := XF.at 6 rfl
                  have p7 := X6.cell 7 rfl
                  have r7 := X2.cell 7 rfl
                  have z7 := X2.frozen 7
                  have s7 := XF.at 7 rfl
                  have p8 := X6.cell 8 rfl
                  have r8 := X2.cell 8 rfl
                  have z8 := X2.frozen 8
                  have s8 := XF.at 8 rfl
                  have HSx := hideIt (And.intro s0 (And.intro s1 (And.intro s2 (And.intro s3 (And.intro s4 (And.intro s5 (And.intro s6 (And.intro s7 s8))))))))
                  clear XF X2 X6 B6 B5 X5 b5 HB3 s0 s1 s2 s3 s4 s5 s6 s7 s8
                  go_upto_region 14 with fail
                  go_upto_region 19 with fail
                  rw [← hW6]
                  clear hW6 c1 f1 m50 cK5
                  go_wp2
                  obtain ⟨s0, s1, s2, s3, s4, s5, s6, s7, s8⟩ := HSx.out
                  exact bodyPost_ret (v := .tuple #[.agg #[.int .i64 kq, .int .i64 (x0 : Int), .int .i64 0, .int .i64 0, .int .i64 0, .int .i64 0, .int .i64 0, .bool false, .slice none 0 0], .bool true]) (by simp [results, Tryd.results23, go_sem, s0, s1, s2, s3, s4, s5, s6, s7, s8]) rfl ⟨HFn.out, .inr ⟨_, HE.out, rfl⟩⟩
            · have dn : ((n3 : Int) != 1) = true := by simp; omega
              have hev0 : evI k ns = none := evI_none (by unfold cntW; rw [if_neg h4, hl3]; exact h3)
              have HE : Hid (evO (y :: r) = none) := by show _ = _; simp only [evO, HI.out, hn, hev0]
              have X2 := H0.out.up HB3.out
              have XF := BxA.setA (l := [.int .i64 0, .int .i64 0, .int .i64 0, .int .i64 0, .int .i64 0, .int .i64 0, .int .i64 0, .bool false, .slice none 0 0]) X2 0 [.int .i64 0, .int .i64 0, .int .i64 0, .int .i64 0, .int .i64 0, .int .i64 0, .int .i64 0, .bool false, .slice none 0 0]
              rw [setV_all [.int .i64 0, .int .i64 0, .int .i64 0, .int .i64 0, .int .i64 0, .int .i64 0, .int .i64 0, .bool false, .slice none 0 0] [.int .i64 0, .int .i64 0, .int .i64 0, .int .i64 0, .int .i64 0, .int .i64 0, .int .i64 0, .bool false, .slice none 0 0] rfl] at XF
              have HFn := hideIt (below_setA (bupN HB.out HB3.out) (Nat.le_refl _) 0 [.int .i64 0, .int .i64 0, .int .i64 0, .int .i64 0, .int .i64 0, .int .i64 0, .int .i64 0, .bool false, .slice none 0 0])
              dsimp only [setA] at XF HFn
              have r0 := X2.cell 0 rfl
              have z0 := X2.frozen 0
              have s0 := XF.at 0 rfl
              have r1 := X2.cell 1 rfl
              have z1 := X2.frozen 1
              have s1 := XF.at 1 rfl
              have r2 := X2.cell 2 rfl
              have z2 := X2.frozen 2
              have s2 := XF.at 2 rfl
              have r3 := X2.cell 3 rfl
              have z3 := X2.frozen 3
              have s3 := XF.at 3 rfl
              have r4 := X2.cell 4 rfl
              have z4 := X2.frozen 4
              have s4 := XF.at 4 rfl
              have r5 := X2.cell 5 rfl
              have z5 := X2.frozen 5
              have s5 := XF.at 5 rfl
              have r6 := X2.cell 6 rfl
              have z6 := X2.frozen 6
              have s6 := XF.at 6 rfl
              have r7 := X2.cell 7 rfl
              have z7 := X2.frozen 7
              have s7 := XF.at 7 rfl
              have r8 := X2.cell 8 rfl
              have z8 := X2.frozen 8
              have s8 := XF.at 8 rfl
              have HSx := hideIt (And.intro s0 (And.intro s1 (And.intro s2 (And.intro s3 (And.intro s4 (And.intro s5 (And.intro s6 (And.intro s7 s8))))))))
              clear XF X2 HB3 o3 s0 s1 s2 s3 s4 s5 s6 s7 s8
              go_wp2
              obtain ⟨s0, s1, s2, s3, s4, s5, s6, s7, s8⟩ := HSx.out
              exact bodyPost_ret (v := .tuple #[.agg #[.int .i64 0, .int .i64 0, .int .i64 0, .int .i64 0, .int .i64 0, .int .i64 0, .int .i64 0, .bool false, .slice none 0 0], .bool false]) (by simp [results, Tryd.results23, go_sem, s0, s1, s2, s3, s4, s5, s6, s7, s8]) rfl ⟨HFn.out, .inl ⟨HE.out, rfl⟩⟩
      · have hqe : ((nmW k).toList == y.toList) = false := by
          have : (nmW k).toList ≠ y.toList := fun e => hq (kB_ext (by rw [Lib.toList_data, Lib.toList_data] at e; exact e.symm))
          simpa using this
        have HN : Hid (∀ j < k + 1, y ≠ nmW j) := fun j hj => by
          by_cases e : j = k
          · rw [e]; exact hq
          · exact hno.out j (by omega)
        have HB2 : Hid (Below W.heap.size W wr.drew) := hbl.out.drew
        generalize nmW k = qk at cW hqe
        clear hno hbl hq
        go_upto_region 6 with fail
        go_region
        go_wp2
        exact ⟨⟨k + 1, by omega, by go_num, HN, HB2⟩, by simp [intOf]; omega⟩
    · obtain rfl : k = 10 := by omega
      have hev : evO (y :: r) = none := by simp only [evO, wIdx_no hno.out]
      have HE := hideIt hev
      have X2 := H0.out.up hbl.out
      have XF := BxA.setA (l := [.int .i64 0, .int .i64 0, .int .i64 0, .int .i64 0, .int .i64 0, .int .i64 0, .int .i64 0, .bool false, .slice none 0 0]) X2 0 [.int .i64 0, .int .i64 0, .int .i64 0, .int .i64 0, .int .i64 0, .int .i64 0, .int .i64 0, .bool false, .slice none 0 0]
      rw [setV_all [.int .i64 0, .int .i64 0, .int .i64 0, .int .i64 0, .int .i64 0, .int .i64 0, .int .i64 0, .bool false, .slice none 0 0] [.int .i64 0, .int .i64 0, .int .i64 0, .int .i64 0, .int .i64 0, .int .i64 0, .int .i64 0, .bool false, .slice none 0 0] rfl] at XF
      have HFn := hideIt (below_setA (bupN HB.out hbl.out) (Nat.le_refl _) 0 [.int .i64 0, .int .i64 0, .int .i64 0, .int .i64 0, .int .i64 0, .int .i64 0, .int .i64 0, .bool false, .slice none 0 0])
      dsimp only [setA] at XF HFn
      have r0 := X2.cell 0 rfl
      have z0 := X2.frozen 0
      have s0 := XF.at 0 rfl
      have r1 := X2.cell 1 rfl
      have z1 := X2.frozen 1
      have s1 := XF.at 1 rfl
      have r2 := X2.cell 2 rfl
      have z2 := X2.frozen 2
      have s2 := XF.at 2 rfl
      have r3 := X2.cell 3 rfl
      have z3 := X2.frozen 3
      have s3 := XF.at 3 rfl
      have r4 := X2.cell 4 rfl
      have z4 := X2.frozen 4
      have s4 := XF.at 4 rfl
      have r5 := X2.cell 5 rfl
      have z5 := X2.frozen 5
      have s5 := XF.at 5 rfl
      have r6 := X2.cell 6 rfl
      have z6 := X2.frozen 6
      have s6 := XF.at 6 rfl
      have r7 := X2.cell 7 rfl
      have z7 := X2.frozen 7
      have s7 := XF.at 7 rfl
      have r8 := X2.cell 8 rfl
      have z8 := X2.frozen 8
      have s8 := XF.at 8 rfl
      have HSx := hideIt (And.intro s0 (And.intro s1 (And.intro s2 (And.intro s3 (And.intro s4 (And.intro s5 (And.intro s6 (And.intro s7 s8))))))))
      clear XF X2 hno hbl hev s0 s1 s2 s3 s4 s5 s6 s7 s8
      go_wp2
      obtain ⟨s0, s1, s2, s3, s4, s5, s6, s7, s8⟩ := HSx.out
      exact bodyPost_ret (v := .tuple #[.agg #[.int .i64 0, .int .i64 0, .int .i64 0, .int .i64 0, .int .i64 0, .int .i64 0, .int .i64 0, .bool false, .slice none 0 0], .bool false]) (by simp [results, Tryd.results23, go_sem, s0, s1, s2, s3, s4, s5, s6, s7, s8]) rfl ⟨HFn.out, .inl ⟨HE.out, rfl⟩⟩
end Go.Proofs.YtgdlpmmbeacejaaDoor
