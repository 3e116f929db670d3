/- The program's events of parts. -/
import Derived.Test.YtgdlpmmbeacejaaDoorKTw18
namespace Go.Proofs.YtgdlpmmbeacejaaDoor
open Go.RowKit C

def cutW : ByteArray := ⟨#[99, 117, 116]⟩
/-- parts as an event, but for cut -/
def evO : List ByteArray → Option EvR
  | [] => none
  | x :: r => match wIdx x with
    | none => none
    | some i => match nmO r with
      | none => none
      | some ns => evI i ns
/-- parts as an event -/
def evCut : List ByteArray → Option (EvR × Bool)
  | [] => none
  | x :: r => if x = cutW then (evO r).map fun v => (v, true) else (evO (x :: r)).map fun v => (v, false)
/-- what eventOf answers -/
def EoOut (ps : List ByteArray) (w : World) (e : Ending) (w' : World) : Prop := Below w.heap.size w w' ∧
  ((evCut ps = none ∧ ∃ cb, e = .returned (.tuple #[.agg #[.int .i64 0, .int .i64 0, .int .i64 0, .int .i64 0, .int .i64 0, .int .i64 0, .int .i64 0, .bool cb, .slice none 0 0], .bool false])) ∨
   ∃ v cb, evCut ps = some (v, cb) ∧ e = .returned (.tuple #[.agg #[.int .i64 v.k, .int .i64 v.nd, .int .i64 v.t, .int .i64 v.i, .int .i64 v.o, .int .i64 v.a, .int .i64 v.b, .bool cb, .slice none 0 0], .bool true]))
theorem slice1 (b off n c m : Nat) (hn : n = m + 1) (hc : n ≤ c) : ∃ a' c', (∀ u, (Instr.sliceAt 28 (.slice (some ⟨b, off, none⟩) n c) (some (.int .i64 1)) none none).run Tryd.prog u = .ok (.slice a' m c') u) ∧ (0 < m → a' = some ⟨b, off + 1, none⟩) ∧ m ≤ c' ∧ c' ≤ c := by
  refine ⟨if c = 1 then some ⟨b, off, none⟩ else some ⟨b, off + 1, none⟩, c - 1, fun u => ?_, fun h => by rw [if_neg (by omega)], by omega, by omega⟩
  subst hn
  have e : Tryd.prog.underlying 28 = some (.slice (Tryd.prog.elem 28)) := by kernel_rfl
  have e9 : Tryd.prog.elem 28 = 9 := by kernel_rfl
  rw [run_sliceAt_slice _ _ _ _ _ _ e, run_slice_l _ _ _ _ _ e _ _ (by omega) (by omega), e9, Tryd.sizeOf9]
  simp only [Result.andThen, sliced, Int.toNat_one, Nat.add_sub_cancel]
  split <;> simp [Addr.add]
/-- what a word answers, in one form -/
theorem wd_any {i : Nat} {ns : List Nat} {w w' : World} {e : Ending} (h : WdOut i ns w e w') : ∃ (k0 k1 k2 k3 k4 k5 k6 : Int) (fl : Bool), e = .returned (.tuple #[.agg #[.int .i64 k0, .int .i64 k1, .int .i64 k2, .int .i64 k3, .int .i64 k4, .int .i64 k5, .int .i64 k6, .bool false, .slice none 0 0], .bool fl]) ∧ Below w.heap.size w w' ∧
    ((fl = false ∧ evI i ns = none ∧ k0 = 0 ∧ k1 = 0 ∧ k2 = 0 ∧ k3 = 0 ∧ k4 = 0 ∧ k5 = 0 ∧ k6 = 0) ∨ (fl = true ∧ evI i ns = some ⟨k0, k1, k2, k3, k4, k5, k6⟩)) := by
  obtain ⟨hb, h⟩ := h
  cases hv : evI i ns with
  | none => rw [hv] at h; exact ⟨0, 0, 0, 0, 0, 0, 0, false, h, hb, .inl ⟨rfl, rfl, rfl, rfl, rfl, rfl, rfl, rfl, rfl⟩⟩
  | some v => rw [hv] at h; exact ⟨v.k, v.nd, v.t, v.i, v.o, v.a, v.b, true, h, hb, .inr ⟨rfl, rfl⟩⟩

set_option maxRecDepth 100000 in
set_option maxHeartbeats 8000000 in
theorem eo_pun (y : ByteArray) (r : List ByteArray) (m : Nat) (hm : r.length = m) (hm9 : m ≤ 100) (hi : wIdx y = none) (hz : ∀ x ∈ r, x.size ≤ 1000) (hys : y.size ≤ 1000) (b off c : Nat) (hcap : (m + 1) ≤ c)
    (w : World) (hb : b < w.heap.size) (hy : y ≠ cutW) (hc1 : w.cell? ⟨b, off, none⟩ = some (.string y)) (hr : ∀ (j : Nat) (x : ByteArray), r[j]? = some x → w.cell? ⟨b, off + 1 + j, none⟩ = some (.string x))
    (bS M : Nat) (D : DataW Unit) (hbS : bS < w.heap.size) (hcS : w.cell? ⟨bS, 0, none⟩ = some (.map (some M))) (hT : TW w M D 10) :
    Calls Tryd.prog 48 #[.pointer (some ⟨bS, 0, none⟩), .slice (some ⟨b, off, none⟩) ((m + 1) : Nat) c] w (EoOut (y :: r) w) := by
  obtain ⟨W, hW⟩ : ∃ W, W = w.alloc (.cells #[.int .i64 0, .int .i64 0, .int .i64 0, .int .i64 0, .int .i64 0, .int .i64 0, .int .i64 0, .bool false, .slice none 0 0] 57) := ⟨_, rfl⟩
  have bW : Below w.heap.size w W := by rw [hW]; exact belA _ _
  have B0 : BxA W w.heap.size 57 #[.int .i64 0, .int .i64 0, .int .i64 0, .int .i64 0, .int .i64 0, .int .i64 0, .int .i64 0, .bool false, .slice none 0 0] := by rw [hW]; exact BxA.new _ _ _
  obtain ⟨a2, c2, hs2, ha2, hl2, hu2⟩ := slice1 b off (m + 1) c m rfl hcap
  have HV : Hid (Sv W a2 r) := by
    by_cases h0 : 0 < m
    · rw [ha2 h0]
      exact .inr ⟨b, _, rfl, Nat.lt_of_lt_of_le hb bW.size, fun j x hx => by rw [bW.cell hb]; exact hr j x hx⟩
    · exact .inl (List.eq_nil_of_length_eq_zero (by omega))
  have HNm : Hid (∀ u, Below W.heap.size W u → Calls Tryd.prog 46 #[.slice a2 m c2] u fun e w' => ∃ a n c fl, e = .returned (.tuple #[.slice a n c, .bool fl]) ∧ Below u.heap.size u w') := fun u hu => by
    refine (iNums_any r m hm (by omega) hz a2 c2 u (HV.out.up hu)).mono fun e w' h => ?_
    rcases h with ⟨h0, a, c, h1, h2⟩ | ⟨ns', h0, a, n, c, h1, h2, h3, h4⟩
    · exact ⟨a, 0, c, false, h1, h2⟩
    · exact ⟨a, n, c, true, h1, h4⟩
  have hlk := hT.look_no hi (by unfold maxLen; omega)
  have hev : evO (y :: r) = none := by simp only [evO, hi]
  have hec : evCut (y :: r) = (evO (y :: r)).map fun v => (v, false) := by simp only [evCut, if_neg hy]
  rw [hev] at hec
  have HE := hideIt hec
  have hlk1 := hlk W bW
  have hlk2 := hlk W.drew bW.drew
  have k1 : W.cell? ⟨b, off, none⟩ = some (.string y) := by rw [bW.cell hb]; exact hc1
  have hqe : (y.toList == [99, 117, 116]) = false := by
    have : y.toList ≠ [99, 117, 116] := fun e => hy (kB_ext (by rw [Lib.toList_data] at e; exact e))
    simpa using this
  have kS : W.cell? ⟨bS, 0, none⟩ = some (.map (some M)) := by rw [bW.cell hbS]; exact hcS
  have lb : b < W.heap.size := Nat.lt_of_lt_of_le hb bW.size
  have lS : bS < W.heap.size := Nat.lt_of_lt_of_le hbS bW.size
  have HB := hideIt bW
  have H0 := hideIt B0
  clear B0 bW hr hc1 hcS hT hz hec hev hlk ha2  HV  hb hbS
  go_enter Tryd.func48, Tryd.ntmps48
  go_upto_region 1 with fail
  rw [← hW]
  clear hW
  go_upto_region 6 with fail
  go_region
  go_upto_region 7 with fail
  go_wp2_with (go_at_call 46; refine (HNm.out _ (Below.refl _ _).drew).mono ?_; rintro e w3 ⟨a3, n3, c3, f3, rfl, b3⟩; refine Hid.out ?_)
  refine hidw ?_
  have B3 : Below W.heap.size W w3 := by simpa using ((Below.refl W.heap.size W).drew).trans b3
  have X2 := H0.out.up B3
  have XF := BxA.setA (l := [.int .i64 0, .int .i64 0, .int .i64 0, .int .i64 0, .int .i64 0, .int .i64 0, .int .i64 0, .bool false, .slice none 0 0]) X2 0 [.int .i64 0, .int .i64 0, .int .i64 0, .int .i64 0, .int .i64 0, .int .i64 0, .int .i64 0, .bool false, .slice none 0 0]
  rw [setV_all [.int .i64 0, .int .i64 0, .int .i64 0, .int .i64 0, .int .i64 0, .int .i64 0, .int .i64 0, .bool false, .slice none 0 0] [.int .i64 0, .int .i64 0, .int .i64 0, .int .i64 0, .int .i64 0, .int .i64 0, .int .i64 0, .bool false, .slice none 0 0] rfl] at XF
  have HFn := hideIt (below_setA (bupN HB.out B3) (Nat.le_refl _) 0 [.int .i64 0, .int .i64 0, .int .i64 0, .int .i64 0, .int .i64 0, .int .i64 0, .int .i64 0, .bool false, .slice none 0 0])
  dsimp only [setA] at XF HFn
  have r0 := X2.cell 0 rfl
  have z0 := X2.frozen 0
  have s0 := XF.at 0 rfl
  have r1 := X2.cell 1 rfl
  have z1 := X2.frozen 1
  have s1 := XF.at 1 rfl
  have r2 := X2.cell 2 rfl
  have z2 := X2.frozen 2
  have s2 := XF.at 2 rfl
  have r3 := X2.cell 3 rfl
  have z3 := X2.frozen 3
  have s3 := XF.at 3 rfl
  have r4 := X2.cell 4 rfl
  have z4 := X2.frozen 4
  have s4 := XF.at 4 rfl
  have r5 := X2.cell 5 rfl
  have z5 := X2.frozen 5
  have s5 := XF.at 5 rfl
  have r6 := X2.cell 6 rfl
  have z6 := X2.frozen 6
  have s6 := XF.at 6 rfl
  have r7 := X2.cell 7 rfl
  have z7 := X2.frozen 7
  have s7 := XF.at 7 rfl
  have r8 := X2.cell 8 rfl
  have z8 := X2.frozen 8
  have s8 := XF.at 8 rfl
  have HSx := hideIt (And.intro s0 (And.intro s1 (And.intro s2 (And.intro s3 (And.intro s4 (And.intro s5 (And.intro s6 (And.intro s7 s8))))))))
  clear XF X2 H0 HB HNm B3 b3 k1  kS hlk1 hlk2 s0 s1 s2 s3 s4 s5 s6 s7 s8
  go_wp2
  obtain ⟨s0, s1, s2, s3, s4, s5, s6, s7, s8⟩ := HSx.out
  exact bodyPost_ret (v := .tuple #[.agg #[.int .i64 0, .int .i64 0, .int .i64 0, .int .i64 0, .int .i64 0, .int .i64 0, .int .i64 0, .bool false, .slice none 0 0], .bool false]) (by simp [results, Tryd.results48, go_sem, s0, s1, s2, s3, s4, s5, s6, s7, s8]) rfl ⟨HFn.out, .inl ⟨by rw [HE.out]; rfl, false, rfl⟩⟩
set_option maxRecDepth 100000 in
set_option maxHeartbeats 8000000 in
theorem eo_pnn (y : ByteArray) (r : List ByteArray) (m : Nat) (hm : r.length = m) (hm9 : m ≤ 100) (i : Nat) (hi : wIdx y = some i) (hn : nmO r = none) (hz : ∀ x ∈ r, x.size ≤ 1000) (hys : y.size ≤ 1000) (b off c : Nat) (hcap : (m + 1) ≤ c)
    (w : World) (hb : b < w.heap.size) (hy : y ≠ cutW) (hc1 : w.cell? ⟨b, off, none⟩ = some (.string y)) (hr : ∀ (j : Nat) (x : ByteArray), r[j]? = some x → w.cell? ⟨b, off + 1 + j, none⟩ = some (.string x))
    (bS M : Nat) (D : DataW Unit) (hbS : bS < w.heap.size) (hcS : w.cell? ⟨bS, 0, none⟩ = some (.map (some M))) (hT : TW w M D 10) :
    Calls Tryd.prog 48 #[.pointer (some ⟨bS, 0, none⟩), .slice (some ⟨b, off, none⟩) ((m + 1) : Nat) c] w (EoOut (y :: r) w) := by
  obtain ⟨W, hW⟩ : ∃ W, W = w.alloc (.cells #[.int .i64 0, .int .i64 0, .int .i64 0, .int .i64 0, .int .i64 0, .int .i64 0, .int .i64 0, .bool false, .slice none 0 0] 57) := ⟨_, rfl⟩
  have bW : Below w.heap.size w W := by rw [hW]; exact belA _ _
  have B0 : BxA W w.heap.size 57 #[.int .i64 0, .int .i64 0, .int .i64 0, .int .i64 0, .int .i64 0, .int .i64 0, .int .i64 0, .bool false, .slice none 0 0] := by rw [hW]; exact BxA.new _ _ _
  obtain ⟨a2, c2, hs2, ha2, hl2, hu2⟩ := slice1 b off (m + 1) c m rfl hcap
  have HV : Hid (Sv W a2 r) := by
    by_cases h0 : 0 < m
    · rw [ha2 h0]
      exact .inr ⟨b, _, rfl, Nat.lt_of_lt_of_le hb bW.size, fun j x hx => by rw [bW.cell hb]; exact hr j x hx⟩
    · exact .inl (List.eq_nil_of_length_eq_zero (by omega))
  have HNm : Hid (∀ u, Below W.heap.size W u → Calls Tryd.prog 46 #[.slice a2 m c2] u fun e w' => ∃ a c, e = .returned (.tuple #[.slice a 0 c, .bool false]) ∧ Below u.heap.size u w') := fun u hu => by
    refine (iNums_any r m hm (by omega) hz a2 c2 u (HV.out.up hu)).mono fun e w' h => ?_
    rcases h with ⟨h0, a, c, h1, h2⟩ | ⟨ns', h0, a, n, c, h1, h2, h3, h4⟩
    · exact ⟨a, c, h1, h2⟩
    · rw [hn] at h0; cases h0
  obtain ⟨q1, q2, hq, hlk⟩ := hT.look_yes hi (by unfold maxLen; omega)
  have HQ := hideIt (hq.up bW)
  have hev : evO (y :: r) = none := by simp only [evO, hi, hn]
  have hec : evCut (y :: r) = (evO (y :: r)).map fun v => (v, false) := by simp only [evCut, if_neg hy]
  rw [hev] at hec
  have HE := hideIt hec
  have hlk1 := hlk W bW
  have hlk2 := hlk W.drew bW.drew
  have k1 : W.cell? ⟨b, off, none⟩ = some (.string y) := by rw [bW.cell hb]; exact hc1
  have hqe : (y.toList == [99, 117, 116]) = false := by
    have : y.toList ≠ [99, 117, 116] := fun e => hy (kB_ext (by rw [Lib.toList_data] at e; exact e))
    simpa using this
  have kS : W.cell? ⟨bS, 0, none⟩ = some (.map (some M)) := by rw [bW.cell hbS]; exact hcS
  have lb : b < W.heap.size := Nat.lt_of_lt_of_le hb bW.size
  have lS : bS < W.heap.size := Nat.lt_of_lt_of_le hbS bW.size
  have HB := hideIt bW
  have H0 := hideIt B0
  clear B0 bW hr hc1 hcS hT hz hec hev hlk ha2  HV hq hb hbS
  go_enter Tryd.func48, Tryd.ntmps48
  go_upto_region 1 with fail
  rw [← hW]
  clear hW
  go_upto_region 6 with fail
  go_region
  go_upto_region 7 with fail
  go_wp2_with (go_at_call 46; refine (HNm.out _ (Below.refl _ _).drew).mono ?_; rintro e w3 ⟨a3, c3, rfl, b3⟩; refine Hid.out ?_)
  refine hidw ?_
  have B3 : Below W.heap.size W w3 := by simpa using ((Below.refl W.heap.size W).drew).trans b3
  have X2 := H0.out.up B3
  have XF := BxA.setA (l := [.int .i64 0, .int .i64 0, .int .i64 0, .int .i64 0, .int .i64 0, .int .i64 0, .int .i64 0, .bool false, .slice none 0 0]) X2 0 [.int .i64 0, .int .i64 0, .int .i64 0, .int .i64 0, .int .i64 0, .int .i64 0, .int .i64 0, .bool false, .slice none 0 0]
  rw [setV_all [.int .i64 0, .int .i64 0, .int .i64 0, .int .i64 0, .int .i64 0, .int .i64 0, .int .i64 0, .bool false, .slice none 0 0] [.int .i64 0, .int .i64 0, .int .i64 0, .int .i64 0, .int .i64 0, .int .i64 0, .int .i64 0, .bool false, .slice none 0 0] rfl] at XF
  have HFn := hideIt (below_setA (bupN HB.out B3) (Nat.le_refl _) 0 [.int .i64 0, .int .i64 0, .int .i64 0, .int .i64 0, .int .i64 0, .int .i64 0, .int .i64 0, .bool false, .slice none 0 0])
  dsimp only [setA] at XF HFn
  have r0 := X2.cell 0 rfl
  have z0 := X2.frozen 0
  have s0 := XF.at 0 rfl
  have r1 := X2.cell 1 rfl
  have z1 := X2.frozen 1
  have s1 := XF.at 1 rfl
  have r2 := X2.cell 2 rfl
  have z2 := X2.frozen 2
  have s2 := XF.at 2 rfl
  have r3 := X2.cell 3 rfl
  have z3 := X2.frozen 3
  have s3 := XF.at 3 rfl
  have r4 := X2.cell 4 rfl
  have z4 := X2.frozen 4
  have s4 := XF.at 4 rfl
  have r5 := X2.cell 5 rfl
  have z5 := X2.frozen 5
  have s5 := XF.at 5 rfl
  have r6 := X2.cell 6 rfl
  have z6 := X2.frozen 6
  have s6 := XF.at 6 rfl
  have r7 := X2.cell 7 rfl
  have z7 := X2.frozen 7
  have s7 := XF.at 7 rfl
  have r8 := X2.cell 8 rfl
  have z8 := X2.frozen 8
  have s8 := XF.at 8 rfl
  have HSx := hideIt (And.intro s0 (And.intro s1 (And.intro s2 (And.intro s3 (And.intro s4 (And.intro s5 (And.intro s6 (And.intro s7 s8))))))))
  clear XF X2 H0 HB HNm B3 b3 k1  kS hlk1 hlk2 s0 s1 s2 s3 s4 s5 s6 s7 s8
  go_wp2
  obtain ⟨s0, s1, s2, s3, s4, s5, s6, s7, s8⟩ := HSx.out
  exact bodyPost_ret (v := .tuple #[.agg #[.int .i64 0, .int .i64 0, .int .i64 0, .int .i64 0, .int .i64 0, .int .i64 0, .int .i64 0, .bool false, .slice none 0 0], .bool false]) (by simp [results, Tryd.results48, go_sem, s0, s1, s2, s3, s4, s5, s6, s7, s8]) rfl ⟨HFn.out, .inl ⟨by rw [HE.out]; rfl, false, rfl⟩⟩
set_option maxRecDepth 100000 in
set_option maxHeartbeats 8000000 in
theorem eo_pok (y : ByteArray) (r : List ByteArray) (m : Nat) (hm : r.length = m) (hm9 : m ≤ 100) (i : Nat) (hi : wIdx y = some i) (ns : List Nat) (hn : nmO r = some ns) (hz : ∀ x ∈ r, x.size ≤ 1000) (hys : y.size ≤ 1000) (b off c : Nat) (hcap : (m + 1) ≤ c)
    (w : World) (hb : b < w.heap.size) (hy : y ≠ cutW) (hc1 : w.cell? ⟨b, off, none⟩ = some (.string y)) (hr : ∀ (j : Nat) (x : ByteArray), r[j]? = some x → w.cell? ⟨b, off + 1 + j, none⟩ = some (.string x))
    (bS M : Nat) (D : DataW Unit) (hbS : bS < w.heap.size) (hcS : w.cell? ⟨bS, 0, none⟩ = some (.map (some M))) (hT : TW w M D 10) :
    Calls Tryd.prog 48 #[.pointer (some ⟨bS, 0, none⟩), .slice (some ⟨b, off, none⟩) ((m + 1) : Nat) c] w (EoOut (y :: r) w) := by
  obtain ⟨W, hW⟩ : ∃ W, W = w.alloc (.cells #[.int .i64 0, .int .i64 0, .int .i64 0, .int .i64 0, .int .i64 0, .int .i64 0, .int .i64 0, .bool false, .slice none 0 0] 57) := ⟨_, rfl⟩
  have bW : Below w.heap.size w W := by rw [hW]; exact belA _ _
  have B0 : BxA W w.heap.size 57 #[.int .i64 0, .int .i64 0, .int .i64 0, .int .i64 0, .int .i64 0, .int .i64 0, .int .i64 0, .bool false, .slice none 0 0] := by rw [hW]; exact BxA.new _ _ _
  obtain ⟨a2, c2, hs2, ha2, hl2, hu2⟩ := slice1 b off (m + 1) c m rfl hcap
  have HV : Hid (Sv W a2 r) := by
    by_cases h0 : 0 < m
    · rw [ha2 h0]
      exact .inr ⟨b, _, rfl, Nat.lt_of_lt_of_le hb bW.size, fun j x hx => by rw [bW.cell hb]; exact hr j x hx⟩
    · exact .inl (List.eq_nil_of_length_eq_zero (by omega))
  have HNm : Hid (∀ u, Below W.heap.size W u → Calls Tryd.prog 46 #[.slice a2 m c2] u fun e w' => ∃ a n c, e = .returned (.tuple #[.slice a n c, .bool true]) ∧ ns.length = n ∧ w'.ownsRow u.heap.size 3 1 (.slice a n c) n (nv ns) ∧ Below u.heap.size u w') := fun u hu => by
    refine (iNums_any r m hm (by omega) hz a2 c2 u (HV.out.up hu)).mono fun e w' h => ?_
    rcases h with ⟨h0, a, c, h1, h2⟩ | ⟨ns', h0, a, n, c, h1, h2, h3, h4⟩
    · rw [hn] at h0; cases h0
    · rw [hn] at h0; cases h0; exact ⟨a, n, c, h1, h2, h3, h4⟩
  obtain ⟨q1, q2, hq, hlk⟩ := hT.look_yes hi (by unfold maxLen; omega)
  have HQ := hideIt (hq.up bW)
  have hev : evO (y :: r) = evI i ns := by simp only [evO, hi, hn]
  have hec : evCut (y :: r) = (evO (y :: r)).map fun v => (v, false) := by simp only [evCut, if_neg hy]
  rw [hev] at hec
  have HE := hideIt hec
  have hlk1 := hlk W bW
  have hlk2 := hlk W.drew bW.drew
  have k1 : W.cell? ⟨b, off, none⟩ = some (.string y) := by rw [bW.cell hb]; exact hc1
  have hqe : (y.toList == [99, 117, 116]) = false := by
    have : y.toList ≠ [99, 117, 116] := fun e => hy (kB_ext (by rw [Lib.toList_data] at e; exact e))
    simpa using this
  have kS : W.cell? ⟨bS, 0, none⟩ = some (.map (some M)) := by rw [bW.cell hbS]; exact hcS
  have lb : b < W.heap.size := Nat.lt_of_lt_of_le hb bW.size
  have lS : bS < W.heap.size := Nat.lt_of_lt_of_le hbS bW.size
  have HB := hideIt bW
  have H0 := hideIt B0
  clear B0 bW hr hc1 hcS hT hz hec hev hlk ha2  HV hq hb hbS
  go_enter Tryd.func48, Tryd.ntmps48
  go_upto_region 1 with fail
  rw [← hW]
  clear hW
  go_upto_region 6 with fail
  go_region
  go_upto_region 7 with fail
  go_wp2_with (go_at_call 46; refine (HNm.out _ (Below.refl _ _).drew).mono ?_; rintro e w3 ⟨a3, n3, c3, rfl, hl3, o3, b3⟩; refine Hid.out ?_)
  refine hidw ?_
  have B3 : Below W.heap.size W w3 := by simpa using ((Below.refl W.heap.size W).drew).trans b3
  have HWd := hideIt (wordIt_any i ns n3 hl3 a3 c3 q1 q2 w3 (HQ.out.up B3) (Vi.of_own o3))
  have HB3 := hideIt B3
  clear B3 b3 o3 HNm k1  kS hlk1 hlk2 HQ
  go_upto_region 10 with fail
  go_wp2_with (go_at_call 51; refine HWd.out.mono ?_; rintro e w4 hw4; obtain ⟨k0_, k1_, k2_, k3_, k4_, k5_, k6_, fl, rfl, b4, hfl⟩ := wd_any hw4; refine Hid.out ?_)
  refine hidw ?_
  obtain ⟨W5, hW5⟩ : ∃ W5, W5 = w4.alloc (.cells #[.int .i64 k0_, .int .i64 k1_, .int .i64 k2_, .int .i64 k3_, .int .i64 k4_, .int .i64 k5_, .int .i64 k6_, .bool false, .slice none 0 0] 57) := ⟨_, rfl⟩
  obtain ⟨bE, hbE⟩ : ∃ bE, bE = w4.heap.size := ⟨_, rfl⟩
  have B5 : Below W.heap.size W W5 := by rw [hW5]; exact (HB3.out.trans (b4.mono HB3.out.size)).alloc (Nat.le_trans HB3.out.size b4.size) _
  have X5 : BxA W5 bE 57 #[.int .i64 k0_, .int .i64 k1_, .int .i64 k2_, .int .i64 k3_, .int .i64 k4_, .int .i64 k5_, .int .i64 k6_, .bool false, .slice none 0 0] := by rw [hW5, hbE]; exact BxA.new _ _ _
  have lE : W.heap.size ≤ bE := by rw [hbE]; exact Nat.le_trans HB3.out.size b4.size
  have HFl := hideIt hfl
  have HX5 := hideIt X5
  have HB5 := hideIt B5
  have HlE := hideIt lE
  clear hfl b4 hw4 HWd HB3 X5 B5 lE
  go_upto_region 11 with fail
  rw [← hW5, ← hbE]
  clear hW5 hbE
  have c7 := HX5.out.cell 7 rfl
  have f7 := HX5.out.frozen 7
  obtain ⟨W6, hW6⟩ : ∃ W6, W6 = W5.setCell ⟨bE, 7, none⟩ (.bool false) := ⟨_, rfl⟩
  have X6 : BxA W6 bE 57 #[.int .i64 k0_, .int .i64 k1_, .int .i64 k2_, .int .i64 k3_, .int .i64 k4_, .int .i64 k5_, .int .i64 k6_, .bool false, .slice none 0 0] := by rw [hW6]; exact HX5.out.set 7 _
  have B6 : Below W.heap.size W W6 := by rw [hW6]; exact Below.setCell HB5.out (p := ⟨bE, 7, none⟩) HlE.out _
  have X2 := H0.out.up B6
  have XF := BxA.setA (l := [.int .i64 0, .int .i64 0, .int .i64 0, .int .i64 0, .int .i64 0, .int .i64 0, .int .i64 0, .bool false, .slice none 0 0]) X2 0 [.int .i64 k0_, .int .i64 k1_, .int .i64 k2_, .int .i64 k3_, .int .i64 k4_, .int .i64 k5_, .int .i64 k6_, .bool false, .slice none 0 0]
  rw [setV_all [.int .i64 0, .int .i64 0, .int .i64 0, .int .i64 0, .int .i64 0, .int .i64 0, .int .i64 0, .bool false, .slice none 0 0] [.int .i64 k0_, .int .i64 k1_, .int .i64 k2_, .int .i64 k3_, .int .i64 k4_, .int .i64 k5_, .int .i64 k6_, .bool false, .slice none 0 0] rfl] at XF
  have HFn := hideIt (below_setA (bupN HB.out B6) (Nat.le_refl _) 0 [.int .i64 k0_, .int .i64 k1_, .int .i64 k2_, .int .i64 k3_, .int .i64 k4_, .int .i64 k5_, .int .i64 k6_, .bool false, .slice none 0 0])
  dsimp only [setA] at XF HFn
  have p0 := X6.cell 0 rfl
  have r0 := X2.cell 0 rfl
  have z0 := X2.frozen 0
  have s0 := XF.at 0 rfl
  have p1 := X6.cell 1 rfl
  have r1 := X2.cell 1 rfl
  have z1 := X2.frozen 1
  have s1 := XF.at 1 rfl
  have p2 := X6.cell 2 rfl
  have r2 := X2.cell 2 rfl
  have z2 := X2.frozen 2
  have s2 := XF.at 2 rfl
  have p3 := X6.cell 3 rfl
  have r3 := X2.cell 3 rfl
  have z3 := X2.frozen 3
  have s3 := XF.at 3 rfl
  have p4 := X6.cell 4 rfl
  have r4 := X2.cell 4 rfl
  have z4 := X2.frozen 4
  have s4 := XF.at 4 rfl
  have p5 := X6.cell 5 rfl
  have r5 := X2.cell 5 rfl
  have z5 := X2.frozen 5
  have s5 := XF.at 5 rfl
  have p6 := X6.cell 6 rfl
  have r6 := X2.cell 6 rfl
  have z6 := X2.frozen 6
  have s6 := XF.at 6 rfl
  have p7 := X6.cell 7 rfl
  have r7 := X2.cell 7 rfl
  have z7 := X2.frozen 7
  have s7 := XF.at 7 rfl
  have p8 := X6.cell 8 rfl
  have r8 := X2.cell 8 rfl
  have z8 := X2.frozen 8
  have s8 := XF.at 8 rfl
  have HSx := hideIt (And.intro s0 (And.intro s1 (And.intro s2 (And.intro s3 (And.intro s4 (And.intro s5 (And.intro s6 (And.intro s7 s8))))))))
  clear XF X2 X6 B6 H0 HB HX5 HB5 HlE s0 s1 s2 s3 s4 s5 s6 s7 s8
  go_upto_region 12 with fail
  rw [← hW6]
  clear hW6 c7 f7
  go_wp2
  obtain ⟨s0, s1, s2, s3, s4, s5, s6, s7, s8⟩ := HSx.out
  refine bodyPost_ret (v := .tuple #[.agg #[.int .i64 k0_, .int .i64 k1_, .int .i64 k2_, .int .i64 k3_, .int .i64 k4_, .int .i64 k5_, .int .i64 k6_, .bool false, .slice none 0 0], .bool fl]) (by simp [results, Tryd.results48, go_sem, s0, s1, s2, s3, s4, s5, s6, s7, s8]) rfl ⟨HFn.out, ?_⟩
  rcases HFl.out with ⟨rfl, h1, rfl, rfl, rfl, rfl, rfl, rfl, rfl⟩ | ⟨rfl, h1⟩
  · exact .inl ⟨by rw [HE.out, h1]; rfl, false, rfl⟩
  · exact .inr ⟨⟨k0_, k1_, k2_, k3_, k4_, k5_, k6_⟩, false, by rw [HE.out, h1]; rfl, rfl⟩
set_option maxRecDepth 100000 in
set_option maxHeartbeats 8000000 in
theorem eo_cun (y : ByteArray) (r : List ByteArray) (m : Nat) (hm : r.length = m) (hm9 : m ≤ 100) (hi : wIdx y = none) (hz : ∀ x ∈ r, x.size ≤ 1000) (hys : y.size ≤ 1000) (b off c : Nat) (hcap : (m + 1 + 1) ≤ c)
    (w : World) (hb : b < w.heap.size) (hc0 : w.cell? ⟨b, off, none⟩ = some (.string cutW)) (hc1 : w.cell? ⟨b, off + 1, none⟩ = some (.string y)) (hr : ∀ (j : Nat) (x : ByteArray), r[j]? = some x → w.cell? ⟨b, off + 1 + 1 + j, none⟩ = some (.string x))
    (bS M : Nat) (D : DataW Unit) (hbS : bS < w.heap.size) (hcS : w.cell? ⟨bS, 0, none⟩ = some (.map (some M))) (hT : TW w M D 10) :
    Calls Tryd.prog 48 #[.pointer (some ⟨bS, 0, none⟩), .slice (some ⟨b, off, none⟩) ((m + 1 + 1) : Nat) c] w (EoOut (cutW :: y :: r) w) := by
  obtain ⟨W, hW⟩ : ∃ W, W = w.alloc (.cells #[.int .i64 0, .int .i64 0, .int .i64 0, .int .i64 0, .int .i64 0, .int .i64 0, .int .i64 0, .bool false, .slice none 0 0] 57) := ⟨_, rfl⟩
  have bW : Below w.heap.size w W := by rw [hW]; exact belA _ _
  have B0 : BxA W w.heap.size 57 #[.int .i64 0, .int .i64 0, .int .i64 0, .int .i64 0, .int .i64 0, .int .i64 0, .int .i64 0, .bool false, .slice none 0 0] := by rw [hW]; exact BxA.new _ _ _
  obtain ⟨a1, c1, hs1, ha1, hl1, hu1⟩ := slice1 b off (m + 1 + 1) c (m + 1) rfl hcap
  obtain rfl := ha1 (by omega)
  obtain ⟨a2, c2, hs2, ha2, hl2, hu2⟩ := slice1 b (off + 1) (m + 1) c1 m rfl hl1
  have HV : Hid (Sv W a2 r) := by
    by_cases h0 : 0 < m
    · rw [ha2 h0]
      exact .inr ⟨b, _, rfl, Nat.lt_of_lt_of_le hb bW.size, fun j x hx => by rw [bW.cell hb]; exact hr j x hx⟩
    · exact .inl (List.eq_nil_of_length_eq_zero (by omega))
  have HNm : Hid (∀ u, Below W.heap.size W u → Calls Tryd.prog 46 #[.slice a2 m c2] u fun e w' => ∃ a n c fl, e = .returned (.tuple #[.slice a n c, .bool fl]) ∧ Below u.heap.size u w') := fun u hu => by
    refine (iNums_any r m hm (by omega) hz a2 c2 u (HV.out.up hu)).mono fun e w' h => ?_
    rcases h with ⟨h0, a, c, h1, h2⟩ | ⟨ns', h0, a, n, c, h1, h2, h3, h4⟩
    · exact ⟨a, 0, c, false, h1, h2⟩
    · exact ⟨a, n, c, true, h1, h4⟩
  have hlk := hT.look_no hi (by unfold maxLen; omega)
  have hev : evO (y :: r) = none := by simp only [evO, hi]
  have hec : evCut (cutW :: y :: r) = (evO (y :: r)).map fun v => (v, true) := by simp only [evCut, if_true]
  rw [hev] at hec
  have HE := hideIt hec
  have hlk1 := hlk W bW
  have hlk2 := hlk W.drew bW.drew
  have k0 : W.cell? ⟨b, off, none⟩ = some (.string ⟨#[99, 117, 116]⟩) := by rw [bW.cell hb]; exact hc0
  have k1 : W.cell? ⟨b, off + 1, none⟩ = some (.string y) := by rw [bW.cell hb]; exact hc1
  have kS : W.cell? ⟨bS, 0, none⟩ = some (.map (some M)) := by rw [bW.cell hbS]; exact hcS
  have lb : b < W.heap.size := Nat.lt_of_lt_of_le hb bW.size
  have lS : bS < W.heap.size := Nat.lt_of_lt_of_le hbS bW.size
  have HB := hideIt bW
  have H0 := hideIt B0
  clear B0 bW hr hc1 hcS hT hz hec hev hlk ha2 hc0 ha1 HV  hb hbS
  go_enter Tryd.func48, Tryd.ntmps48
  go_upto_region 1 with fail
  rw [← hW]
  clear hW
  go_upto_region 6 with fail
  go_region
  go_upto_region 7 with fail
  go_wp2_with (go_at_call 46; refine (HNm.out _ (Below.refl _ _).drew).mono ?_; rintro e w3 ⟨a3, n3, c3, f3, rfl, b3⟩; refine Hid.out ?_)
  refine hidw ?_
  have B3 : Below W.heap.size W w3 := by simpa using ((Below.refl W.heap.size W).drew).trans b3
  have X2 := H0.out.up B3
  have XF := BxA.setA (l := [.int .i64 0, .int .i64 0, .int .i64 0, .int .i64 0, .int .i64 0, .int .i64 0, .int .i64 0, .bool false, .slice none 0 0]) X2 0 [.int .i64 0, .int .i64 0, .int .i64 0, .int .i64 0, .int .i64 0, .int .i64 0, .int .i64 0, .bool false, .slice none 0 0]
  rw [setV_all [.int .i64 0, .int .i64 0, .int .i64 0, .int .i64 0, .int .i64 0, .int .i64 0, .int .i64 0, .bool false, .slice none 0 0] [.int .i64 0, .int .i64 0, .int .i64 0, .int .i64 0, .int .i64 0, .int .i64 0, .int .i64 0, .bool false, .slice none 0 0] rfl] at XF
  have HFn := hideIt (below_setA (bupN HB.out B3) (Nat.le_refl _) 0 [.int .i64 0, .int .i64 0, .int .i64 0, .int .i64 0, .int .i64 0, .int .i64 0, .int .i64 0, .bool false, .slice none 0 0])
  dsimp only [setA] at XF HFn
  have r0 := X2.cell 0 rfl
  have z0 := X2.frozen 0
  have s0 := XF.at 0 rfl
  have r1 := X2.cell 1 rfl
  have z1 := X2.frozen 1
  have s1 := XF.at 1 rfl
  have r2 := X2.cell 2 rfl
  have z2 := X2.frozen 2
  have s2 := XF.at 2 rfl
  have r3 := X2.cell 3 rfl
  have z3 := X2.frozen 3
  have s3 := XF.at 3 rfl
  have r4 := X2.cell 4 rfl
  have z4 := X2.frozen 4
  have s4 := XF.at 4 rfl
  have r5 := X2.cell 5 rfl
  have z5 := X2.frozen 5
  have s5 := XF.at 5 rfl
  have r6 := X2.cell 6 rfl
  have z6 := X2.frozen 6
  have s6 := XF.at 6 rfl
  have r7 := X2.cell 7 rfl
  have z7 := X2.frozen 7
  have s7 := XF.at 7 rfl
  have r8 := X2.cell 8 rfl
  have z8 := X2.frozen 8
  have s8 := XF.at 8 rfl
  have HSx := hideIt (And.intro s0 (And.intro s1 (And.intro s2 (And.intro s3 (And.intro s4 (And.intro s5 (And.intro s6 (And.intro s7 s8))))))))
  clear XF X2 H0 HB HNm B3 b3 k1 k0 kS hlk1 hlk2 s0 s1 s2 s3 s4 s5 s6 s7 s8
  go_wp2
  obtain ⟨s0, s1, s2, s3, s4, s5, s6, s7, s8⟩ := HSx.out
  exact bodyPost_ret (v := .tuple #[.agg #[.int .i64 0, .int .i64 0, .int .i64 0, .int .i64 0, .int .i64 0, .int .i64 0, .int .i64 0, .bool false, .slice none 0 0], .bool false]) (by simp [results, Tryd.results48, go_sem, s0, s1, s2, s3, s4, s5, s6, s7, s8]) rfl ⟨HFn.out, .inl ⟨by rw [HE.out]; rfl, false, rfl⟩⟩
set_option maxRecDepth 100000 in
set_option maxHeartbeats 8000000 in
theorem eo_cnn (y : ByteArray) (r : List ByteArray) (m : Nat) (hm : r.length = m) (hm9 : m ≤ 100) (i : Nat) (hi : wIdx y = some i) (hn : nmO r = none) (hz : ∀ x ∈ r, x.size ≤ 1000) (hys : y.size ≤ 1000) (b off c : Nat) (hcap : (m + 1 + 1) ≤ c)
    (w : World) (hb : b < w.heap.size) (hc0 : w.cell? ⟨b, off, none⟩ = some (.string cutW)) (hc1 : w.cell? ⟨b, off + 1, none⟩ = some (.string y)) (hr : ∀ (j : Nat) (x : ByteArray), r[j]? = some x → w.cell? ⟨b, off + 1 + 1 + j, none⟩ = some (.string x))
    (bS M : Nat) (D : DataW Unit) (hbS : bS < w.heap.size) (hcS : w.cell? ⟨bS, 0, none⟩ = some (.map (some M))) (hT : TW w M D 10) :
    Calls Tryd.prog 48 #[.pointer (some ⟨bS, 0, none⟩), .slice (some ⟨b, off, none⟩) ((m + 1 + 1) : Nat) c] w (EoOut (cutW :: y :: r) w) := by
  obtain ⟨W, hW⟩ : ∃ W, W = w.alloc (.cells #[.int .i64 0, .int .i64 0, .int .i64 0, .int .i64 0, .int .i64 0, .int .i64 0, .int .i64 0, .bool false, .slice none 0 0] 57) := ⟨_, rfl⟩
  have bW : Below w.heap.size w W := by rw [hW]; exact belA _ _
  have B0 : BxA W w.heap.size 57 #[.int .i64 0, .int .i64 0, .int .i64 0, .int .i64 0, .int .i64 0, .int .i64 0, .int .i64 0, .bool false, .slice none 0 0] := by rw [hW]; exact BxA.new _ _ _
  obtain ⟨a1, c1, hs1, ha1, hl1, hu1⟩ := slice1 b off (m + 1 + 1) c (m + 1) rfl hcap
  obtain rfl := ha1 (by omega)
  obtain ⟨a2, c2, hs2, ha2, hl2, hu2⟩ := slice1 b (off + 1) (m + 1) c1 m rfl hl1
  have HV : Hid (Sv W a2 r) := by
    by_cases h0 : 0 < m
    · rw [ha2 h0]
      exact .inr ⟨b, _, rfl, Nat.lt_of_lt_of_le hb bW.size, fun j x hx => by rw [bW.cell hb]; exact hr j x hx⟩
    · exact .inl (List.eq_nil_of_length_eq_zero (by omega))
  have HNm : Hid (∀ u, Below W.heap.size W u → Calls Tryd.prog 46 #[.slice a2 m c2] u fun e w' => ∃ a c, e = .returned (.tuple #[.slice a 0 c, .bool false]) ∧ Below u.heap.size u w') := fun u hu => by
    refine (iNums_any r m hm (by omega) hz a2 c2 u (HV.out.up hu)).mono fun e w' h => ?_
    rcases h with ⟨h0, a, c, h1, h2⟩ | ⟨ns', h0, a, n, c, h1, h2, h3, h4⟩
    · exact ⟨a, c, h1, h2⟩
    · rw [hn] at h0; cases h0
  obtain ⟨q1, q2, hq, hlk⟩ := hT.look_yes hi (by unfold maxLen; omega)
  have HQ := hideIt (hq.up bW)
  have hev : evO (y :: r) = none := by simp only [evO, hi, hn]
  have hec : evCut (cutW :: y :: r) = (evO (y :: r)).map fun v => (v, true) := by simp only [evCut, if_true]
  rw [hev] at hec
  have HE := hideIt hec
  have hlk1 := hlk W bW
  have hlk2 := hlk W.drew bW.drew
  have k0 : W.cell? ⟨b, off, none⟩ = some (.string ⟨#[99, 117, 116]⟩) := by rw [bW.cell hb]; exact hc0
  have k1 : W.cell? ⟨b, off + 1, none⟩ = some (.string y) := by rw [bW.cell hb]; exact hc1
  have kS : W.cell? ⟨bS, 0, none⟩ = some (.map (some M)) := by rw [bW.cell hbS]; exact hcS
  have lb : b < W.heap.size := Nat.lt_of_lt_of_le hb bW.size
  have lS : bS < W.heap.size := Nat.lt_of_lt_of_le hbS bW.size
  have HB := hideIt bW
  have H0 := hideIt B0
  clear B0 bW hr hc1 hcS hT hz hec hev hlk ha2 hc0 ha1 HV hq hb hbS
  go_enter Tryd.func48, Tryd.ntmps48
  go_upto_region 1 with fail
  rw [← hW]
  clear hW
  go_upto_region 6 with fail
  go_region
  go_upto_region 7 with fail
  go_wp2_with (go_at_call 46; refine (HNm.out _ (Below.refl _ _).drew).mono ?_; rintro e w3 ⟨a3, c3, rfl, b3⟩; refine Hid.out ?_)
  refine hidw ?_
  have B3 : Below W.heap.size W w3 := by simpa using ((Below.refl W.heap.size W).drew).trans b3
  have X2 := H0.out.up B3
  have XF := BxA.setA (l := [.int .i64 0, .int .i64 0, .int .i64 0, .int .i64 0, .int .i64 0, .int .i64 0, .int .i64 0, .bool false, .slice none 0 0]) X2 0 [.int .i64 0, .int .i64 0, .int .i64 0, .int .i64 0, .int .i64 0, .int .i64 0, .int .i64 0, .bool false, .slice none 0 0]
  rw [setV_all [.int .i64 0, .int .i64 0, .int .i64 0, .int .i64 0, .int .i64 0, .int .i64 0, .int .i64 0, .bool false, .slice none 0 0] [.int .i64 0, .int .i64 0, .int .i64 0, .int .i64 0, .int .i64 0, .int .i64 0, .int .i64 0, .bool false, .slice none 0 0] rfl] at XF
  have HFn := hideIt (below_setA (bupN HB.out B3) (Nat.le_refl _) 0 [.int .i64 0, .int .i64 0, .int .i64 0, .int .i64 0, .int .i64 0, .int .i64 0, .int .i64 0, .bool false, .slice none 0 0])
  dsimp only [setA] at XF HFn
  have r0 := X2.cell 0 rfl
  have z0 := X2.frozen 0
  have s0 := XF.at 0 rfl
  have r1 := X2.cell 1 rfl
  have z1 := X2.frozen 1
  have s1 := XF.at 1 rfl
  have r2 := X2.cell 2 rfl
  have z2 := X2.frozen 2
  have s2 := XF.at 2 rfl
  have r3 := X2.cell 3 rfl
  have z3 := X2.frozen 3
  have s3 := XF.at 3 rfl
  have r4 := X2.cell 4 rfl
  have z4 := X2.frozen 4
  have s4 := XF.at 4 rfl
  have r5 := X2.cell 5 rfl
  have z5 := X2.frozen 5
  have s5 := XF.at 5 rfl
  have r6 := X2.cell 6 rfl
  have z6 := X2.frozen 6
  have s6 := XF.at 6 rfl
  have r7 := X2.cell 7 rfl
  have z7 := X2.frozen 7
  have s7 := XF.at 7 rfl
  have r8 := X2.cell 8 rfl
  have z8 := X2.frozen 8
  have s8 := XF.at 8 rfl
  have HSx := hideIt (And.intro s0 (And.intro s1 (And.intro s2 (And.intro s3 (And.intro s4 (And.intro s5 (And.intro s6 (And.intro s7 s8))))))))
  clear XF X2 H0 HB HNm B3 b3 k1 k0 kS hlk1 hlk2 s0 s1 s2 s3 s4 s5 s6 s7 s8
  go_wp2
  obtain ⟨s0, s1, s2, s3, s4, s5, s6, s7, s8⟩ := HSx.out
  exact bodyPost_ret (v := .tuple #[.agg #[.int .i64 0, .int .i64 0, .int .i64 0, .int .i64 0, .int .i64 0, .int .i64 0, .int .i64 0, .bool false, .slice none 0 0], .bool false]) (by simp [results, Tryd.results48, go_sem, s0, s1, s2, s3, s4, s5, s6, s7, s8]) rfl ⟨HFn.out, .inl ⟨by rw [HE.out]; rfl, false, rfl⟩⟩
set_option maxRecDepth 100000 in
set_option maxHeartbeats 8000000 in
theorem eo_cok (y : ByteArray) (r : List ByteArray) (m : Nat) (hm : r.length = m) (hm9 : m ≤ 100) (i : Nat) (hi : wIdx y = some i) (ns : List Nat) (hn : nmO r = some ns) (hz : ∀ x ∈ r, x.size ≤ 1000) (hys : y.size ≤ 1000) (b off c : Nat) (hcap : (m + 1 + 1) ≤ c)
    (w : World) (hb : b < w.heap.size) (hc0 : w.cell? ⟨b, off, none⟩ = some (.string cutW)) (hc1 : w.cell? ⟨b, off + 1, none⟩ = some (.string y)) (hr : ∀ (j : Nat) (x : ByteArray), r[j]? = some x → w.cell? ⟨b, off + 1 + 1 + j, none⟩ = some (.string x))
    (bS M : Nat) (D : DataW Unit) (hbS : bS < w.heap.size) (hcS : w.cell? ⟨bS, 0, none⟩ = some (.map (some M))) (hT : TW w M D 10) :
    Calls Tryd.prog 48 #[.pointer (some ⟨bS, 0, none⟩), .slice (some ⟨b, off, none⟩) ((m + 1 + 1) : Nat) c] w (EoOut (cutW :: y :: r) w) := by
  obtain ⟨W, hW⟩ : ∃ W, W = w.alloc (.cells #[.int .i64 0, .int .i64 0, .int .i64 0, .int .i64 0, .int .i64 0, .int .i64 0, .int .i64 0, .bool false, .slice none 0 0] 57) := ⟨_, rfl⟩
  have bW : Below w.heap.size w W := by rw [hW]; exact belA _ _
  have B0 : BxA W w.heap.size 57 #[.int .i64 0, .int .i64 0, .int .i64 0, .int .i64 0, .int .i64 0, .int .i64 0, .int .i64 0, .bool false, .slice none 0 0] := by rw [hW]; exact BxA.new _ _ _
  obtain ⟨a1, c1, hs1, ha1, hl1, hu1⟩ := slice1 b off (m + 1 + 1) c (m + 1) rfl hcap
  obtain rfl := ha1 (by omega)
  obtain ⟨a2, c2, hs2, ha2, hl2, hu2⟩ := slice1 b (off + 1) (m + 1) c1 m rfl hl1
  have HV : Hid (Sv W a2 r) := by
    by_cases h0 : 0 < m
    · rw [ha2 h0]
      exact .inr ⟨b, _, rfl, Nat.lt_of_lt_of_le hb bW.size, fun j x hx => by rw [bW.cell hb]; exact hr j x hx⟩
    · exact .inl (List.eq_nil_of_length_eq_zero (by omega))
  have HNm : Hid (∀ u, Below W.heap.size W u → Calls Tryd.prog 46 #[.slice a2 m c2] u fun e w' => ∃ a n c, e = .returned (.tuple #[.slice a n c, .bool true]) ∧ ns.length = n ∧ w'.ownsRow u.heap.size 3 1 (.slice a n c) n (nv ns) ∧ Below u.heap.size u w') := fun u hu => by
    refine (iNums_any r m hm (by omega) hz a2 c2 u (HV.out.up hu)).mono fun e w' h => ?_
    rcases h with ⟨h0, a, c, h1, h2⟩ | ⟨ns', h0, a, n, c, h1, h2, h3, h4⟩
    · rw [hn] at h0; cases h0
    · rw [hn] at h0; cases h0; exact ⟨a, n, c, h1, h2, h3, h4⟩
  obtain ⟨q1, q2, hq, hlk⟩ := hT.look_yes hi (by unfold maxLen; omega)
  have HQ := hideIt (hq.up bW)
  have hev : evO (y :: r) = evI i ns := by simp only [evO, hi, hn]
  have hec : evCut (cutW :: y :: r) = (evO (y :: r)).map fun v => (v, true) := by simp only [evCut, if_true]
  rw [hev] at hec
  have HE := hideIt hec
  have hlk1 := hlk W bW
  have hlk2 := hlk W.drew bW.drew
  have k0 : W.cell? ⟨b, off, none⟩ = some (.string ⟨#[99, 117, 116]⟩) := by rw [bW.cell hb]; exact hc0
  have k1 : W.cell? ⟨b, off + 1, none⟩ = some (.string y) := by rw [bW.cell hb]; exact hc1
  have kS : W.cell? ⟨bS, 0, none⟩ = some (.map (some M)) := by rw [bW.cell hbS]; exact hcS
  have lb : b < W.heap.size := Nat.lt_of_lt_of_le hb bW.size
  have lS : bS < W.heap.size := Nat.lt_of_lt_of_le hbS bW.size
  have HB := hideIt bW
  have H0 := hideIt B0
  clear B0 bW hr hc1 hcS hT hz hec hev hlk ha2 hc0 ha1 HV hq hb hbS
  go_enter Tryd.func48, Tryd.ntmps48
  go_upto_region 1 with fail
  rw [← hW]
  clear hW
  go_upto_region 6 with fail
  go_region
  go_upto_region 7 with fail
  go_wp2_with (go_at_call 46; refine (HNm.out _ (Below.refl _ _).drew).mono ?_; rintro e w3 ⟨a3, n3, c3, rfl, hl3, o3, b3⟩; refine Hid.out ?_)
  refine hidw ?_
  have B3 : Below W.heap.size W w3 := by simpa using ((Below.refl W.heap.size W).drew).trans b3
  have HWd := hideIt (wordIt_any i ns n3 hl3 a3 c3 q1 q2 w3 (HQ.out.up B3) (Vi.of_own o3))
  have HB3 := hideIt B3
  clear B3 b3 o3 HNm k1 k0 kS hlk1 hlk2 HQ
  go_upto_region 10 with fail
  go_wp2_with (go_at_call 51; refine HWd.out.mono ?_; rintro e w4 hw4; obtain ⟨k0_, k1_, k2_, k3_, k4_, k5_, k6_, fl, rfl, b4, hfl⟩ := wd_any hw4; refine Hid.out ?_)
  refine hidw ?_
  obtain ⟨W5, hW5⟩ : ∃ W5, W5 = w4.alloc (.cells #[.int .i64 k0_, .int .i64 k1_, .int .i64 k2_, .int .i64 k3_, .int .i64 k4_, .int .i64 k5_, .int .i64 k6_, .bool false, .slice none 0 0] 57) := ⟨_, rfl⟩
  obtain ⟨bE, hbE⟩ : ∃ bE, bE = w4.heap.size := ⟨_, rfl⟩
  have B5 : Below W.heap.size W W5 := by rw [hW5]; exact (HB3.out.trans (b4.mono HB3.out.size)).alloc (Nat.le_trans HB3.out.size b4.size) _
  have X5 : BxA W5 bE 57 #[.int .i64 k0_, .int .i64 k1_, .int .i64 k2_, .int .i64 k3_, .int .i64 k4_, .int .i64 k5_, .int .i64 k6_, .bool false, .slice none 0 0] := by rw [hW5, hbE]; exact BxA.new _ _ _
  have lE : W.heap.size ≤ bE := by rw [hbE]; exact Nat.le_trans HB3.out.size b4.size
  have HFl := hideIt hfl
  have HX5 := hideIt X5
  have HB5 := hideIt B5
  have HlE := hideIt lE
  clear hfl b4 hw4 HWd HB3 X5 B5 lE
  go_upto_region 11 with fail
  rw [← hW5, ← hbE]
  clear hW5 hbE
  have c7 := HX5.out.cell 7 rfl
  have f7 := HX5.out.frozen 7
  obtain ⟨W6, hW6⟩ : ∃ W6, W6 = W5.setCell ⟨bE, 7, none⟩ (.bool true) := ⟨_, rfl⟩
  have X6 : BxA W6 bE 57 #[.int .i64 k0_, .int .i64 k1_, .int .i64 k2_, .int .i64 k3_, .int .i64 k4_, .int .i64 k5_, .int .i64 k6_, .bool true, .slice none 0 0] := by rw [hW6]; exact HX5.out.set 7 _
  have B6 : Below W.heap.size W W6 := by rw [hW6]; exact Below.setCell HB5.out (p := ⟨bE, 7, none⟩) HlE.out _
  have X2 := H0.out.up B6
  have XF := BxA.setA (l := [.int .i64 0, .int .i64 0, .int .i64 0, .int .i64 0, .int .i64 0, .int .i64 0, .int .i64 0, .bool false, .slice none 0 0]) X2 0 [.int .i64 k0_, .int .i64 k1_, .int .i64 k2_, .int .i64 k3_, .int .i64 k4_, .int .i64 k5_, .int .i64 k6_, .bool true, .slice none 0 0]
  rw [setV_all [.int .i64 0, .int .i64 0, .int .i64 0, .int .i64 0, .int .i64 0, .int .i64 0, .int .i64 0, .bool false, .slice none 0 0] [.int .i64 k0_, .int .i64 k1_, .int .i64 k2_, .int .i64 k3_, .int .i64 k4_, .int .i64 k5_, .int .i64 k6_, .bool true, .slice none 0 0] rfl] at XF
  have HFn := hideIt (below_setA (bupN HB.out B6) (Nat.le_refl _) 0 [.int .i64 k0_, .int .i64 k1_, .int .i64 k2_, .int .i64 k3_, .int .i64 k4_, .int .i64 k5_, .int .i64 k6_, .bool true, .slice none 0 0])
  dsimp only [setA] at XF HFn
  have p0 := X6.cell 0 rfl
  have r0 := X2.cell 0 rfl
  have z0 := X2.frozen 0
  have s0 := XF.at 0 rfl
  have p1 := X6.cell 1 rfl
  have r1 := X2.cell 1 rfl
  have z1 := X2.frozen 1
  have s1 := XF.at 1 rfl
  have p2 := X6.cell 2 rfl
  have r2 := X2.cell 2 rfl
  have z2 := X2.frozen 2
  have s2 := XF.at 2 rfl
  have p3 := X6.cell 3 rfl
  have r3 := X2.cell 3 rfl
  have z3 := X2.frozen 3
  have s3 := XF.at 3 rfl
  have p4 := X6.cell 4 rfl
  have r4 := X2.cell 4 rfl
  have z4 := X2.frozen 4
  have s4 := XF.at 4 rfl
  have p5 := X6.cell 5 rfl
  have r5 := X2.cell 5 rfl
  have z5 := X2.frozen 5
  have s5 := XF.at 5 rfl
  have p6 := X6.cell 6 rfl
  have r6 := X2.cell 6 rfl
  have z6 := X2.frozen 6
  have s6 := XF.at 6 rfl
  have p7 := X6.cell 7 rfl
  have r7 := X2.cell 7 rfl
  have z7 := X2.frozen 7
  have s7 := XF.at 7 rfl
  have p8 := X6.cell 8 rfl
  have r8 := X2.cell 8 rfl
  have z8 := X2.frozen 8
  have s8 := XF.at 8 rfl
  have HSx := hideIt (And.intro s0 (And.intro s1 (And.intro s2 (And.intro s3 (And.intro s4 (And.intro s5 (And.intro s6 (And.intro s7 s8))))))))
  clear XF X2 X6 B6 H0 HB HX5 HB5 HlE s0 s1 s2 s3 s4 s5 s6 s7 s8
  go_upto_region 12 with fail
  rw [← hW6]
  clear hW6 c7 f7
  go_wp2
  obtain ⟨s0, s1, s2, s3, s4, s5, s6, s7, s8⟩ := HSx.out
  refine bodyPost_ret (v := .tuple #[.agg #[.int .i64 k0_, .int .i64 k1_, .int .i64 k2_, .int .i64 k3_, .int .i64 k4_, .int .i64 k5_, .int .i64 k6_, .bool true, .slice none 0 0], .bool fl]) (by simp [results, Tryd.results48, go_sem, s0, s1, s2, s3, s4, s5, s6, s7, s8]) rfl ⟨HFn.out, ?_⟩
  rcases HFl.out with ⟨rfl, h1, rfl, rfl, rfl, rfl, rfl, rfl, rfl⟩ | ⟨rfl, h1⟩
  · exact .inl ⟨by rw [HE.out, h1]; rfl, true, rfl⟩
  · exact .inr ⟨⟨k0_, k1_, k2_, k3_, k4_, k5_, k6_⟩, true, by rw [HE.out, h1]; rfl, rfl⟩
set_option maxRecDepth 100000 in
set_option maxHeartbeats 8000000 in
theorem eo_alone (b off c : Nat) (hcap : 1 ≤ c) (w : World) (hb : b < w.heap.size) (hc0 : w.cell? ⟨b, off, none⟩ = some (.string cutW)) (bS : Nat) :
    Calls Tryd.prog 48 #[.pointer (some ⟨bS, 0, none⟩), .slice (some ⟨b, off, none⟩) 1 c] w (EoOut [cutW] w) := by
  obtain ⟨W, hW⟩ : ∃ W, W = w.alloc (.cells #[.int .i64 0, .int .i64 0, .int .i64 0, .int .i64 0, .int .i64 0, .int .i64 0, .int .i64 0, .bool false, .slice none 0 0] 57) := ⟨_, rfl⟩
  have bW : Below w.heap.size w W := by rw [hW]; exact belA _ _
  have B0 : BxA W w.heap.size 57 #[.int .i64 0, .int .i64 0, .int .i64 0, .int .i64 0, .int .i64 0, .int .i64 0, .int .i64 0, .bool false, .slice none 0 0] := by rw [hW]; exact BxA.new _ _ _
  obtain ⟨a1, c1, hs1, _, _, _⟩ := slice1 b off 1 c 0 rfl hcap
  have hec : evCut [cutW] = none := by simp only [evCut, if_true, evO, Option.map_none]
  have HE := hideIt hec
  have k0 : W.cell? ⟨b, off, none⟩ = some (.string ⟨#[99, 117, 116]⟩) := by rw [bW.cell hb]; exact hc0
  have XF := BxA.setA (l := [.int .i64 0, .int .i64 0, .int .i64 0, .int .i64 0, .int .i64 0, .int .i64 0, .int .i64 0, .bool false, .slice none 0 0]) B0 0 [.int .i64 0, .int .i64 0, .int .i64 0, .int .i64 0, .int .i64 0, .int .i64 0, .int .i64 0, .bool false, .slice none 0 0]
  rw [setV_all [.int .i64 0, .int .i64 0, .int .i64 0, .int .i64 0, .int .i64 0, .int .i64 0, .int .i64 0, .bool false, .slice none 0 0] [.int .i64 0, .int .i64 0, .int .i64 0, .int .i64 0, .int .i64 0, .int .i64 0, .int .i64 0, .bool false, .slice none 0 0] rfl] at XF
  have HFn := hideIt (below_setA bW (Nat.le_refl _) 0 [.int .i64 0, .int .i64 0, .int .i64 0, .int .i64 0, .int .i64 0, .int .i64 0, .int .i64 0, .bool false, .slice none 0 0])
  dsimp only [setA] at XF HFn
  have r0 := B0.cell 0 rfl
  have z0 := B0.frozen 0
  have s0 := XF.at 0 rfl
  have r1 := B0.cell 1 rfl
  have z1 := B0.frozen 1
  have s1 := XF.at 1 rfl
  have r2 := B0.cell 2 rfl
  have z2 := B0.frozen 2
  have s2 := XF.at 2 rfl
  have r3 := B0.cell 3 rfl
  have z3 := B0.frozen 3
  have s3 := XF.at 3 rfl
  have r4 := B0.cell 4 rfl
  have z4 := B0.frozen 4
  have s4 := XF.at 4 rfl
  have r5 := B0.cell 5 rfl
  have z5 := B0.frozen 5
  have s5 := XF.at 5 rfl
  have r6 := B0.cell 6 rfl
  have z6 := B0.frozen 6
  have s6 := XF.at 6 rfl
  have r7 := B0.cell 7 rfl
  have z7 := B0.frozen 7
  have s7 := XF.at 7 rfl
  have r8 := B0.cell 8 rfl
  have z8 := B0.frozen 8
  have s8 := XF.at 8 rfl
  have HSx := hideIt (And.intro s0 (And.intro s1 (And.intro s2 (And.intro s3 (And.intro s4 (And.intro s5 (And.intro s6 (And.intro s7 s8))))))))
  clear XF B0 bW hc0 hb hec s0 s1 s2 s3 s4 s5 s6 s7 s8
  go_enter Tryd.func48, Tryd.ntmps48
  go_upto_region 1 with fail
  rw [← hW]
  clear hW
  go_wp2
  obtain ⟨s0, s1, s2, s3, s4, s5, s6, s7, s8⟩ := HSx.out
  exact bodyPost_ret (v := .tuple #[.agg #[.int .i64 0, .int .i64 0, .int .i64 0, .int .i64 0, .int .i64 0, .int .i64 0, .int .i64 0, .bool false, .slice none 0 0], .bool false]) (by simp [results, Tryd.results48, go_sem, s0, s1, s2, s3, s4, s5, s6, s7, s8]) rfl ⟨HFn.out, .inl ⟨HE.out, false, rfl⟩⟩
end Go.Proofs.YtgdlpmmbeacejaaDoor
