/- The specification's events of parts. -/
import Derived.Test.YtgdlpmmbeacejaaDoorKPl18
import Derived.Test.YtgdlpmmbeacejaaDoorKEw15
namespace Go.Proofs.YtgdlpmmbeacejaaDoor
open Go.RowKit C

/-- an event that is right -/
def evC (sh : Int) (ps : List ByteArray) : Option (EvR × Bool) :=
  match evCut ps with
  | none => none
  | some (v, cb) => if evB sh v.k v.nd v.t v.i v.o v.a v.b 0 = true then some (v, cb) else none
theorem wIdx_cut : wIdx cutW = none := by decide
theorem evCut_alone : evCut [cutW] = none := by simp only [evCut, if_true, evO, Option.map_none]
theorem evO_cut (r : List ByteArray) : evO (cutW :: r) = none := by simp only [evO, wIdx_cut]
/-- what is answered -/
def SeOut (sh : Int) (ps : List ByteArray) (w : World) (e : Ending) (w' : World) : Prop := Below w.heap.size w w' ∧
  ∃ (k0 k1 k2 k3 k4 k5 k6 : Int) (cb fl : Bool), e = .returned (.tuple #[.agg #[.int .i64 k0, .int .i64 k1, .int .i64 k2, .int .i64 k3, .int .i64 k4, .int .i64 k5, .int .i64 k6, .bool cb, .slice none 0 0], .bool fl]) ∧
    ((fl = false ∧ evC sh ps = none) ∨ (fl = true ∧ evC sh ps = some (⟨k0, k1, k2, k3, k4, k5, k6⟩, cb)))
/-- l16Plain's answer in one form -/
theorem pl_any {ps : List ByteArray} {w w' : World} {e : Ending} (h : PlOut ps w e w') : ∃ (k0 k1 k2 k3 k4 k5 k6 : Int) (fl : Bool), e = .returned (.tuple #[.agg #[.int .i64 k0, .int .i64 k1, .int .i64 k2, .int .i64 k3, .int .i64 k4, .int .i64 k5, .int .i64 k6, .bool false, .slice none 0 0], .bool fl]) ∧ Below w.heap.size w w' ∧
    ((fl = false ∧ evO ps = none) ∨ (fl = true ∧ evO ps = some ⟨k0, k1, k2, k3, k4, k5, k6⟩)) := by
  obtain ⟨hb, ⟨h1, h2⟩ | ⟨v, h1, h2⟩⟩ := h
  · exact ⟨0, 0, 0, 0, 0, 0, 0, false, h2, hb, .inl ⟨rfl, h1⟩⟩
  · exact ⟨v.k, v.nd, v.t, v.i, v.o, v.a, v.b, true, h2, hb, .inr ⟨rfl, h1⟩⟩

set_option maxRecDepth 100000 in
set_option maxHeartbeats 8000000 in
theorem se_plain (sh : Int) (y : ByteArray) (r : List ByteArray) (m : Nat) (hm : r.length = m) (hm9 : m ≤ 100) (hz : ∀ x ∈ r, x.size ≤ 1000) (hy : y ≠ cutW) (b off c : Nat) (hcap : (m + 1) ≤ c)
    (w : World) (hb : b < w.heap.size) (hc1 : w.cell? ⟨b, off, none⟩ = some (.string y)) (hr : ∀ (j : Nat) (x : ByteArray), r[j]? = some x → w.cell? ⟨b, off + 1 + j, none⟩ = some (.string x)) :
    Calls Tryd.prog 13 #[.int .i64 sh, .slice (some ⟨b, off, none⟩) ((m + 1) : Nat) c] w (SeOut sh (y :: r) w) := by
  obtain ⟨W, hW⟩ : ∃ W, W = w.alloc (.cells #[.int .i64 0, .int .i64 0, .int .i64 0, .int .i64 0, .int .i64 0, .int .i64 0, .int .i64 0, .bool false, .slice none 0 0] 57) := ⟨_, rfl⟩
  have bW : Below w.heap.size w W := by rw [hW]; exact belA _ _
  have B0 : BxA W w.heap.size 57 #[.int .i64 0, .int .i64 0, .int .i64 0, .int .i64 0, .int .i64 0, .int .i64 0, .int .i64 0, .bool false, .slice none 0 0] := by rw [hW]; exact BxA.new _ _ _
  have lb : b < W.heap.size := Nat.lt_of_lt_of_le hb bW.size
  have k1 : W.cell? ⟨b, off, none⟩ = some (.string y) := by rw [bW.cell hb]; exact hc1
  have hqe : (y.toList == [99, 117, 116]) = false := by
    have : y.toList ≠ [99, 117, 116] := fun e => hy (kB_ext (by rw [Lib.toList_data] at e; exact e))
    simpa using this
  have HPl := hideIt (sPlain_any y r m hm hm9 hz b off c hcap W lb k1 (fun j x hx => by rw [bW.cell hb]; exact hr j x hx))
  have HCt : Hid (evCut (y :: r) = (evO (y :: r)).map fun v => (v, false)) := by show _ = _; simp only [evCut, if_neg hy]
  clear hr hc1
  have HB := hideIt bW
  have H0 := hideIt B0
  clear B0 bW hz hb
  go_enter Tryd.func13, Tryd.ntmps13
  go_upto_region 1 with fail
  rw [← hW]
  have lW : w.heap.size < W.heap.size := by rw [hW]; simp
  clear hW
  go_upto_region 4 with fail
  go_wp2_with (go_at_call 23; refine HPl.out.mono ?_; rintro e w4 hw4; obtain ⟨k0_, k1_, k2_, k3_, k4_, k5_, k6_, fl, rfl, b4, hfl⟩ := pl_any hw4; refine Hid.out ?_)
  refine hidw ?_
  obtain ⟨W5, hW5⟩ : ∃ W5, W5 = w4.alloc (.cells #[.int .i64 k0_, .int .i64 k1_, .int .i64 k2_, .int .i64 k3_, .int .i64 k4_, .int .i64 k5_, .int .i64 k6_, .bool false, .slice none 0 0] 57) := ⟨_, rfl⟩
  obtain ⟨bE, hbE⟩ : ∃ bE, bE = w4.heap.size := ⟨_, rfl⟩
  have B5 : Below W.heap.size W W5 := by rw [hW5]; exact b4.alloc b4.size _
  have X5 : BxA W5 bE 57 #[.int .i64 k0_, .int .i64 k1_, .int .i64 k2_, .int .i64 k3_, .int .i64 k4_, .int .i64 k5_, .int .i64 k6_, .bool false, .slice none 0 0] := by rw [hW5, hbE]; exact BxA.new _ _ _
  have lE : W.heap.size ≤ bE := by rw [hbE]; exact b4.size
  have HNe : Hid (bE ≠ w.heap.size) := by show _ ≠ _; omega
  go_upto_region 5 with fail
  rw [← hW5, ← hbE]
  clear hW5 hbE b4 hw4
  have c7 := X5.cell 7 rfl
  have f7 := X5.frozen 7
  obtain ⟨W6, hW6⟩ : ∃ W6, W6 = W5.setCell ⟨bE, 7, none⟩ (.bool false) := ⟨_, rfl⟩
  have HX6 : Hid (BxA W6 bE 57 #[.int .i64 k0_, .int .i64 k1_, .int .i64 k2_, .int .i64 k3_, .int .i64 k4_, .int .i64 k5_, .int .i64 k6_, .bool false, .slice none 0 0]) := by show BxA _ _ _ _; rw [hW6]; exact X5.set 7 _
  have HB6 : Hid (Below W.heap.size W W6) := by show Below _ _ _; rw [hW6]; exact Below.setCell B5 (p := ⟨bE, 7, none⟩) lE _
  have HOk := hideIt (fun u => sEventOk_any sh k0_ k1_ k2_ k3_ k4_ k5_ k6_ false none 0 0 u)
  have HFl := hideIt hfl
  clear X5 B5 lE hfl
  go_upto_region 6 with fail
  rw [← hW6]
  clear hW6 c7 f7
  cases fl with
  | false =>
    refine wp_region_held_drew (S := fun u => BxA u bE 57 #[.int .i64 k0_, .int .i64 k1_, .int .i64 k2_, .int .i64 k3_, .int .i64 k4_, .int .i64 k5_, .int .i64 k6_, .bool false, .slice none 0 0]) (by kernel_rfl) (HX6.out.up (Below.refl _ _).drew) (fun hHeld => ?_)
    refine wpAnyH_take (i := 0) (v := .agg #[.int .i64 k0_, .int .i64 k1_, .int .i64 k2_, .int .i64 k3_, .int .i64 k4_, .int .i64 k5_, .int .i64 k6_, .bool false, .slice none 0 0]) rfl (by kernel_rfl) (by kernel_rfl) (by kernel_rfl) (fun _ _ _ h => h) (yieldsIf_load_mid (by kernel_rfl) 57 (.tmp 7) rfl bE 0 rfl [.int .i64 k0_, .int .i64 k1_, .int .i64 k2_, .int .i64 k3_, .int .i64 k4_, .int .i64 k5_, .int .i64 k6_, .bool false, .slice none 0 0] _ (fun _ h => BxA.range (l := [.int .i64 k0_, .int .i64 k1_, .int .i64 k2_, .int .i64 k3_, .int .i64 k4_, .int .i64 k5_, .int .i64 k6_, .bool false, .slice none 0 0]) h) Tryd.underlying57 rfl (by kernel_rfl)) (by assumption) ?_
    try simp only [Act.put, List.getElem_toArray, List.getElem_cons_zero, List.setIfInBounds_toArray, List.set_cons_zero, List.set_cons_succ]
    refine wpAnyH_take (i := 1) (v := ?_) rfl (by kernel_rfl) (by kernel_rfl) (by kernel_rfl) (fun _ _ _ h => h) (Or.inl ⟨by rfl, ?_⟩) (by assumption) ?_
    rotate_left
    · intro w hSw; (try dsimp only at hSw); go_simp; try with_reducible rfl
    try simp only [Act.put, List.getElem_toArray, List.getElem_cons_succ, List.getElem_cons_zero, List.setIfInBounds_toArray, List.set_cons_zero, List.set_cons_succ]
    refine wpAnyH_take (i := 2) (v := ?_) rfl (by kernel_rfl) (by kernel_rfl) (by kernel_rfl) (fun _ _ _ h => h) (Or.inl ⟨by rfl, ?_⟩) (by assumption) ?_
    rotate_left
    · intro w hSw; (try dsimp only at hSw); go_simp; try with_reducible rfl
    try simp only [Act.put, List.getElem_toArray, List.getElem_cons_succ, List.getElem_cons_zero, List.setIfInBounds_toArray, List.set_cons_zero, List.set_cons_succ]
    refine wpAnyH_take (i := 3) rfl (by kernel_rfl) (by kernel_rfl) (by kernel_rfl) (fun _ _ _ h => h) (Or.inr ⟨by kernel_rfl, rfl⟩) (by assumption) ?_
    try simp only [Act.put, List.getElem_toArray, List.getElem_cons_succ, List.getElem_cons_zero, List.setIfInBounds_toArray, List.set_cons_zero, List.set_cons_succ]
    refine wpAnyH_take (i := 4) rfl (by kernel_rfl) (by kernel_rfl) (by kernel_rfl) (fun _ _ _ h => h) (Or.inr ⟨by kernel_rfl, rfl⟩) (by assumption) ?_
    try simp only [Act.put, List.getElem_toArray, List.getElem_cons_succ, List.getElem_cons_zero, List.setIfInBounds_toArray, List.set_cons_zero, List.set_cons_succ]
    refine wpAnyH_take (i := 5) rfl (by kernel_rfl) (by kernel_rfl) (by kernel_rfl) (fun _ _ _ h => h) (Or.inr ⟨by kernel_rfl, rfl⟩) (by assumption) ?_
    try simp only [Act.put, List.getElem_toArray, List.getElem_cons_succ, List.getElem_cons_zero, List.setIfInBounds_toArray, List.set_cons_zero, List.set_cons_succ]
    have B7 : Below W.heap.size W W6.drew := HB6.out.drew
    have X7 := HX6.out.up (Below.refl W6.heap.size W6).drew
    refine wpAnyH_take (i := 6) (v := ?_) rfl (by kernel_rfl) (by kernel_rfl) (by kernel_rfl) (fun _ _ _ h => h) (Or.inl ⟨by rfl, ?_⟩) (by assumption) ?_
    rotate_left
    · intro w hSw; (try dsimp only at hSw); go_simp; try with_reducible rfl
    try simp only [Act.put, List.getElem_toArray, List.getElem_cons_succ, List.getElem_cons_zero, List.setIfInBounds_toArray, List.set_cons_zero, List.set_cons_succ]
    refine wpAnyH_ready (rs := [7]) (by kernel_rfl) (by simp) ?_
    refine AllReadyH.cons rfl (fun K hK => ?_) AllReadyH.nil
    rw [if_pos]
    rotate_left
    · kernel_rfl
    have X2 := H0.out.up B7
    have HT := BxA.there (l := [.int .i64 0, .int .i64 0, .int .i64 0, .int .i64 0, .int .i64 0, .int .i64 0, .int .i64 0, .bool false, .slice none 0 0]) X2 (Nat.le_refl _)
    obtain ⟨x9, hx9⟩ : ∃ x9, x9 = setA W6.drew w.heap.size 0 [.int .i64 k0_, .int .i64 k1_, .int .i64 k2_, .int .i64 k3_, .int .i64 k4_, .int .i64 k5_, .int .i64 k6_, .bool false, .slice none 0 0] := ⟨_, rfl⟩
    have XF := BxA.setA (l := [.int .i64 0, .int .i64 0, .int .i64 0, .int .i64 0, .int .i64 0, .int .i64 0, .int .i64 0, .bool false, .slice none 0 0]) X2 0 [.int .i64 k0_, .int .i64 k1_, .int .i64 k2_, .int .i64 k3_, .int .i64 k4_, .int .i64 k5_, .int .i64 k6_, .bool false, .slice none 0 0]
    rw [setV_all [.int .i64 0, .int .i64 0, .int .i64 0, .int .i64 0, .int .i64 0, .int .i64 0, .int .i64 0, .bool false, .slice none 0 0] [.int .i64 k0_, .int .i64 k1_, .int .i64 k2_, .int .i64 k3_, .int .i64 k4_, .int .i64 k5_, .int .i64 k6_, .bool false, .slice none 0 0] rfl, ← hx9] at XF
    have FB := below_setA (bupN HB.out B7) (Nat.le_refl _) 0 [.int .i64 k0_, .int .i64 k1_, .int .i64 k2_, .int .i64 k3_, .int .i64 k4_, .int .i64 k5_, .int .i64 k6_, .bool false, .slice none 0 0]
    rw [← hx9] at FB
    have XE : BxA x9 bE 57 #[.int .i64 k0_, .int .i64 k1_, .int .i64 k2_, .int .i64 k3_, .int .i64 k4_, .int .i64 k5_, .int .i64 k6_, .bool false, .slice none 0 0] := by rw [hx9]; exact BxA.setAO X7 0 _ HNe.out
    refine wp_store_mid 57 (.tmp 4) (.tmp 28) ?_ w.heap.size 0 #[.int .i64 k0_, .int .i64 k1_, .int .i64 k2_, .int .i64 k3_, .int .i64 k4_, .int .i64 k5_, .int .i64 k6_, .bool false, .slice none 0 0] ?_ ?_ ?_ ?_ ?_ ?_
    · rfl
    · rfl
    · rfl
    · exact HT
    · kernel_rfl
    · kernel_rfl
    rw [setCells_setA]
    rw [show setA W6.drew w.heap.size 0 (#[.int .i64 k0_, .int .i64 k1_, .int .i64 k2_, .int .i64 k3_, .int .i64 k4_, .int .i64 k5_, .int .i64 k6_, .bool false, .slice none 0 0] : Array Value).toList = x9 from hx9.symm]
    refine hK.out _ _ XE (fun hHeld => ?_)
    clear hK K
    try simp only [List.setIfInBounds_toArray, List.set_cons_zero, List.set_cons_succ]
    clear hx9 HT X2 X7 B7 
    refine wpAnyH_ready (rs := [8]) (by kernel_rfl) (by simp) ?_
    refine AllReadyH.cons rfl (fun K hK => ?_) AllReadyH.nil
    go_simp
    refine hK.out _ _ (by assumption) (fun hHeld => ?_)
    clear hK K
    try simp only [List.setIfInBounds_toArray, List.set_cons_zero, List.set_cons_succ]
    refine wpAnyH_done (by kernel_rfl) ?_ _
    clear hHeld XE
    have HXF := hideIt XF
    have HFB := hideIt FB
    clear XF FB
    go_wp2
    refine bodyPost_ret (v := .tuple #[.agg #[.int .i64 k0_, .int .i64 k1_, .int .i64 k2_, .int .i64 k3_, .int .i64 k4_, .int .i64 k5_, .int .i64 k6_, .bool false, .slice none 0 0], .bool false]) ?_ rfl ⟨HFB.out, k0_, k1_, k2_, k3_, k4_, k5_, k6_, false, false, rfl, ?_⟩
    · refine results_box (a := 4) (x := 5) (l := [.int .i64 k0_, .int .i64 k1_, .int .i64 k2_, .int .i64 k3_, .int .i64 k4_, .int .i64 k5_, .int .i64 k6_, .bool false, .slice none 0 0]) (b := w.heap.size) (t := 57) ?_ ?_ ?_ ?_ ?_ ?_
      · exact Tryd.results13
      · rfl
      · rfl
      · exact HXF.out
      · exact ⟨_, Tryd.underlying57, rfl⟩
      · kernel_rfl
    · refine .inl ⟨rfl, ?_⟩
      rcases HFl.out with ⟨_, h1⟩ | ⟨h1, _⟩
      · unfold evC
        rw [HCt.out, h1]
        rfl
      · cases h1
  | true =>
    obtain ⟨fb, hfb⟩ : ∃ fb, fb = evB sh k0_ k1_ k2_ k3_ k4_ k5_ k6_ 0 := ⟨_, rfl⟩
    rw [← hfb] at HOk
    have HFb := hideIt hfb
    clear hfb
    refine wp_region_held_drew (S := fun u => BxA u bE 57 #[.int .i64 k0_, .int .i64 k1_, .int .i64 k2_, .int .i64 k3_, .int .i64 k4_, .int .i64 k5_, .int .i64 k6_, .bool false, .slice none 0 0]) (by kernel_rfl) (HX6.out.up (Below.refl _ _).drew) (fun hHeld => ?_)
    refine wpAnyH_take (i := 0) (v := .agg #[.int .i64 k0_, .int .i64 k1_, .int .i64 k2_, .int .i64 k3_, .int .i64 k4_, .int .i64 k5_, .int .i64 k6_, .bool false, .slice none 0 0]) rfl (by kernel_rfl) (by kernel_rfl) (by kernel_rfl) (fun _ _ _ h => h) (yieldsIf_load_mid (by kernel_rfl) 57 (.tmp 7) rfl bE 0 rfl [.int .i64 k0_, .int .i64 k1_, .int .i64 k2_, .int .i64 k3_, .int .i64 k4_, .int .i64 k5_, .int .i64 k6_, .bool false, .slice none 0 0] _ (fun _ h => BxA.range (l := [.int .i64 k0_, .int .i64 k1_, .int .i64 k2_, .int .i64 k3_, .int .i64 k4_, .int .i64 k5_, .int .i64 k6_, .bool false, .slice none 0 0]) h) Tryd.underlying57 rfl (by kernel_rfl)) (by assumption) ?_
    try simp only [Act.put, List.getElem_toArray, List.getElem_cons_zero, List.setIfInBounds_toArray, List.set_cons_zero, List.set_cons_succ]
    refine wpAnyH_take (i := 1) (v := ?_) rfl (by kernel_rfl) (by kernel_rfl) (by kernel_rfl) (fun _ _ _ h => h) (Or.inl ⟨by rfl, ?_⟩) (by assumption) ?_
    rotate_left
    · intro w hSw; (try dsimp only at hSw); go_simp; try with_reducible rfl
    try simp only [Act.put, List.getElem_toArray, List.getElem_cons_succ, List.getElem_cons_zero, List.setIfInBounds_toArray, List.set_cons_zero, List.set_cons_succ]
    refine wpAnyH_take (i := 2) (v := ?_) rfl (by kernel_rfl) (by kernel_rfl) (by kernel_rfl) (fun _ _ _ h => h) (Or.inl ⟨by rfl, ?_⟩) (by assumption) ?_
    rotate_left
    · intro w hSw; (try dsimp only at hSw); go_simp; try with_reducible rfl
    try simp only [Act.put, List.getElem_toArray, List.getElem_cons_succ, List.getElem_cons_zero, List.setIfInBounds_toArray, List.set_cons_zero, List.set_cons_succ]
    refine wpAnyH_take (i := 3) (v := ?_) rfl (by kernel_rfl) (by kernel_rfl) (by kernel_rfl) (fun _ _ _ h => h) (Or.inl ⟨by rfl, ?_⟩) (by assumption) ?_
    rotate_left
    · intro w hSw; (try dsimp only at hSw); go_simp; try with_reducible rfl
    try simp only [Act.put, List.getElem_toArray, List.getElem_cons_succ, List.getElem_cons_zero, List.setIfInBounds_toArray, List.set_cons_zero, List.set_cons_succ]
    refine wpAnyH_take (i := 4) (v := .agg #[.int .i64 k0_, .int .i64 k1_, .int .i64 k2_, .int .i64 k3_, .int .i64 k4_, .int .i64 k5_, .int .i64 k6_, .bool false, .slice none 0 0]) rfl (by kernel_rfl) (by kernel_rfl) (by kernel_rfl) (fun _ _ _ h => h) (yieldsIf_load_mid (by kernel_rfl) 57 (.tmp 7) rfl bE 0 rfl [.int .i64 k0_, .int .i64 k1_, .int .i64 k2_, .int .i64 k3_, .int .i64 k4_, .int .i64 k5_, .int .i64 k6_, .bool false, .slice none 0 0] _ (fun _ h => BxA.range (l := [.int .i64 k0_, .int .i64 k1_, .int .i64 k2_, .int .i64 k3_, .int .i64 k4_, .int .i64 k5_, .int .i64 k6_, .bool false, .slice none 0 0]) h) Tryd.underlying57 rfl (by kernel_rfl)) (by assumption) ?_
    try simp only [Act.put, List.getElem_toArray, List.getElem_cons_succ, List.getElem_cons_zero, List.setIfInBounds_toArray, List.set_cons_zero, List.set_cons_succ]
    refine wpAnyH_ready (rs := [5]) (by kernel_rfl) (by simp) ?_
    refine AllReadyH.cons rfl (fun K hK => ?_) AllReadyH.nil
    rw [if_pos]
    rotate_left
    · kernel_rfl
    go_wp2_with (go_at_call 24; refine (HOk.out W6.drew).mono ?_; rintro e w7 ⟨rfl, b7⟩; refine Hid.out ?_)
    refine hidw ?_
    have B7 : Below W.heap.size W w7 := by first | exact (HB6.out.drew).trans (b7.mono HB6.out.size) | (rw [b7]; exact HB6.out.drew)
    have X7 : BxA w7 bE 57 #[.int .i64 k0_, .int .i64 k1_, .int .i64 k2_, .int .i64 k3_, .int .i64 k4_, .int .i64 k5_, .int .i64 k6_, .bool false, .slice none 0 0] := by first | exact (HX6.out.up (Below.refl W6.heap.size W6).drew).up b7 | (rw [b7]; exact HX6.out.up (Below.refl W6.heap.size W6).drew)
    refine hK.out _ _ X7 (fun hHeld => ?_)
    clear hK K
    try simp only [List.setIfInBounds_toArray, List.set_cons_zero, List.set_cons_succ]
    refine wpAnyH_take (i := 6) (v := ?_) rfl (by kernel_rfl) (by kernel_rfl) (by kernel_rfl) (fun _ _ _ h => h) (Or.inl ⟨by rfl, ?_⟩) (by assumption) ?_
    rotate_left
    · intro w hSw; (try dsimp only at hSw); go_simp; try with_reducible rfl
    try simp only [Act.put, List.getElem_toArray, List.getElem_cons_succ, List.getElem_cons_zero, List.setIfInBounds_toArray, List.set_cons_zero, List.set_cons_succ]
    refine wpAnyH_ready (rs := [7]) (by kernel_rfl) (by simp) ?_
    refine AllReadyH.cons rfl (fun K hK => ?_) AllReadyH.nil
    rw [if_pos]
    rotate_left
    · kernel_rfl
    have X2 := H0.out.up B7
    have HT := BxA.there (l := [.int .i64 0, .int .i64 0, .int .i64 0, .int .i64 0, .int .i64 0, .int .i64 0, .int .i64 0, .bool false, .slice none 0 0]) X2 (Nat.le_refl _)
    obtain ⟨x9, hx9⟩ : ∃ x9, x9 = setA w7 w.heap.size 0 [.int .i64 k0_, .int .i64 k1_, .int .i64 k2_, .int .i64 k3_, .int .i64 k4_, .int .i64 k5_, .int .i64 k6_, .bool false, .slice none 0 0] := ⟨_, rfl⟩
    have XF := BxA.setA (l := [.int .i64 0, .int .i64 0, .int .i64 0, .int .i64 0, .int .i64 0, .int .i64 0, .int .i64 0, .bool false, .slice none 0 0]) X2 0 [.int .i64 k0_, .int .i64 k1_, .int .i64 k2_, .int .i64 k3_, .int .i64 k4_, .int .i64 k5_, .int .i64 k6_, .bool false, .slice none 0 0]
    rw [setV_all [.int .i64 0, .int .i64 0, .int .i64 0, .int .i64 0, .int .i64 0, .int .i64 0, .int .i64 0, .bool false, .slice none 0 0] [.int .i64 k0_, .int .i64 k1_, .int .i64 k2_, .int .i64 k3_, .int .i64 k4_, .int .i64 k5_, .int .i64 k6_, .bool false, .slice none 0 0] rfl, ← hx9] at XF
    have FB := below_setA (bupN HB.out B7) (Nat.le_refl _) 0 [.int .i64 k0_, .int .i64 k1_, .int .i64 k2_, .int .i64 k3_, .int .i64 k4_, .int .i64 k5_, .int .i64 k6_, .bool false, .slice none 0 0]
    rw [← hx9] at FB
    have XE : BxA x9 bE 57 #[.int .i64 k0_, .int .i64 k1_, .int .i64 k2_, .int .i64 k3_, .int .i64 k4_, .int .i64 k5_, .int .i64 k6_, .bool false, .slice none 0 0] := by rw [hx9]; exact BxA.setAO X7 0 _ HNe.out
    refine wp_store_mid 57 (.tmp 4) (.tmp 28) ?_ w.heap.size 0 #[.int .i64 k0_, .int .i64 k1_, .int .i64 k2_, .int .i64 k3_, .int .i64 k4_, .int .i64 k5_, .int .i64 k6_, .bool false, .slice none 0 0] ?_ ?_ ?_ ?_ ?_ ?_
    · rfl
    · rfl
    · rfl
    · exact HT
    · kernel_rfl
    · kernel_rfl
    rw [setCells_setA]
    rw [show setA w7 w.heap.size 0 (#[.int .i64 k0_, .int .i64 k1_, .int .i64 k2_, .int .i64 k3_, .int .i64 k4_, .int .i64 k5_, .int .i64 k6_, .bool false, .slice none 0 0] : Array Value).toList = x9 from hx9.symm]
    refine hK.out _ _ XE (fun hHeld => ?_)
    clear hK K
    try simp only [List.setIfInBounds_toArray, List.set_cons_zero, List.set_cons_succ]
    clear hx9 HT X2 X7 B7 b7
    refine wpAnyH_ready (rs := [8]) (by kernel_rfl) (by simp) ?_
    refine AllReadyH.cons rfl (fun K hK => ?_) AllReadyH.nil
    go_simp
    refine hK.out _ _ (by assumption) (fun hHeld => ?_)
    clear hK K
    try simp only [List.setIfInBounds_toArray, List.set_cons_zero, List.set_cons_succ]
    refine wpAnyH_done (by kernel_rfl) ?_ _
    clear hHeld XE
    have HXF := hideIt XF
    have HFB := hideIt FB
    clear XF FB
    go_wp2
    refine bodyPost_ret (v := .tuple #[.agg #[.int .i64 k0_, .int .i64 k1_, .int .i64 k2_, .int .i64 k3_, .int .i64 k4_, .int .i64 k5_, .int .i64 k6_, .bool false, .slice none 0 0], .bool fb]) ?_ rfl ⟨HFB.out, k0_, k1_, k2_, k3_, k4_, k5_, k6_, false, fb, rfl, ?_⟩
    · refine results_box (a := 4) (x := 5) (l := [.int .i64 k0_, .int .i64 k1_, .int .i64 k2_, .int .i64 k3_, .int .i64 k4_, .int .i64 k5_, .int .i64 k6_, .bool false, .slice none 0 0]) (b := w.heap.size) (t := 57) ?_ ?_ ?_ ?_ ?_ ?_
      · exact Tryd.results13
      · rfl
      · rfl
      · exact HXF.out
      · exact ⟨_, Tryd.underlying57, rfl⟩
      · kernel_rfl
    · rcases HFl.out with ⟨h1, _⟩ | ⟨_, h1⟩
      · cases h1
      · unfold evC
        rw [HCt.out, h1]
        simp only [Option.map_some, ← HFb.out]
        cases fb
        · exact .inl ⟨rfl, rfl⟩
        · exact .inr ⟨rfl, rfl⟩
set_option maxRecDepth 100000 in
set_option maxHeartbeats 8000000 in
theorem se_cut (sh : Int) (y : ByteArray) (r : List ByteArray) (m : Nat) (hm : r.length = m) (hm9 : m ≤ 100) (hz : ∀ x ∈ r, x.size ≤ 1000) (b off c : Nat) (hcap : (m + 1 + 1) ≤ c)
    (w : World) (hb : b < w.heap.size) (hc0 : w.cell? ⟨b, off, none⟩ = some (.string cutW)) (hc1 : w.cell? ⟨b, off + 1, none⟩ = some (.string y)) (hr : ∀ (j : Nat) (x : ByteArray), r[j]? = some x → w.cell? ⟨b, off + 1 + 1 + j, none⟩ = some (.string x)) :
    Calls Tryd.prog 13 #[.int .i64 sh, .slice (some ⟨b, off, none⟩) ((m + 1 + 1) : Nat) c] w (SeOut sh (cutW :: y :: r) w) := by
  obtain ⟨W, hW⟩ : ∃ W, W = w.alloc (.cells #[.int .i64 0, .int .i64 0, .int .i64 0, .int .i64 0, .int .i64 0, .int .i64 0, .int .i64 0, .bool false, .slice none 0 0] 57) := ⟨_, rfl⟩
  have bW : Below w.heap.size w W := by rw [hW]; exact belA _ _
  have B0 : BxA W w.heap.size 57 #[.int .i64 0, .int .i64 0, .int .i64 0, .int .i64 0, .int .i64 0, .int .i64 0, .int .i64 0, .bool false, .slice none 0 0] := by rw [hW]; exact BxA.new _ _ _
  have lb : b < W.heap.size := Nat.lt_of_lt_of_le hb bW.size
  have k0 : W.cell? ⟨b, off, none⟩ = some (.string ⟨#[99, 117, 116]⟩) := by rw [bW.cell hb]; exact hc0
  have k1 : W.cell? ⟨b, off + 1, none⟩ = some (.string y) := by rw [bW.cell hb]; exact hc1
  obtain ⟨a1, c1, hs1, ha1, hl1, hu1⟩ := slice1 b off (m + 1 + 1) c (m + 1) rfl hcap
  obtain rfl := ha1 (by omega)
  have d1 : decide ((1 : Int) < ((m + 1 + 1 : Nat) : Int)) = true := decide_eq_true (by omega)
  have HPl := hideIt (sPlain_any y r m hm hm9 hz b (off + 1) c1 hl1 W lb k1 (fun j x hx => by rw [bW.cell hb]; exact hr j x hx))
  have HCt : Hid (evCut (cutW :: y :: r) = (evO (y :: r)).map fun v => (v, true)) := by show _ = _; simp only [evCut, if_true]
  clear hr hc1 hc0 k1 ha1
  have HB := hideIt bW
  have H0 := hideIt B0
  clear B0 bW hz hb
  go_enter Tryd.func13, Tryd.ntmps13
  go_upto_region 1 with fail
  rw [← hW]
  have lW : w.heap.size < W.heap.size := by rw [hW]; simp
  clear hW
  go_upto_region 4 with fail
  go_wp2_with (go_at_call 23; refine HPl.out.mono ?_; rintro e w4 hw4; obtain ⟨k0_, k1_, k2_, k3_, k4_, k5_, k6_, fl, rfl, b4, hfl⟩ := pl_any hw4; refine Hid.out ?_)
  refine hidw ?_
  obtain ⟨W5, hW5⟩ : ∃ W5, W5 = w4.alloc (.cells #[.int .i64 k0_, .int .i64 k1_, .int .i64 k2_, .int .i64 k3_, .int .i64 k4_, .int .i64 k5_, .int .i64 k6_, .bool false, .slice none 0 0] 57) := ⟨_, rfl⟩
  obtain ⟨bE, hbE⟩ : ∃ bE, bE = w4.heap.size := ⟨_, rfl⟩
  have B5 : Below W.heap.size W W5 := by rw [hW5]; exact b4.alloc b4.size _
  have X5 : BxA W5 bE 57 #[.int .i64 k0_, .int .i64 k1_, .int .i64 k2_, .int .i64 k3_, .int .i64 k4_, .int .i64 k5_, .int .i64 k6_, .bool false, .slice none 0 0] := by rw [hW5, hbE]; exact BxA.new _ _ _
  have lE : W.heap.size ≤ bE := by rw [hbE]; exact b4.size
  have HNe : Hid (bE ≠ w.heap.size) := by show _ ≠ _; omega
  go_upto_region 5 with fail
  rw [← hW5, ← hbE]
  clear hW5 hbE b4 hw4
  have c7 := X5.cell 7 rfl
  have f7 := X5.frozen 7
  obtain ⟨W6, hW6⟩ : ∃ W6, W6 = W5.setCell ⟨bE, 7, none⟩ (.bool true) := ⟨_, rfl⟩
  have HX6 : Hid (BxA W6 bE 57 #[.int .i64 k0_, .int .i64 k1_, .int .i64 k2_, .int .i64 k3_, .int .i64 k4_, .int .i64 k5_, .int .i64 k6_, .bool true, .slice none 0 0]) := by show BxA _ _ _ _; rw [hW6]; exact X5.set 7 _
  have HB6 : Hid (Below W.heap.size W W6) := by show Below _ _ _; rw [hW6]; exact Below.setCell B5 (p := ⟨bE, 7, none⟩) lE _
  have HOk := hideIt (fun u => sEventOk_any sh k0_ k1_ k2_ k3_ k4_ k5_ k6_ true none 0 0 u)
  have HFl := hideIt hfl
  clear X5 B5 lE hfl
  go_upto_region 6 with fail
  rw [← hW6]
  clear hW6 c7 f7
  cases fl with
  | false =>
    refine wp_region_held_drew (S := fun u => BxA u bE 57 #[.int .i64 k0_, .int .i64 k1_, .int .i64 k2_, .int .i64 k3_, .int .i64 k4_, .int .i64 k5_, .int .i64 k6_, .bool true, .slice none 0 0]) (by kernel_rfl) (HX6.out.up (Below.refl _ _).drew) (fun hHeld => ?_)
    refine wpAnyH_take (i := 0) (v := .agg #[.int .i64 k0_, .int .i64 k1_, .int .i64 k2_, .int .i64 k3_, .int .i64 k4_, .int .i64 k5_, .int .i64 k6_, .bool true, .slice none 0 0]) rfl (by kernel_rfl) (by kernel_rfl) (by kernel_rfl) (fun _ _ _ h => h) (yieldsIf_load_mid (by kernel_rfl) 57 (.tmp 7) rfl bE 0 rfl [.int .i64 k0_, .int .i64 k1_, .int .i64 k2_, .int .i64 k3_, .int .i64 k4_, .int .i64 k5_, .int .i64 k6_, .bool true, .slice none 0 0] _ (fun _ h => BxA.range (l := [.int .i64 k0_, .int .i64 k1_, .int .i64 k2_, .int .i64 k3_, .int .i64 k4_, .int .i64 k5_, .int .i64 k6_, .bool true, .slice none 0 0]) h) Tryd.underlying57 rfl (by kernel_rfl)) (by assumption) ?_
    try simp only [Act.put, List.getElem_toArray, List.getElem_cons_zero, List.setIfInBounds_toArray, List.set_cons_zero, List.set_cons_succ]
    refine wpAnyH_take (i := 1) (v := ?_) rfl (by kernel_rfl) (by kernel_rfl) (by kernel_rfl) (fun _ _ _ h => h) (Or.inl ⟨by rfl, ?_⟩) (by assumption) ?_
    rotate_left
    · intro w hSw; (try dsimp only at hSw); go_simp; try with_reducible rfl
    try simp only [Act.put, List.getElem_toArray, List.getElem_cons_succ, List.getElem_cons_zero, List.setIfInBounds_toArray, List.set_cons_zero, List.set_cons_succ]
    refine wpAnyH_take (i := 2) (v := ?_) rfl (by kernel_rfl) (by kernel_rfl) (by kernel_rfl) (fun _ _ _ h => h) (Or.inl ⟨by rfl, ?_⟩) (by assumption) ?_
    rotate_left
    · intro w hSw; (try dsimp only at hSw); go_simp; try with_reducible rfl
    try simp only [Act.put, List.getElem_toArray, List.getElem_cons_succ, List.getElem_cons_zero, List.setIfInBounds_toArray, List.set_cons_zero, List.set_cons_succ]
    refine wpAnyH_take (i := 3) rfl (by kernel_rfl) (by kernel_rfl) (by kernel_rfl) (fun _ _ _ h => h) (Or.inr ⟨by kernel_rfl, rfl⟩) (by assumption) ?_
    try simp only [Act.put, List.getElem_toArray, List.getElem_cons_succ, List.getElem_cons_zero, List.setIfInBounds_toArray, List.set_cons_zero, List.set_cons_succ]
    refine wpAnyH_take (i := 4) rfl (by kernel_rfl) (by kernel_rfl) (by kernel_rfl) (fun _ _ _ h => h) (Or.inr ⟨by kernel_rfl, rfl⟩) (by assumption) ?_
    try simp only [Act.put, List.getElem_toArray, List.getElem_cons_succ, List.getElem_cons_zero, List.setIfInBounds_toArray, List.set_cons_zero, List.set_cons_succ]
    refine wpAnyH_take (i := 5) rfl (by kernel_rfl) (by kernel_rfl) (by kernel_rfl) (fun _ _ _ h => h) (Or.inr ⟨by kernel_rfl, rfl⟩) (by assumption) ?_
    try simp only [Act.put, List.getElem_toArray, List.getElem_cons_succ, List.getElem_cons_zero, List.setIfInBounds_toArray, List.set_cons_zero, List.set_cons_succ]
    have B7 : Below W.heap.size W W6.drew := HB6.out.drew
    have X7 := HX6.out.up (Below.refl W6.heap.size W6).drew
    refine wpAnyH_take (i := 6) (v := ?_) rfl (by kernel_rfl) (by kernel_rfl) (by kernel_rfl) (fun _ _ _ h => h) (Or.inl ⟨by rfl, ?_⟩) (by assumption) ?_
    rotate_left
    · intro w hSw; (try dsimp only at hSw); go_simp; try with_reducible rfl
    try simp only [Act.put, List.getElem_toArray, List.getElem_cons_succ, List.getElem_cons_zero, List.setIfInBounds_toArray, List.set_cons_zero, List.set_cons_succ]
    refine wpAnyH_ready (rs := [7]) (by kernel_rfl) (by simp) ?_
    refine AllReadyH.cons rfl (fun K hK => ?_) AllReadyH.nil
    rw [if_pos]
    rotate_left
    · kernel_rfl
    have X2 := H0.out.up B7
    have HT := BxA.there (l := [.int .i64 0, .int .i64 0, .int .i64 0, .int .i64 0, .int .i64 0, .int .i64 0, .int .i64 0, .bool false, .slice none 0 0]) X2 (Nat.le_refl _)
    obtain ⟨x9, hx9⟩ : ∃ x9, x9 = setA W6.drew w.heap.size 0 [.int .i64 k0_, .int .i64 k1_, .int .i64 k2_, .int .i64 k3_, .int .i64 k4_, .int .i64 k5_, .int .i64 k6_, .bool true, .slice none 0 0] := ⟨_, rfl⟩
    have XF := BxA.setA (l := [.int .i64 0, .int .i64 0, .int .i64 0, .int .i64 0, .int .i64 0, .int .i64 0, .int .i64 0, .bool false, .slice none 0 0]) X2 0 [.int .i64 k0_, .int .i64 k1_, .int .i64 k2_, .int .i64 k3_, .int .i64 k4_, .int .i64 k5_, .int .i64 k6_, .bool true, .slice none 0 0]
    rw [setV_all [.int .i64 0, .int .i64 0, .int .i64 0, .int .i64 0, .int .i64 0, .int .i64 0, .int .i64 0, .bool false, .slice none 0 0] [.int .i64 k0_, .int .i64 k1_, .int .i64 k2_, .int .i64 k3_, .int .i64 k4_, .int .i64 k5_, .int .i64 k6_, .bool true, .slice none 0 0] rfl, ← hx9] at XF
    have FB := below_setA (bupN HB.out B7) (Nat.le_refl _) 0 [.int .i64 k0_, .int .i64 k1_, .int .i64 k2_, .int .i64 k3_, .int .i64 k4_, .int .i64 k5_, .int .i64 k6_, .bool true, .slice none 0 0]
    rw [← hx9] at FB
    have XE : BxA x9 bE 57 #[.int .i64 k0_, .int .i64 k1_, .int .i64 k2_, .int .i64 k3_, .int .i64 k4_, .int .i64 k5_, .int .i64 k6_, .bool true, .slice none 0 0] := by rw [hx9]; exact BxA.setAO X7 0 _ HNe.out
    refine wp_store_mid 57 (.tmp 4) (.tmp 28) ?_ w.heap.size 0 #[.int .i64 k0_, .int .i64 k1_, .int .i64 k2_, .int .i64 k3_, .int .i64 k4_, .int .i64 k5_, .int .i64 k6_, .bool true, .slice none 0 0] ?_ ?_ ?_ ?_ ?_ ?_
    · rfl
    · rfl
    · rfl
    · exact HT
    · kernel_rfl
    · kernel_rfl
    rw [setCells_setA]
    rw [show setA W6.drew w.heap.size 0 (#[.int .i64 k0_, .int .i64 k1_, .int .i64 k2_, .int .i64 k3_, .int .i64 k4_, .int .i64 k5_, .int .i64 k6_, .bool true, .slice none 0 0] : Array Value).toList = x9 from hx9.symm]
    refine hK.out _ _ XE (fun hHeld => ?_)
    clear hK K
    try simp only [List.setIfInBounds_toArray, List.set_cons_zero, List.set_cons_succ]
    clear hx9 HT X2 X7 B7 
    refine wpAnyH_ready (rs := [8]) (by kernel_rfl) (by simp) ?_
    refine AllReadyH.cons rfl (fun K hK => ?_) AllReadyH.nil
    go_simp
    refine hK.out _ _ (by assumption) (fun hHeld => ?_)
    clear hK K
    try simp only [List.setIfInBounds_toArray, List.set_cons_zero, List.set_cons_succ]
    refine wpAnyH_done (by kernel_rfl) ?_ _
    clear hHeld XE
    have HXF := hideIt XF
    have HFB := hideIt FB
    clear XF FB
    go_wp2
    refine bodyPost_ret (v := .tuple #[.agg #[.int .i64 k0_, .int .i64 k1_, .int .i64 k2_, .int .i64 k3_, .int .i64 k4_, .int .i64 k5_, .int .i64 k6_, .bool true, .slice none 0 0], .bool false]) ?_ rfl ⟨HFB.out, k0_, k1_, k2_, k3_, k4_, k5_, k6_, true, false, rfl, ?_⟩
    · refine results_box (a := 4) (x := 5) (l := [.int .i64 k0_, .int .i64 k1_, .int .i64 k2_, .int .i64 k3_, .int .i64 k4_, .int .i64 k5_, .int .i64 k6_, .bool true, .slice none 0 0]) (b := w.heap.size) (t := 57) ?_ ?_ ?_ ?_ ?_ ?_
      · exact Tryd.results13
      · rfl
      · rfl
      · exact HXF.out
      · exact ⟨_, Tryd.underlying57, rfl⟩
      · kernel_rfl
    · refine .inl ⟨rfl, ?_⟩
      rcases HFl.out with ⟨_, h1⟩ | ⟨h1, _⟩
      · unfold evC
        rw [HCt.out, h1]
        rfl
      · cases h1
  | true =>
    obtain ⟨fb, hfb⟩ : ∃ fb, fb = evB sh k0_ k1_ k2_ k3_ k4_ k5_ k6_ 0 := ⟨_, rfl⟩
    rw [← hfb] at HOk
    have HFb := hideIt hfb
    clear hfb
    refine wp_region_held_drew (S := fun u => BxA u bE 57 #[.int .i64 k0_, .int .i64 k1_, .int .i64 k2_, .int .i64 k3_, .int .i64 k4_, .int .i64 k5_, .int .i64 k6_, .bool true, .slice none 0 0]) (by kernel_rfl) (HX6.out.up (Below.refl _ _).drew) (fun hHeld => ?_)
    refine wpAnyH_take (i := 0) (v := .agg #[.int .i64 k0_, .int .i64 k1_, .int .i64 k2_, .int .i64 k3_, .int .i64 k4_, .int .i64 k5_, .int .i64 k6_, .bool true, .slice none 0 0]) rfl (by kernel_rfl) (by kernel_rfl) (by kernel_rfl) (fun _ _ _ h => h) (yieldsIf_load_mid (by kernel_rfl) 57 (.tmp 7) rfl bE 0 rfl [.int .i64 k0_, .int .i64 k1_, .int .i64 k2_, .int .i64 k3_, .int .i64 k4_, .int .i64 k5_, .int .i64 k6_, .bool true, .slice none 0 0] _ (fun _ h => BxA.range (l := [.int .i64 k0_, .int .i64 k1_, .int .i64 k2_, .int .i64 k3_, .int .i64 k4_, .int .i64 k5_, .int .i64 k6_, .bool true, .slice none 0 0]) h) Tryd.underlying57 rfl (by kernel_rfl)) (by assumption) ?_
    try simp only [Act.put, List.getElem_toArray, List.getElem_cons_zero, List.setIfInBounds_toArray, List.set_cons_zero, List.set_cons_succ]
    refine wpAnyH_take (i := 1) (v := ?_) rfl (by kernel_rfl) (by kernel_rfl) (by kernel_rfl) (fun _ _ _ h => h) (Or.inl ⟨by rfl, ?_⟩) (by assumption) ?_
    rotate_left
    · intro w hSw; (try dsimp only at hSw); go_simp; try with_reducible rfl
    try simp only [Act.put, List.getElem_toArray, List.getElem_cons_succ, List.getElem_cons_zero, List.setIfInBounds_toArray, List.set_cons_zero, List.set_cons_succ]
    refine wpAnyH_take (i := 2) (v := ?_) rfl (by kernel_rfl) (by kernel_rfl) (by kernel_rfl) (fun _ _ _ h => h) (Or.inl ⟨by rfl, ?_⟩) (by assumption) ?_
    rotate_left
    · intro w hSw; (try dsimp only at hSw); go_simp; try with_reducible rfl
    try simp only [Act.put, List.getElem_toArray, List.getElem_cons_succ, List.getElem_cons_zero, List.setIfInBounds_toArray, List.set_cons_zero, List.set_cons_succ]
    refine wpAnyH_take (i := 3) (v := ?_) rfl (by kernel_rfl) (by kernel_rfl) (by kernel_rfl) (fun _ _ _ h => h) (Or.inl ⟨by rfl, ?_⟩) (by assumption) ?_
    rotate_left
    · intro w hSw; (try dsimp only at hSw); go_simp; try with_reducible rfl
    try simp only [Act.put, List.getElem_toArray, List.getElem_cons_succ, List.getElem_cons_zero, List.setIfInBounds_toArray, List.set_cons_zero, List.set_cons_succ]
    refine wpAnyH_take (i := 4) (v := .agg #[.int .i64 k0_, .int .i64 k1_, .int .i64 k2_, .int .i64 k3_, .int .i64 k4_, .int .i64 k5_, .int .i64 k6_, .bool true, .slice none 0 0]) rfl (by kernel_rfl) (by kernel_rfl) (by kernel_rfl) (fun _ _ _ h => h) (yieldsIf_load_mid (by kernel_rfl) 57 (.tmp 7) rfl bE 0 rfl [.int .i64 k0_, .int .i64 k1_, .int .i64 k2_, .int .i64 k3_, .int .i64 k4_, .int .i64 k5_, .int .i64 k6_, .bool true, .slice none 0 0] _ (fun _ h => BxA.range (l := [.int .i64 k0_, .int .i64 k1_, .int .i64 k2_, .int .i64 k3_, .int .i64 k4_, .int .i64 k5_, .int .i64 k6_, .bool true, .slice none 0 0]) h) Tryd.underlying57 rfl (by kernel_rfl)) (by assumption) ?_
    try simp only [Act.put, List.getElem_toArray, List.getElem_cons_succ, List.getElem_cons_zero, List.setIfInBounds_toArray, List.set_cons_zero, List.set_cons_succ]
    refine wpAnyH_ready (rs := [5]) (by kernel_rfl) (by simp) ?_
    refine AllReadyH.cons rfl (fun K hK => ?_) AllReadyH.nil
    rw [if_pos]
    rotate_left
    · kernel_rfl
    go_wp2_with (go_at_call 24; refine (HOk.out W6.drew).mono ?_; rintro e w7 ⟨rfl, b7⟩; refine Hid.out ?_)
    refine hidw ?_
    have B7 : Below W.heap.size W w7 := by first | exact (HB6.out.drew).trans (b7.mono HB6.out.size) | (rw [b7]; exact HB6.out.drew)
    have X7 : BxA w7 bE 57 #[.int .i64 k0_, .int .i64 k1_, .int .i64 k2_, .int .i64 k3_, .int .i64 k4_, .int .i64 k5_, .int .i64 k6_, .bool true, .slice none 0 0] := by first | exact (HX6.out.up (Below.refl W6.heap.size W6).drew).up b7 | (rw [b7]; exact HX6.out.up (Below.refl W6.heap.size W6).drew)
    refine hK.out _ _ X7 (fun hHeld => ?_)
    clear hK K
    try simp only [List.setIfInBounds_toArray, List.set_cons_zero, List.set_cons_succ]
    refine wpAnyH_take (i := 6) (v := ?_) rfl (by kernel_rfl) (by kernel_rfl) (by kernel_rfl) (fun _ _ _ h => h) (Or.inl ⟨by rfl, ?_⟩) (by assumption) ?_
    rotate_left
    · intro w hSw; (try dsimp only at hSw); go_simp; try with_reducible rfl
    try simp only [Act.put, List.getElem_toArray, List.getElem_cons_succ, List.getElem_cons_zero, List.setIfInBounds_toArray, List.set_cons_zero, List.set_cons_succ]
    refine wpAnyH_ready (rs := [7]) (by kernel_rfl) (by simp) ?_
    refine AllReadyH.cons rfl (fun K hK => ?_) AllReadyH.nil
    rw [if_pos]
    rotate_left
    · kernel_rfl
    have X2 := H0.out.up B7
    have HT := BxA.there (l := [.int .i64 0, .int .i64 0, .int .i64 0, .int .i64 0, .int .i64 0, .int .i64 0, .int .i64 0, .bool false, .slice none 0 0]) X2 (Nat.le_refl _)
    obtain ⟨x9, hx9⟩ : ∃ x9, x9 = setA w7 w.heap.size 0 [.int .i64 k0_, .int .i64 k1_, .int .i64 k2_, .int .i64 k3_, .int .i64 k4_, .int .i64 k5_, .int .i64 k6_, .bool true, .slice none 0 0] := ⟨_, rfl⟩
    have XF := BxA.setA (l := [.int .i64 0, .int .i64 0, .int .i64 0, .int .i64 0, .int .i64 0, .int .i64 0, .int .i64 0, .bool false, .slice none 0 0]) X2 0 [.int .i64 k0_, .int .i64 k1_, .int .i64 k2_, .int .i64 k3_, .int .i64 k4_, .int .i64 k5_, .int .i64 k6_, .bool true, .slice none 0 0]
    rw [setV_all [.int .i64 0, .int .i64 0, .int .i64 0, .int .i64 0, .int .i64 0, .int .i64 0, .int .i64 0, .bool false, .slice none 0 0] [.int .i64 k0_, .int .i64 k1_, .int .i64 k2_, .int .i64 k3_, .int .i64 k4_, .int .i64 k5_, .int .i64 k6_, .bool true, .slice none 0 0] rfl, ← hx9] at XF
    have FB := below_setA (bupN HB.out B7) (Nat.le_refl _) 0 [.int .i64 k0_, .int .i64 k1_, .int .i64 k2_, .int .i64 k3_, .int .i64 k4_, .int .i64 k5_, .int .i64 k6_, .bool true, .slice none 0 0]
    rw [← hx9] at FB
    have XE : BxA x9 bE 57 #[.int .i64 k0_, .int .i64 k1_, .int .i64 k2_, .int .i64 k3_, .int .i64 k4_, .int .i64 k5_, .int .i64 k6_, .bool true, .slice none 0 0] := by rw [hx9]; exact BxA.setAO X7 0 _ HNe.out
    refine wp_store_mid 57 (.tmp 4) (.tmp 28) ?_ w.heap.size 0 #[.int .i64 k0_, .int .i64 k1_, .int .i64 k2_, .int .i64 k3_, .int .i64 k4_, .int .i64 k5_, .int .i64 k6_, .bool true, .slice none 0 0] ?_ ?_ ?_ ?_ ?_ ?_
    · rfl
    · rfl
    · rfl
    · exact HT
    · kernel_rfl
    · kernel_rfl
    rw [setCells_setA]
    rw [show setA w7 w.heap.size 0 (#[.int .i64 k0_, .int .i64 k1_, .int .i64 k2_, .int .i64 k3_, .int .i64 k4_, .int .i64 k5_, .int .i64 k6_, .bool true, .slice none 0 0] : Array Value).toList = x9 from hx9.symm]
    refine hK.out _ _ XE (fun hHeld => ?_)
    clear hK K
    try simp only [List.setIfInBounds_toArray, List.set_cons_zero, List.set_cons_succ]
    clear hx9 HT X2 X7 B7 b7
    refine wpAnyH_ready (rs := [8]) (by kernel_rfl) (by simp) ?_
    refine AllReadyH.cons rfl (fun K hK => ?_) AllReadyH.nil
    go_simp
    refine hK.out _ _ (by assumption) (fun hHeld => ?_)
    clear hK K
    try simp only [List.setIfInBounds_toArray, List.set_cons_zero, List.set_cons_succ]
    refine wpAnyH_done (by kernel_rfl) ?_ _
    clear hHeld XE
    have HXF := hideIt XF
    have HFB := hideIt FB
    clear XF FB
    go_wp2
    refine bodyPost_ret (v := .tuple #[.agg #[.int .i64 k0_, .int .i64 k1_, .int .i64 k2_, .int .i64 k3_, .int .i64 k4_, .int .i64 k5_, .int .i64 k6_, .bool true, .slice none 0 0], .bool fb]) ?_ rfl ⟨HFB.out, k0_, k1_, k2_, k3_, k4_, k5_, k6_, true, fb, rfl, ?_⟩
    · refine results_box (a := 4) (x := 5) (l := [.int .i64 k0_, .int .i64 k1_, .int .i64 k2_, .int .i64 k3_, .int .i64 k4_, .int .i64 k5_, .int .i64 k6_, .bool true, .slice none 0 0]) (b := w.heap.size) (t := 57) ?_ ?_ ?_ ?_ ?_ ?_
      · exact Tryd.results13
      · rfl
      · rfl
      · exact HXF.out
      · exact ⟨_, Tryd.underlying57, rfl⟩
      · kernel_rfl
    · rcases HFl.out with ⟨h1, _⟩ | ⟨_, h1⟩
      · cases h1
      · unfold evC
        rw [HCt.out, h1]
        simp only [Option.map_some, ← HFb.out]
        cases fb
        · exact .inl ⟨rfl, rfl⟩
        · exact .inr ⟨rfl, rfl⟩
set_option maxRecDepth 100000 in
set_option maxHeartbeats 8000000 in
theorem se_alone (sh : Int) (b off c : Nat) (hcap : 1 ≤ c)
    (w : World) (hb : b < w.heap.size) (hc0 : w.cell? ⟨b, off, none⟩ = some (.string cutW)) :
    Calls Tryd.prog 13 #[.int .i64 sh, .slice (some ⟨b, off, none⟩) (1 : Nat) c] w (SeOut sh [cutW] w) := by
  obtain ⟨W, hW⟩ : ∃ W, W = w.alloc (.cells #[.int .i64 0, .int .i64 0, .int .i64 0, .int .i64 0, .int .i64 0, .int .i64 0, .int .i64 0, .bool false, .slice none 0 0] 57) := ⟨_, rfl⟩
  have bW : Below w.heap.size w W := by rw [hW]; exact belA _ _
  have B0 : BxA W w.heap.size 57 #[.int .i64 0, .int .i64 0, .int .i64 0, .int .i64 0, .int .i64 0, .int .i64 0, .int .i64 0, .bool false, .slice none 0 0] := by rw [hW]; exact BxA.new _ _ _
  have lb : b < W.heap.size := Nat.lt_of_lt_of_le hb bW.size
  have k0 : W.cell? ⟨b, off, none⟩ = some (.string ⟨#[99, 117, 116]⟩) := by rw [bW.cell hb]; exact hc0
  have HPl := hideIt (sPlain_any cutW [] 0 rfl (by omega) (by simp) b off c hcap W lb k0 (fun j x hx => by simp at hx))
  have HCt : Hid (evCut [cutW] = (evO [cutW]).map fun v => (v, false)) := by show _ = _; rw [evCut_alone, evO_cut]; rfl
  clear hc0
  have HB := hideIt bW
  have H0 := hideIt B0
  clear B0 bW hb
  go_enter Tryd.func13, Tryd.ntmps13
  go_upto_region 1 with fail
  rw [← hW]
  have lW : w.heap.size < W.heap.size := by rw [hW]; simp
  clear hW
  go_upto_region 4 with fail
  go_wp2_with (go_at_call 23; refine HPl.out.mono ?_; rintro e w4 hw4; obtain ⟨k0_, k1_, k2_, k3_, k4_, k5_, k6_, fl, rfl, b4, hfl⟩ := pl_any hw4; refine Hid.out ?_)
  refine hidw ?_
  obtain ⟨W5, hW5⟩ : ∃ W5, W5 = w4.alloc (.cells #[.int .i64 k0_, .int .i64 k1_, .int .i64 k2_, .int .i64 k3_, .int .i64 k4_, .int .i64 k5_, .int .i64 k6_, .bool false, .slice none 0 0] 57) := ⟨_, rfl⟩
  obtain ⟨bE, hbE⟩ : ∃ bE, bE = w4.heap.size := ⟨_, rfl⟩
  have B5 : Below W.heap.size W W5 := by rw [hW5]; exact b4.alloc b4.size _
  have X5 : BxA W5 bE 57 #[.int .i64 k0_, .int .i64 k1_, .int .i64 k2_, .int .i64 k3_, .int .i64 k4_, .int .i64 k5_, .int .i64 k6_, .bool false, .slice none 0 0] := by rw [hW5, hbE]; exact BxA.new _ _ _
  have lE : W.heap.size ≤ bE := by rw [hbE]; exact b4.size
  have HNe : Hid (bE ≠ w.heap.size) := by show _ ≠ _; omega
  go_upto_region 5 with fail
  rw [← hW5, ← hbE]
  clear hW5 hbE b4 hw4
  have c7 := X5.cell 7 rfl
  have f7 := X5.frozen 7
  obtain ⟨W6, hW6⟩ : ∃ W6, W6 = W5.setCell ⟨bE, 7, none⟩ (.bool false) := ⟨_, rfl⟩
  have HX6 : Hid (BxA W6 bE 57 #[.int .i64 k0_, .int .i64 k1_, .int .i64 k2_, .int .i64 k3_, .int .i64 k4_, .int .i64 k5_, .int .i64 k6_, .bool false, .slice none 0 0]) := by show BxA _ _ _ _; rw [hW6]; exact X5.set 7 _
  have HB6 : Hid (Below W.heap.size W W6) := by show Below _ _ _; rw [hW6]; exact Below.setCell B5 (p := ⟨bE, 7, none⟩) lE _
  have HOk := hideIt (fun u => sEventOk_any sh k0_ k1_ k2_ k3_ k4_ k5_ k6_ false none 0 0 u)
  have HFl := hideIt hfl
  clear X5 B5 lE hfl
  go_upto_region 6 with fail
  rw [← hW6]
  clear hW6 c7 f7
  cases fl with
  | false =>
    refine wp_region_held_drew (S := fun u => BxA u bE 57 #[.int .i64 k0_, .int .i64 k1_, .int .i64 k2_, .int .i64 k3_, .int .i64 k4_, .int .i64 k5_, .int .i64 k6_, .bool false, .slice none 0 0]) (by kernel_rfl) (HX6.out.up (Below.refl _ _).drew) (fun hHeld => ?_)
    refine wpAnyH_take (i := 0) (v := .agg #[.int .i64 k0_, .int .i64 k1_, .int .i64 k2_, .int .i64 k3_, .int .i64 k4_, .int .i64 k5_, .int .i64 k6_, .bool false, .slice none 0 0]) rfl (by kernel_rfl) (by kernel_rfl) (by kernel_rfl) (fun _ _ _ h => h) (yieldsIf_load_mid (by kernel_rfl) 57 (.tmp 7) rfl bE 0 rfl [.int .i64 k0_, .int .i64 k1_, .int .i64 k2_, .int .i64 k3_, .int .i64 k4_, .int .i64 k5_, .int .i64 k6_, .bool false, .slice none 0 0] _ (fun _ h => BxA.range (l := [.int .i64 k0_, .int .i64 k1_, .int .i64 k2_, .int .i64 k3_, .int .i64 k4_, .int .i64 k5_, .int .i64 k6_, .bool false, .slice none 0 0]) h) Tryd.underlying57 rfl (by kernel_rfl)) (by assumption) ?_
    try simp only [Act.put, List.getElem_toArray, List.getElem_cons_zero, List.setIfInBounds_toArray, List.set_cons_zero, List.set_cons_succ]
    refine wpAnyH_take (i := 1) (v := ?_) rfl (by kernel_rfl) (by kernel_rfl) (by kernel_rfl) (fun _ _ _ h => h) (Or.inl ⟨by rfl, ?_⟩) (by assumption) ?_
    rotate_left
    · intro w hSw; (try dsimp only at hSw); go_simp; try with_reducible rfl
    try simp only [Act.put, List.getElem_toArray, List.getElem_cons_succ, List.getElem_cons_zero, List.setIfInBounds_toArray, List.set_cons_zero, List.set_cons_succ]
    refine wpAnyH_take (i := 2) (v := ?_) rfl (by kernel_rfl) (by kernel_rfl) (by kernel_rfl) (fun _ _ _ h => h) (Or.inl ⟨by rfl, ?_⟩) (by assumption) ?_
    rotate_left
    · intro w hSw; (try dsimp only at hSw); go_simp; try with_reducible rfl
    try simp only [Act.put, List.getElem_toArray, List.getElem_cons_succ, List.getElem_cons_zero, List.setIfInBounds_toArray, List.set_cons_zero, List.set_cons_succ]
    refine wpAnyH_take (i := 3) rfl (by kernel_rfl) (by kernel_rfl) (by kernel_rfl) (fun _ _ _ h => h) (Or.inr ⟨by kernel_rfl, rfl⟩) (by assumption) ?_
    try simp only [Act.put, List.getElem_toArray, List.getElem_cons_succ, List.getElem_cons_zero, List.setIfInBounds_toArray, List.set_cons_zero, List.set_cons_succ]
    refine wpAnyH_take (i := 4) rfl (by kernel_rfl) (by kernel_rfl) (by kernel_rfl) (fun _ _ _ h => h) (Or.inr ⟨by kernel_rfl, rfl⟩) (by assumption) ?_
    try simp only [Act.put, List.getElem_toArray, List.getElem_cons_succ, List.getElem_cons_zero, List.setIfInBounds_toArray, List.set_cons_zero, List.set_cons_succ]
    refine wpAnyH_take (i := 5) rfl (by kernel_rfl) (by kernel_rfl) (by kernel_rfl) (fun _ _ _ h => h) (Or.inr ⟨by kernel_rfl, rfl⟩) (by assumption) ?_
    try simp only [Act.put, List.getElem_toArray, List.getElem_cons_succ, List.getElem_cons_zero, List.setIfInBounds_toArray, List.set_cons_zero, List.set_cons_succ]
    have B7 : Below W.heap.size W W6.drew := HB6.out.drew
    have X7 := HX6.out.up (Below.refl W6.heap.size W6).drew
    refine wpAnyH_take (i := 6) (v := ?_) rfl (by kernel_rfl) (by kernel_rfl) (by kernel_rfl) (fun _ _ _ h => h) (Or.inl ⟨by rfl, ?_⟩) (by assumption) ?_
    rotate_left
    · intro w hSw; (try dsimp only at hSw); go_simp; try with_reducible rfl
    try simp only [Act.put, List.getElem_toArray, List.getElem_cons_succ, List.getElem_cons_zero, List.setIfInBounds_toArray, List.set_cons_zero, List.set_cons_succ]
    refine wpAnyH_ready (rs := [7]) (by kernel_rfl) (by simp) ?_
    refine AllReadyH.cons rfl (fun K hK => ?_) AllReadyH.nil
    rw [if_pos]
    rotate_left
    · kernel_rfl
    have X2 := H0.out.up B7
    have HT := BxA.there (l := [.int .i64 0, .int .i64 0, .int .i64 0, .int .i64 0, .int .i64 0, .int .i64 0, .int .i64 0, .bool false, .slice none 0 0]) X2 (Nat.le_refl _)
    obtain ⟨x9, hx9⟩ : ∃ x9, x9 = setA W6.drew w.heap.size 0 [.int .i64 k0_, .int .i64 k1_, .int .i64 k2_, .int .i64 k3_, .int .i64 k4_, .int .i64 k5_, .int .i64 k6_, .bool false, .slice none 0 0] := ⟨_, rfl⟩
    have XF := BxA.setA (l := [.int .i64 0, .int .i64 0, .int .i64 0, .int .i64 0, .int .i64 0, .int .i64 0, .int .i64 0, .bool false, .slice none 0 0]) X2 0 [.int .i64 k0_, .int .i64 k1_, .int .i64 k2_, .int .i64 k3_, .int .i64 k4_, .int .i64 k5_, .int .i64 k6_, .bool false, .slice none 0 0]
    rw [setV_all [.int .i64 0, .int .i64 0, .int .i64 0, .int .i64 0, .int .i64 0, .int .i64 0, .int .i64 0, .bool false, .slice none 0 0] [.int .i64 k0_, .int .i64 k1_, .int .i64 k2_, .int .i64 k3_, .int .i64 k4_, .int .i64 k5_, .int .i64 k6_, .bool false, .slice none 0 0] rfl, ← hx9] at XF
    have FB := below_setA (bupN HB.out B7) (Nat.le_refl _) 0 [.int .i64 k0_, .int .i64 k1_, .int .i64 k2_, .int .i64 k3_, .int .i64 k4_, .int .i64 k5_, .int .i64 k6_, .bool false, .slice none 0 0]
    rw [← hx9] at FB
    have XE : BxA x9 bE 57 #[.int .i64 k0_, .int .i64 k1_, .int .i64 k2_, .int .i64 k3_, .int .i64 k4_, .int .i64 k5_, .int .i64 k6_, .bool false, .slice none 0 0] := by rw [hx9]; exact BxA.setAO X7 0 _ HNe.out
    refine wp_store_mid 57 (.tmp 4) (.tmp 28) ?_ w.heap.size 0 #[.int .i64 k0_, .int .i64 k1_, .int .i64 k2_, .int .i64 k3_, .int .i64 k4_, .int .i64 k5_, .int .i64 k6_, .bool false, .slice none 0 0] ?_ ?_ ?_ ?_ ?_ ?_
    · rfl
    · rfl
    · rfl
    · exact HT
    · kernel_rfl
    · kernel_rfl
    rw [setCells_setA]
    rw [show setA W6.drew w.heap.size 0 (#[.int .i64 k0_, .int .i64 k1_, .int .i64 k2_, .int .i64 k3_, .int .i64 k4_, .int .i64 k5_, .int .i64 k6_, .bool false, .slice none 0 0] : Array Value).toList = x9 from hx9.symm]
    refine hK.out _ _ XE (fun hHeld => ?_)
    clear hK K
    try simp only [List.setIfInBounds_toArray, List.set_cons_zero, List.set_cons_succ]
    clear hx9 HT X2 X7 B7 
    refine wpAnyH_ready (rs := [8]) (by kernel_rfl) (by simp) ?_
    refine AllReadyH.cons rfl (fun K hK => ?_) AllReadyH.nil
    go_simp
    refine hK.out _ _ (by assumption) (fun hHeld => ?_)
    clear hK K
    try simp only [List.setIfInBounds_toArray, List.set_cons_zero, List.set_cons_succ]
    refine wpAnyH_done (by kernel_rfl) ?_ _
    clear hHeld XE
    have HXF := hideIt XF
    have HFB := hideIt FB
    clear XF FB
    go_wp2
    refine bodyPost_ret (v := .tuple #[.agg #[.int .i64 k0_, .int .i64 k1_, .int .i64 k2_, .int .i64 k3_, .int .i64 k4_, .int .i64 k5_, .int .i64 k6_, .bool false, .slice none 0 0], .bool false]) ?_ rfl ⟨HFB.out, k0_, k1_, k2_, k3_, k4_, k5_, k6_, false, false, rfl, ?_⟩
    · refine results_box (a := 4) (x := 5) (l := [.int .i64 k0_, .int .i64 k1_, .int .i64 k2_, .int .i64 k3_, .int .i64 k4_, .int .i64 k5_, .int .i64 k6_, .bool false, .slice none 0 0]) (b := w.heap.size) (t := 57) ?_ ?_ ?_ ?_ ?_ ?_
      · exact Tryd.results13
      · rfl
      · rfl
      · exact HXF.out
      · exact ⟨_, Tryd.underlying57, rfl⟩
      · kernel_rfl
    · refine .inl ⟨rfl, ?_⟩
      rcases HFl.out with ⟨_, h1⟩ | ⟨h1, _⟩
      · unfold evC
        rw [HCt.out, h1]
        rfl
      · cases h1
  | true =>
    obtain ⟨fb, hfb⟩ : ∃ fb, fb = evB sh k0_ k1_ k2_ k3_ k4_ k5_ k6_ 0 := ⟨_, rfl⟩
    rw [← hfb] at HOk
    have HFb := hideIt hfb
    clear hfb
    refine wp_region_held_drew (S := fun u => BxA u bE 57 #[.int .i64 k0_, .int .i64 k1_, .int .i64 k2_, .int .i64 k3_, .int .i64 k4_, .int .i64 k5_, .int .i64 k6_, .bool false, .slice none 0 0]) (by kernel_rfl) (HX6.out.up (Below.refl _ _).drew) (fun hHeld => ?_)
    refine wpAnyH_take (i := 0) (v := .agg #[.int .i64 k0_, .int .i64 k1_, .int .i64 k2_, .int .i64 k3_, .int .i64 k4_, .int .i64 k5_, .int .i64 k6_, .bool false, .slice none 0 0]) rfl (by kernel_rfl) (by kernel_rfl) (by kernel_rfl) (fun _ _ _ h => h) (yieldsIf_load_mid (by kernel_rfl) 57 (.tmp 7) rfl bE 0 rfl [.int .i64 k0_, .int .i64 k1_, .int .i64 k2_, .int .i64 k3_, .int .i64 k4_, .int .i64 k5_, .int .i64 k6_, .bool false, .slice none 0 0] _ (fun _ h => BxA.range (l := [.int .i64 k0_, .int .i64 k1_, .int .i64 k2_, .int .i64 k3_, .int .i64 k4_, .int .i64 k5_, .int .i64 k6_, .bool false, .slice none 0 0]) h) Tryd.underlying57 rfl (by kernel_rfl)) (by assumption) ?_
    try simp only [Act.put, List.getElem_toArray, List.getElem_cons_zero, List.setIfInBounds_toArray, List.set_cons_zero, List.set_cons_succ]
    refine wpAnyH_take (i := 1) (v := ?_) rfl (by kernel_rfl) (by kernel_rfl) (by kernel_rfl) (fun _ _ _ h => h) (Or.inl ⟨by rfl, ?_⟩) (by assumption) ?_
    rotate_left
    · intro w hSw; (try dsimp only at hSw); go_simp; try with_reducible rfl
    try simp only [Act.put, List.getElem_toArray, List.getElem_cons_succ, List.getElem_cons_zero, List.setIfInBounds_toArray, List.set_cons_zero, List.set_cons_succ]
    refine wpAnyH_take (i := 2) (v := ?_) rfl (by kernel_rfl) (by kernel_rfl) (by kernel_rfl) (fun _ _ _ h => h) (Or.inl ⟨by rfl, ?_⟩) (by assumption) ?_
    rotate_left
    · intro w hSw; (try dsimp only at hSw); go_simp; try with_reducible rfl
    try simp only [Act.put, List.getElem_toArray, List.getElem_cons_succ, List.getElem_cons_zero, List.setIfInBounds_toArray, List.set_cons_zero, List.set_cons_succ]
    refine wpAnyH_take (i := 3) (v := ?_) rfl (by kernel_rfl) (by kernel_rfl) (by kernel_rfl) (fun _ _ _ h => h) (Or.inl ⟨by rfl, ?_⟩) (by assumption) ?_
    rotate_left
    · intro w hSw; (try dsimp only at hSw); go_simp; try with_reducible rfl
    try simp only [Act.put, List.getElem_toArray, List.getElem_cons_succ, List.getElem_cons_zero, List.setIfInBounds_toArray, List.set_cons_zero, List.set_cons_succ]
    refine wpAnyH_take (i := 4) (v := .agg #[.int .i64 k0_, .int .i64 k1_, .int .i64 k2_, .int .i64 k3_, .int .i64 k4_, .int .i64 k5_, .int .i64 k6_, .bool false, .slice none 0 0]) rfl (by kernel_rfl) (by kernel_rfl) (by kernel_rfl) (fun _ _ _ h => h) (yieldsIf_load_mid (by kernel_rfl) 57 (.tmp 7) rfl bE 0 rfl [.int .i64 k0_, .int .i64 k1_, .int .i64 k2_, .int .i64 k3_, .int .i64 k4_, .int .i64 k5_, .int .i64 k6_, .bool false, .slice none 0 0] _ (fun _ h => BxA.range (l := [.int .i64 k0_, .int .i64 k1_, .int .i64 k2_, .int .i64 k3_, .int .i64 k4_, .int .i64 k5_, .int .i64 k6_, .bool false, .slice none 0 0]) h) Tryd.underlying57 rfl (by kernel_rfl)) (by assumption) ?_
    try simp only [Act.put, List.getElem_toArray, List.getElem_cons_succ, List.getElem_cons_zero, List.setIfInBounds_toArray, List.set_cons_zero, List.set_cons_succ]
    refine wpAnyH_ready (rs := [5]) (by kernel_rfl) (by simp) ?_
    refine AllReadyH.cons rfl (fun K hK => ?_) AllReadyH.nil
    rw [if_pos]
    rotate_left
    · kernel_rfl
    go_wp2_with (go_at_call 24; refine (HOk.out W6.drew).mono ?_; rintro e w7 ⟨rfl, b7⟩; refine Hid.out ?_)
    refine hidw ?_
    have B7 : Below W.heap.size W w7 := by first | exact (HB6.out.drew).trans (b7.mono HB6.out.size) | (rw [b7]; exact HB6.out.drew)
    have X7 : BxA w7 bE 57 #[.int .i64 k0_, .int .i64 k1_, .int .i64 k2_, .int .i64 k3_, .int .i64 k4_, .int .i64 k5_, .int .i64 k6_, .bool false, .slice none 0 0] := by first | exact (HX6.out.up (Below.refl W6.heap.size W6).drew).up b7 | (rw [b7]; exact HX6.out.up (Below.refl W6.heap.size W6).drew)
    refine hK.out _ _ X7 (fun hHeld => ?_)
    clear hK K
    try simp only [List.setIfInBounds_toArray, List.set_cons_zero, List.set_cons_succ]
    refine wpAnyH_take (i := 6) (v := ?_) rfl (by kernel_rfl) (by kernel_rfl) (by kernel_rfl) (fun _ _ _ h => h) (Or.inl ⟨by rfl, ?_⟩) (by assumption) ?_
    rotate_left
    · intro w hSw; (try dsimp only at hSw); go_simp; try with_reducible rfl
    try simp only [Act.put, List.getElem_toArray, List.getElem_cons_succ, List.getElem_cons_zero, List.setIfInBounds_toArray, List.set_cons_zero, List.set_cons_succ]
    refine wpAnyH_ready (rs := [7]) (by kernel_rfl) (by simp) ?_
    refine AllReadyH.cons rfl (fun K hK => ?_) AllReadyH.nil
    rw [if_pos]
    rotate_left
    · kernel_rfl
    have X2 := H0.out.up B7
    have HT := BxA.there (l := [.int .i64 0, .int .i64 0, .int .i64 0, .int .i64 0, .int .i64 0, .int .i64 0, .int .i64 0, .bool false, .slice none 0 0]) X2 (Nat.le_refl _)
    obtain ⟨x9, hx9⟩ : ∃ x9, x9 = setA w7 w.heap.size 0 [.int .i64 k0_, .int .i64 k1_, .int .i64 k2_, .int .i64 k3_, .int .i64 k4_, .int .i64 k5_, .int .i64 k6_, .bool false, .slice none 0 0] := ⟨_, rfl⟩
    have XF := BxA.setA (l := [.int .i64 0, .int .i64 0, .int .i64 0, .int .i64 0, .int .i64 0, .int .i64 0, .int .i64 0, .bool false, .slice none 0 0]) X2 0 [.int .i64 k0_, .int .i64 k1_, .int .i64 k2_, .int .i64 k3_, .int .i64 k4_, .int .i64 k5_, .int .i64 k6_, .bool false, .slice none 0 0]
    rw [setV_all [.int .i64 0, .int .i64 0, .int .i64 0, .int .i64 0, .int .i64 0, .int .i64 0, .int .i64 0, .bool false, .slice none 0 0] [.int .i64 k0_, .int .i64 k1_, .int .i64 k2_, .int .i64 k3_, .int .i64 k4_, .int .i64 k5_, .int .i64 k6_, .bool false, .slice none 0 0] rfl, ← hx9] at XF
    have FB := below_setA (bupN HB.out B7) (Nat.le_refl _) 0 [.int .i64 k0_, .int .i64 k1_, .int .i64 k2_, .int .i64 k3_, .int .i64 k4_, .int .i64 k5_, .int .i64 k6_, .bool false, .slice none 0 0]
    rw [← hx9] at FB
    have XE : BxA x9 bE 57 #[.int .i64 k0_, .int .i64 k1_, .int .i64 k2_, .int .i64 k3_, .int .i64 k4_, .int .i64 k5_, .int .i64 k6_, .bool false, .slice none 0 0] := by rw [hx9]; exact BxA.setAO X7 0 _ HNe.out
    refine wp_store_mid 57 (.tmp 4) (.tmp 28) ?_ w.heap.size 0 #[.int .i64 k0_, .int .i64 k1_, .int .i64 k2_, .int .i64 k3_, .int .i64 k4_, .int .i64 k5_, .int .i64 k6_, .bool false, .slice none 0 0] ?_ ?_ ?_ ?_ ?_ ?_
    · rfl
    · rfl
    · rfl
    · exact HT
    · kernel_rfl
    · kernel_rfl
    rw [setCells_setA]
    rw [show setA w7 w.heap.size 0 (#[.int .i64 k0_, .int .i64 k1_, .int .i64 k2_, .int .i64 k3_, .int .i64 k4_, .int .i64 k5_, .int .i64 k6_, .bool false, .slice none 0 0] : Array Value).toList = x9 from hx9.symm]
    refine hK.out _ _ XE (fun hHeld => ?_)
    clear hK K
    try simp only [List.setIfInBounds_toArray, List.set_cons_zero, List.set_cons_succ]
    clear hx9 HT X2 X7 B7 b7
    refine wpAnyH_ready (rs := [8]) (by kernel_rfl) (by simp) ?_
    refine AllReadyH.cons rfl (fun K hK => ?_) AllReadyH.nil
    go_simp
    refine hK.out _ _ (by assumption) (fun hHeld => ?_)
    clear hK K
    try simp only [List.setIfInBounds_toArray, List.set_cons_zero, List.set_cons_succ]
    refine wpAnyH_done (by kernel_rfl) ?_ _
    clear hHeld XE
    have HXF := hideIt XF
    have HFB := hideIt FB
    clear XF FB
    go_wp2
    refine bodyPost_ret (v := .tuple #[.agg #[.int .i64 k0_, .int .i64 k1_, .int .i64 k2_, .int .i64 k3_, .int .i64 k4_, .int .i64 k5_, .int .i64 k6_, .bool false, .slice none 0 0], .bool fb]) ?_ rfl ⟨HFB.out, k0_, k1_, k2_, k3_, k4_, k5_, k6_, false, fb, rfl, ?_⟩
    · refine results_box (a := 4) (x := 5) (l := [.int .i64 k0_, .int .i64 k1_, .int .i64 k2_, .int .i64 k3_, .int .i64 k4_, .int .i64 k5_, .int .i64 k6_, .bool false, .slice none 0 0]) (b := w.heap.size) (t := 57) ?_ ?_ ?_ ?_ ?_ ?_
      · exact Tryd.results13
      · rfl
      · rfl
      · exact HXF.out
      · exact ⟨_, Tryd.underlying57, rfl⟩
      · kernel_rfl
    · rcases HFl.out with ⟨h1, _⟩ | ⟨_, h1⟩
      · cases h1
      · unfold evC
        rw [HCt.out, h1]
        simp only [Option.map_some, ← HFb.out]
        cases fb
        · exact .inl ⟨rfl, rfl⟩
        · exact .inr ⟨rfl, rfl⟩
end Go.Proofs.YtgdlpmmbeacejaaDoor
