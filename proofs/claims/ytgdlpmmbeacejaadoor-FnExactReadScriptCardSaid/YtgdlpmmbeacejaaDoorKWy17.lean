/- WorldNew where a world is: the specification's walk. -/
import Derived.Test.YtgdlpmmbeacejaaDoorKWu17
import Derived.Test.YtgdlpmmbeacejaaDoorKShLaw10
namespace Go.Proofs.YtgdlpmmbeacejaaDoor
open Go.RowKit

set_option maxRecDepth 100000 in
set_option maxHeartbeats 16000000 in
theorem sWorldNew_yes (nn s : Nat) (hn : 1 ≤ nn ∧ nn ≤ 12) (hs : 1 ≤ s ∧ s ≤ 3) (w : World) : Calls Tryd.prog 12 #[.int .i64 (nn : Int), .int .i64 (s : Int)] w fun e w' => WnA w (nn : Int) (s : Int) e w' := by
  obtain ⟨W, hW⟩ : ∃ W, W = w.alloc (.cells #[.int .i64 0, .int .i64 0, .slice none 0 0, .slice none 0 0, .slice none 0 0, .slice none 0 0, .int .i64 0, .int .i64 0, .int .i64 0, .int .i64 0, .int .i64 0, .int .i64 0, .int .i64 0, .slice none 0 0, .int .i64 0, .slice none 0 0, .slice none 0 0, .slice none 0 0, .slice none 0 0, .slice none 0 0, .slice none 0 0, .slice none 0 0] 53) := ⟨_, rfl⟩
  have B0 : BxA W w.heap.size 53 #[.int .i64 0, .int .i64 0, .slice none 0 0, .slice none 0 0, .slice none 0 0, .slice none 0 0, .int .i64 0, .int .i64 0, .int .i64 0, .int .i64 0, .int .i64 0, .int .i64 0, .int .i64 0, .slice none 0 0, .int .i64 0, .slice none 0 0, .slice none 0 0, .slice none 0 0, .slice none 0 0, .slice none 0 0, .slice none 0 0, .slice none 0 0] := by rw [hW]; exact BxA.new _ _ _
  have b0 : Below w.heap.size w W := by rw [hW]; exact belA _ _
  have lW : W.heap.size = w.heap.size + 1 := by rw [hW]; simp
  have HI := hideIt (sHeadNew_any (nn : Int) (s : Int) W)
  have h1 : hnB (nn : Int) (s : Int) = true := by unfold hnB; simp; omega
  unfold HnA at HI
  rw [h1] at HI
  have HSh : Hid (∀ k : Nat, 0 < k ∧ k ≤ s → ∀ u, Calls Tryd.prog 22 #[.int .i64 (k : Int), .int .i64 (nn : Int)] u fun e u' => e = .returned (.tuple #[.agg #[.int .i64 (k : Int), .int .i64 (nn : Int), .slice none 0 0, .int .i64 0, .bool false, .slice none 0 0, .slice none 0 0], .bool true]) ∧ Below u.heap.size u u') := fun k hk u => by
    have q := sShardNew_any (k : Int) (nn : Int) u
    have e1 : snB (k : Int) (nn : Int) = true := by unfold snB; simp; omega
    have e2 : snI (k : Int) (nn : Int) = (k : Int) := by unfold snI; rw [if_pos e1]
    have e3 : snN (k : Int) (nn : Int) = (nn : Int) := by unfold snN; rw [if_pos e1]
    rw [e1, e2, e3] at q
    exact q
  obtain ⟨i0, hi, hz0, hz1, hz2⟩ := info_parts infoSh
  obtain ⟨i1, hi1, hy0, hy1, hy2⟩ := info_parts infoBo
  obtain ⟨i2, hi2, hv0, hv1, hv2⟩ := info_parts infoDk
  obtain ⟨m, hm1, hm2⟩ : ∃ m, s < m ∧ m ≤ s + 1 := ⟨s + 1, by omega, by omega⟩
  have hmk : ∀ u : World, (Instr.makeSlice 47 (.int .i64 ((s : Int) + 1)) (.int .i64 ((s : Int) + 1))).run Tryd.prog u =
      .ok (.slice (some ⟨u.heap.size, 0, none⟩) m m) (u.alloc (.cells (madeCells #[.slice none 0 0] m) 161)) := fun u => by
    rw [show (s : Int) + 1 = (m : Int) by omega]
    have h := run_make (P := Tryd.prog) u 47 161 i2 _ Tryd.underlying47 hi2 hv0 .i64 .i64 (m : Int) (m : Int) (by omega) (by omega) (by rw [hv2]; omega) (by omega)
    rw [Int.toNat_natCast] at h
    simpa [hv1, Value.cells] using h
  have hmu : ∀ u : World, (Instr.makeSlice 48 (.int .i64 ((s : Int) + 1)) (.int .i64 ((s : Int) + 1))).run Tryd.prog u =
      .ok (.slice (some ⟨u.heap.size, 0, none⟩) m m) (u.alloc (.cells (madeCells #[.bool false] m) 4)) := fun u => by
    rw [show (s : Int) + 1 = (m : Int) by omega]
    have h := run_make (P := Tryd.prog) u 48 4 i1 _ Tryd.underlying48 hi1 hy0 .i64 .i64 (m : Int) (m : Int) (by omega) (by omega) (by rw [hy2]; omega) (by omega)
    rw [Int.toNat_natCast] at h
    simpa [hy1, Value.cells] using h
  have hwr : IntKind.i64.wrap ((s : Int) + 1) = (s : Int) + 1 := by rw [IntKind.wrap_i64]; omega
  have HH0 := hideIt B0
  have Hb := hideIt b0
  clear B0 b0 h1
  obtain ⟨N, hN⟩ : ∃ N, N = (hnH (nn : Int) (s : Int)).N := ⟨_, rfl⟩
  have HNe : Hid (N = (hnH (nn : Int) (s : Int)).N) := hN
  rw [← hN] at HI
  clear hN
  go_enter Tryd.func12, Tryd.ntmps12
  go_upto_region 1 with fail
  rw [← hW]
  clear hW
  go_wp2_with (go_at_call 21; refine HI.out.mono ?_; rintro e w2 ⟨aO, v, cO, aL, kk, cL, aN, R, rfl, q2, s2, b2⟩; refine Hid.out ?_)
  refine hidw ?_
  obtain ⟨W3, hW3⟩ : ∃ W3, W3 = w2.alloc (.cells #[.int .i64 N, .slice aO v cO, .slice none 0 0, .slice aL kk cL, .slice aN kk kk, .int .i64 0, .int .i64 0, .int .i64 0, .int .i64 0, .int .i64 0, .int .i64 0, .int .i64 0, .slice none 0 0, .int .i64 0, .slice none 0 0] 45) := ⟨_, rfl⟩
  have bA : Below w2.heap.size w2 W3 := by rw [hW3]; exact belA _ _
  have b3 : Below W.heap.size W W3 := b2.trans (bA.mono b2.size)
  have H03 := hideIt (HH0.out.up b3)
  have Hb3 := hideIt (bupN Hb.out b3)
  have HK3 := hideIt ((q2.hk s2).up bA)
  have HRt : Hid (rts R = (hnH (nn : Int) (s : Int)).lab) := q2.r
  have HH2 : Hid (w2.heap.size ≤ W3.heap.size) := bA.size
  have HW2 : Hid (w.heap.size < w2.heap.size) := by have := b2.size; show _ < _; omega
  have HWl : Hid (w.heap.size ≤ w2.heap.size) := Nat.le_of_lt HW2.out
  have HW1 : Hid (w.heap.size < W.heap.size) := by show _ < _; omega
  have X3 : BxA W3 w2.heap.size 45 #[.int .i64 N, .slice aO v cO, .slice none 0 0, .slice aL kk cL, .slice aN kk kk, .int .i64 0, .int .i64 0, .int .i64 0, .int .i64 0, .int .i64 0, .int .i64 0, .int .i64 0, .slice none 0 0, .int .i64 0, .slice none 0 0] := by rw [hW3]; exact BxA.new _ _ _
  have hS3 : W3.drew.rangeAt w2.heap.size 0 [.int .i64 N, .slice aO v cO, .slice none 0 0, .slice aL kk cL, .slice aN kk kk, .int .i64 0, .int .i64 0, .int .i64 0, .int .i64 0, .int .i64 0, .int .i64 0, .int .i64 0, .slice none 0 0, .int .i64 0, .slice none 0 0] := by rw [World.rangeAt_drew]; exact X3.range
  have HC : Hid (∀ u, Good W3 u → u.rangeAt w2.heap.size 0 [.int .i64 N, .slice aO v cO, .slice none 0 0, .slice aL kk cL, .slice aN kk kk, .int .i64 0, .int .i64 0, .int .i64 0, .int .i64 0, .int .i64 0, .int .i64 0, .int .i64 0, .slice none 0 0, .int .i64 0, .slice none 0 0]) := fun u hu => BxA.range (X3.up hu)
  have hb3 := X3.lt
  clear X3 HI HH0 Hb q2 s2 b2 bA b3 lW
  go_upto_region 4 with fail
  rw [← hW3]
  clear hW3
  apply viaT
  intro t4_7_8_9_
  apply viaT
  intro t4_7_9_
  apply viaT
  intro t4_7_8_
  apply viaT
  intro t4_7_
  apply viaT
  intro t7_9_
  apply viaT
  intro t4_9_
  apply viaT
  intro t7_
  apply viaT
  intro t4_
  apply viaT
  intro t9_
  focus (
  refine wp_region_held_drew (S := (fun u => u.rangeAt w2.heap.size 0 [.int .i64 N, .slice aO v cO, .slice none 0 0, .slice aL kk cL, .slice aN kk kk, .int .i64 0, .int .i64 0, .int .i64 0, .int .i64 0, .int .i64 0, .int .i64 0, .int .i64 0, .slice none 0 0, .int .i64 0, .slice none 0 0])) (by kernel_rfl) hS3 (fun hHeld => ?_)
  refine wpAnyH_take (i := 0) (v := ?_) rfl (by kernel_rfl) (by kernel_rfl) (by kernel_rfl) (fun _ _ _ h => h) (Or.inl ⟨by rfl, ?_⟩) (by assumption) ?_
  rotate_left
  · intro w hSw; (try dsimp only at hSw); go_simp; try with_reducible rfl
  try simp only [Act.put, List.getElem_toArray, List.getElem_cons_zero, List.setIfInBounds_toArray, List.set_cons_zero, List.set_cons_succ]
  refine wpAnyH_take (i := 1) (v := .agg #[.int .i64 N, .slice aO v cO, .slice none 0 0, .slice aL kk cL, .slice aN kk kk, .int .i64 0, .int .i64 0, .int .i64 0, .int .i64 0, .int .i64 0, .int .i64 0, .int .i64 0, .slice none 0 0, .int .i64 0, .slice none 0 0]) rfl (by kernel_rfl) (by kernel_rfl) (by kernel_rfl) (fun _ _ _ h => h) (yieldsIf_load_mid (by rfl) 45 (.tmp 6) rfl w2.heap.size 0 rfl [.int .i64 N, .slice aO v cO, .slice none 0 0, .slice aL kk cL, .slice aN kk kk, .int .i64 0, .int .i64 0, .int .i64 0, .int .i64 0, .int .i64 0, .int .i64 0, .int .i64 0, .slice none 0 0, .int .i64 0, .slice none 0 0] _ (fun _ h => h) Tryd.underlying45 rfl (by kernel_rfl)) (by assumption) ?_
  try simp only [Act.put, List.getElem_toArray, List.getElem_cons_succ, List.getElem_cons_zero, List.setIfInBounds_toArray, List.set_cons_zero, List.set_cons_succ]
  refine wpAnyH_take (i := 2) (v := ?_) rfl (by kernel_rfl) (by kernel_rfl) (by kernel_rfl) (fun _ _ _ h => h) (Or.inl ⟨by rfl, ?_⟩) (by assumption) ?_
  rotate_left
  · intro w hSw; (try dsimp only at hSw); go_simp; try with_reducible rfl
  try simp only [Act.put, List.getElem_toArray, List.getElem_cons_succ, List.getElem_cons_zero, List.setIfInBounds_toArray, List.set_cons_zero, List.set_cons_succ]
  refine wpAnyH_take (i := 3) (v := ?_) rfl (by kernel_rfl) (by kernel_rfl) (by kernel_rfl) (fun _ _ _ h => h) (Or.inl ⟨by rfl, ?_⟩) (by assumption) ?_
  rotate_left
  · intro w hSw; (try dsimp only at hSw); go_simp; try with_reducible rfl
  try simp only [Act.put, List.getElem_toArray, List.getElem_cons_succ, List.getElem_cons_zero, List.setIfInBounds_toArray, List.set_cons_zero, List.set_cons_succ]
  refine wpAnyH_take (i := 5) (v := ?_) rfl (by kernel_rfl) (by kernel_rfl) (by kernel_rfl) (fun _ _ _ h => h) (Or.inl ⟨by rfl, ?_⟩) (by assumption) ?_
  rotate_left
  · intro w hSw; (try dsimp only at hSw); go_simp; try with_reducible rfl
  try simp only [Act.put, List.getElem_toArray, List.getElem_cons_succ, List.getElem_cons_zero, List.setIfInBounds_toArray, List.set_cons_zero, List.set_cons_succ]
  refine wpAnyH_take (i := 6) (v := ?_) rfl (by kernel_rfl) (by kernel_rfl) (by kernel_rfl) (fun _ _ _ h => h) (Or.inl ⟨by rfl, ?_⟩) (by assumption) ?_
  rotate_left
  · intro w hSw; (try dsimp only at hSw); go_simp; try with_reducible rfl
  try simp only [Act.put, List.getElem_toArray, List.getElem_cons_succ, List.getElem_cons_zero, List.setIfInBounds_toArray, List.set_cons_zero, List.set_cons_succ]
  obtain ⟨y, hy⟩ : ∃ y, y = W3.drew := ⟨_, rfl⟩
  have GU : Good W3 y := by rw [hy]; exact (Good.refl _).drew
  rw [← hy]
  clear hy hHeld
  refine wpAnyH_ready (rs := [4, 7, 9]) (by kernel_rfl) (by simp) ?_
  refine AllReadyH.cons rfl (fun K hK => ?_) (AllReadyH.cons rfl (fun K hK => ?_) (AllReadyH.cons rfl (fun K hK => ?_) AllReadyH.nil))
  focus (
  go_simp
  refine hK.out _ _ (HC.out _ (GU.alloc _)) (fun hHeld => ?_)
  clear hK K
  try simp only [Act.put, List.getElem_toArray, List.getElem_cons_succ, List.getElem_cons_zero, List.setIfInBounds_toArray, List.set_cons_zero, List.set_cons_succ]
  obtain ⟨z, hz⟩ : ∃ z, z = y.alloc (.cells (madeCells #[.bool false] m) 4) := ⟨_, rfl⟩
  have gg : Below y.heap.size y z := by rw [hz]; exact (Below.refl _ _).alloc (Nat.le_refl _) _
  have FU : z.ownsRow w2.heap.size 4 1 (.slice (some ⟨y.heap.size, 0, none⟩) m m) m (List.replicate m (.bool false)) := by
    rw [hz, ← made1]
    exact World.ownsRow_lit y _ m (Nat.le_trans HH2.out GU.size) (by unfold maxLen; omega) (by simp [madeCells])
  replace GU := Good.up GU gg
  rw [← hz]
  clear hz gg hHeld
  generalize y.heap.size = gU at *
  refine lstH (l' := #[true, true, true, true, true, true, true, false, false, false, false]) (by kernel_rfl) ?_
  have F := And.intro GU FU
  clear GU FU
  revert F
  revert gU
  revert z
  exact t4_.out
  )
  focus (
  go_simp
  refine hK.out _ _ (HC.out _ (GU.alloc _)) (fun hHeld => ?_)
  clear hK K
  try simp only [Act.put, List.getElem_toArray, List.getElem_cons_succ, List.getElem_cons_zero, List.setIfInBounds_toArray, List.set_cons_zero, List.set_cons_succ]
  obtain ⟨z, hz⟩ : ∃ z, z = y.alloc (.cells (madeCells #[.slice none 0 0] m) 161) := ⟨_, rfl⟩
  have gg : Below y.heap.size y z := by rw [hz]; exact (Below.refl _ _).alloc (Nat.le_refl _) _
  have FD : z.ownsRow w2.heap.size 161 1 (.slice (some ⟨y.heap.size, 0, none⟩) m m) m (List.replicate m (.slice none 0 0)) := by
    rw [hz, ← made1]
    exact World.ownsRow_lit y _ m (Nat.le_trans HH2.out GU.size) (by unfold maxLen; omega) (by simp [madeCells])
  replace GU := Good.up GU gg
  rw [← hz]
  clear hz gg hHeld
  generalize y.heap.size = gD at *
  refine lstH (l' := #[true, true, true, true, false, true, true, true, false, false, false]) (by kernel_rfl) ?_
  have F := And.intro GU FD
  clear GU FD
  revert F
  revert gD
  revert z
  exact t7_.out
  )
  focus (
  go_simp
  refine hK.out _ _ (HC.out _ (GU.alloc _)) (fun hHeld => ?_)
  clear hK K
  try simp only [Act.put, List.getElem_toArray, List.getElem_cons_succ, List.getElem_cons_zero, List.setIfInBounds_toArray, List.set_cons_zero, List.set_cons_succ]
  obtain ⟨z, hz⟩ : ∃ z, z = y.alloc (.cells #[.int .i64 0, .int .i64 0, .slice none 0 0, .slice none 0 0, .slice none 0 0, .slice none 0 0, .int .i64 0, .int .i64 0, .int .i64 0, .int .i64 0, .int .i64 0, .int .i64 0, .int .i64 0, .slice none 0 0, .int .i64 0, .slice none 0 0, .slice none 0 0, .slice none 0 0, .slice none 0 0, .slice none 0 0, .slice none 0 0, .slice none 0 0] 53) := ⟨_, rfl⟩
  have gg : Below y.heap.size y z := by rw [hz]; exact (Below.refl _ _).alloc (Nat.le_refl _) _
  have FB8 : BxA z y.heap.size 53 #[.int .i64 0, .int .i64 0, .slice none 0 0, .slice none 0 0, .slice none 0 0, .slice none 0 0, .int .i64 0, .int .i64 0, .int .i64 0, .int .i64 0, .int .i64 0, .int .i64 0, .int .i64 0, .slice none 0 0, .int .i64 0, .slice none 0 0, .slice none 0 0, .slice none 0 0, .slice none 0 0, .slice none 0 0, .slice none 0 0, .slice none 0 0] ∧ W3.heap.size ≤ y.heap.size := ⟨by rw [hz]; exact BxA.new _ _ _, GU.size⟩
  replace GU := Good.up GU gg
  rw [← hz]
  clear hz gg hHeld
  generalize y.heap.size = b8 at *
  refine lstH (l' := #[true, true, true, true, false, true, true, false, false, true, false]) (by kernel_rfl) ?_
  have F := And.intro GU FB8
  clear GU FB8
  revert F
  revert b8
  revert z
  exact t9_.out
  )
  )
  focus (
  intro y b8 F
  obtain ⟨GU, FB8⟩ := F
  have hHeld := HC.out _ GU
  clear hHeld
  refine wpAnyH_ready (rs := [4, 7]) (by kernel_rfl) (by simp) ?_
  refine AllReadyH.cons rfl (fun K hK => ?_) (AllReadyH.cons rfl (fun K hK => ?_) AllReadyH.nil)
  focus (
  go_simp
  refine hK.out _ _ (HC.out _ (GU.alloc _)) (fun hHeld => ?_)
  clear hK K
  try simp only [List.setIfInBounds_toArray, List.set_cons_zero, List.set_cons_succ]
  obtain ⟨z, hz⟩ : ∃ z, z = y.alloc (.cells (madeCells #[.bool false] m) 4) := ⟨_, rfl⟩
  have gg : Below y.heap.size y z := by rw [hz]; exact (Below.refl _ _).alloc (Nat.le_refl _) _
  have FU : z.ownsRow w2.heap.size 4 1 (.slice (some ⟨y.heap.size, 0, none⟩) m m) m (List.replicate m (.bool false)) := by
    rw [hz, ← made1]
    exact World.ownsRow_lit y _ m (Nat.le_trans HH2.out GU.size) (by unfold maxLen; omega) (by simp [madeCells])
  replace GU := Good.up GU gg
  replace FB8 := And.intro (FB8.1.up gg) FB8.2
  rw [← hz]
  clear hz gg hHeld
  generalize y.heap.size = gU at *
  refine lstH (l' := #[true, true, true, true, true, true, true, false, false, true, false]) (by kernel_rfl) ?_
  have F := And.intro GU (And.intro FU FB8)
  clear GU FU FB8
  revert F
  revert b8
  revert gU
  revert z
  exact t4_9_.out
  )
  focus (
  go_simp
  refine hK.out _ _ (HC.out _ (GU.alloc _)) (fun hHeld => ?_)
  clear hK K
  try simp only [List.setIfInBounds_toArray, List.set_cons_zero, List.set_cons_succ]
  obtain ⟨z, hz⟩ : ∃ z, z = y.alloc (.cells (madeCells #[.slice none 0 0] m) 161) := ⟨_, rfl⟩
  have gg : Below y.heap.size y z := by rw [hz]; exact (Below.refl _ _).alloc (Nat.le_refl _) _
  have FD : z.ownsRow w2.heap.size 161 1 (.slice (some ⟨y.heap.size, 0, none⟩) m m) m (List.replicate m (.slice none 0 0)) := by
    rw [hz, ← made1]
    exact World.ownsRow_lit y _ m (Nat.le_trans HH2.out GU.size) (by unfold maxLen; omega) (by simp [madeCells])
  replace GU := Good.up GU gg
  replace FB8 := And.intro (FB8.1.up gg) FB8.2
  rw [← hz]
  clear hz gg hHeld
  generalize y.heap.size = gD at *
  refine lstH (l' := #[true, true, true, true, false, true, true, true, false, true, false]) (by kernel_rfl) ?_
  have F := And.intro GU (And.intro FD FB8)
  clear GU FD FB8
  revert F
  revert b8
  revert gD
  revert z
  exact t7_9_.out
  )
  )
  focus (
  intro y gU F
  obtain ⟨GU, FU⟩ := F
  have hHeld := HC.out _ GU
  clear hHeld
  refine wpAnyH_ready (rs := [7, 9]) (by kernel_rfl) (by simp) ?_
  refine AllReadyH.cons rfl (fun K hK => ?_) (AllReadyH.cons rfl (fun K hK => ?_) AllReadyH.nil)
  focus (
  go_simp
  refine hK.out _ _ (HC.out _ (GU.alloc _)) (fun hHeld => ?_)
  clear hK K
  try simp only [List.setIfInBounds_toArray, List.set_cons_zero, List.set_cons_succ]
  obtain ⟨z, hz⟩ : ∃ z, z = y.alloc (.cells (madeCells #[.slice none 0 0] m) 161) := ⟨_, rfl⟩
  have gg : Below y.heap.size y z := by rw [hz]; exact (Below.refl _ _).alloc (Nat.le_refl _) _
  have FD : z.ownsRow w2.heap.size 161 1 (.slice (some ⟨y.heap.size, 0, none⟩) m m) m (List.replicate m (.slice none 0 0)) := by
    rw [hz, ← made1]
    exact World.ownsRow_lit y _ m (Nat.le_trans HH2.out GU.size) (by unfold maxLen; omega) (by simp [madeCells])
  replace GU := Good.up GU gg
  replace FU := own_up FU gg
  rw [← hz]
  clear hz gg hHeld
  generalize y.heap.size = gD at *
  refine lstH (l' := #[true, true, true, true, true, true, true, true, false, false, false]) (by kernel_rfl) ?_
  have F := And.intro GU (And.intro FD FU)
  clear GU FD FU
  revert F
  revert gU
  revert gD
  revert z
  exact t4_7_.out
  )
  focus (
  go_simp
  refine hK.out _ _ (HC.out _ (GU.alloc _)) (fun hHeld => ?_)
  clear hK K
  try simp only [List.setIfInBounds_toArray, List.set_cons_zero, List.set_cons_succ]
  obtain ⟨z, hz⟩ : ∃ z, z = y.alloc (.cells #[.int .i64 0, .int .i64 0, .slice none 0 0, .slice none 0 0, .slice none 0 0, .slice none 0 0, .int .i64 0, .int .i64 0, .int .i64 0, .int .i64 0, .int .i64 0, .int .i64 0, .int .i64 0, .slice none 0 0, .int .i64 0, .slice none 0 0, .slice none 0 0, .slice none 0 0, .slice none 0 0, .slice none 0 0, .slice none 0 0, .slice none 0 0] 53) := ⟨_, rfl⟩
  have gg : Below y.heap.size y z := by rw [hz]; exact (Below.refl _ _).alloc (Nat.le_refl _) _
  have FB8 : BxA z y.heap.size 53 #[.int .i64 0, .int .i64 0, .slice none 0 0, .slice none 0 0, .slice none 0 0, .slice none 0 0, .int .i64 0, .int .i64 0, .int .i64 0, .int .i64 0, .int .i64 0, .int .i64 0, .int .i64 0, .slice none 0 0, .int .i64 0, .slice none 0 0, .slice none 0 0, .slice none 0 0, .slice none 0 0, .slice none 0 0, .slice none 0 0, .slice none 0 0] ∧ W3.heap.size ≤ y.heap.size := ⟨by rw [hz]; exact BxA.new _ _ _, GU.size⟩
  replace GU := Good.up GU gg
  replace FU := own_up FU gg
  rw [← hz]
  clear hz gg hHeld
  generalize y.heap.size = b8 at *
  refine lstH (l' := #[true, true, true, true, true, true, true, false, false, true, false]) (by kernel_rfl) ?_
  have F := And.intro GU (And.intro FU FB8)
  clear GU FU FB8
  revert F
  revert b8
  revert gU
  revert z
  exact t4_9_.out
  )
  )
  focus (
  intro y gD F
  obtain ⟨GU, FD⟩ := F
  have hHeld := HC.out _ GU
  clear hHeld
  refine wpAnyH_ready (rs := [4, 9]) (by kernel_rfl) (by simp) ?_
  refine AllReadyH.cons rfl (fun K hK => ?_) (AllReadyH.cons rfl (fun K hK => ?_) AllReadyH.nil)
  focus (
  go_simp
  refine hK.out _ _ (HC.out _ (GU.alloc _)) (fun hHeld => ?_)
  clear hK K
  try simp only [List.setIfInBounds_toArray, List.set_cons_zero, List.set_cons_succ]
  obtain ⟨z, hz⟩ : ∃ z, z = y.alloc (.cells (madeCells #[.bool false] m) 4) := ⟨_, rfl⟩
  have gg : Below y.heap.size y z := by rw [hz]; exact (Below.refl _ _).alloc (Nat.le_refl _) _
  have FU : z.ownsRow w2.heap.size 4 1 (.slice (some ⟨y.heap.size, 0, none⟩) m m) m (List.replicate m (.bool false)) := by
    rw [hz, ← made1]
    exact World.ownsRow_lit y _ m (Nat.le_trans HH2.out GU.size) (by unfold maxLen; omega) (by simp [madeCells])
  replace GU := Good.up GU gg
  replace FD := own_up FD gg
  rw [← hz]
  clear hz gg hHeld
  generalize y.heap.size = gU at *
  refine lstH (l' := #[true, true, true, true, true, true, true, true, false, false, false]) (by kernel_rfl) ?_
  have F := And.intro GU (And.intro FD FU)
  clear GU FD FU
  revert F
  revert gU
  revert gD
  revert z
  exact t4_7_.out
  )
  focus (
  go_simp
  refine hK.out _ _ (HC.out _ (GU.alloc _)) (fun hHeld => ?_)
  clear hK K
  try simp only [List.setIfInBounds_toArray, List.set_cons_zero, List.set_cons_succ]
  obtain ⟨z, hz⟩ : ∃ z, z = y.alloc (.cells #[.int .i64 0, .int .i64 0, .slice none 0 0, .slice none 0 0, .slice none 0 0, .slice none 0 0, .int .i64 0, .int .i64 0, .int .i64 0, .int .i64 0, .int .i64 0, .int .i64 0, .int .i64 0, .slice none 0 0, .int .i64 0, .slice none 0 0, .slice none 0 0, .slice none 0 0, .slice none 0 0, .slice none 0 0, .slice none 0 0, .slice none 0 0] 53) := ⟨_, rfl⟩
  have gg : Below y.heap.size y z := by rw [hz]; exact (Below.refl _ _).alloc (Nat.le_refl _) _
  have FB8 : BxA z y.heap.size 53 #[.int .i64 0, .int .i64 0, .slice none 0 0, .slice none 0 0, .slice none 0 0, .slice none 0 0, .int .i64 0, .int .i64 0, .int .i64 0, .int .i64 0, .int .i64 0, .int .i64 0, .int .i64 0, .slice none 0 0, .int .i64 0, .slice none 0 0, .slice none 0 0, .slice none 0 0, .slice none 0 0, .slice none 0 0, .slice none 0 0, .slice none 0 0] ∧ W3.heap.size ≤ y.heap.size := ⟨by rw [hz]; exact BxA.new _ _ _, GU.size⟩
  replace GU := Good.up GU gg
  replace FD := own_up FD gg
  rw [← hz]
  clear hz gg hHeld
  generalize y.heap.size = b8 at *
  refine lstH (l' := #[true, true, true, true, false, true, true, true, false, true, false]) (by kernel_rfl) ?_
  have F := And.intro GU (And.intro FD FB8)
  clear GU FD FB8
  revert F
  revert b8
  revert gD
  revert z
  exact t7_9_.out
  )
  )
  focus (
  intro y gU b8 F
  obtain ⟨GU, FU, FB8⟩ := F
  have hHeld := HC.out _ GU
  clear hHeld
  refine wpAnyH_ready (rs := [7]) (by kernel_rfl) (by simp) ?_
  refine AllReadyH.cons rfl (fun K hK => ?_) AllReadyH.nil
  focus (
  go_simp
  refine hK.out _ _ (HC.out _ (GU.alloc _)) (fun hHeld => ?_)
  clear hK K
  try simp only [List.setIfInBounds_toArray, List.set_cons_zero, List.set_cons_succ]
  obtain ⟨z, hz⟩ : ∃ z, z = y.alloc (.cells (madeCells #[.slice none 0 0] m) 161) := ⟨_, rfl⟩
  have gg : Below y.heap.size y z := by rw [hz]; exact (Below.refl _ _).alloc (Nat.le_refl _) _
  have FD : z.ownsRow w2.heap.size 161 1 (.slice (some ⟨y.heap.size, 0, none⟩) m m) m (List.replicate m (.slice none 0 0)) := by
    rw [hz, ← made1]
    exact World.ownsRow_lit y _ m (Nat.le_trans HH2.out GU.size) (by unfold maxLen; omega) (by simp [madeCells])
  replace GU := Good.up GU gg
  replace FU := own_up FU gg
  replace FB8 := And.intro (FB8.1.up gg) FB8.2
  rw [← hz]
  clear hz gg hHeld
  generalize y.heap.size = gD at *
  refine lstH (l' := #[true, true, true, true, true, true, true, true, false, true, false]) (by kernel_rfl) ?_
  have F := And.intro GU (And.intro FD (And.intro FU FB8))
  clear GU FD FU FB8
  revert F
  revert b8
  revert gU
  revert gD
  revert z
  exact t4_7_9_.out
  )
  )
  focus (
  intro y gD b8 F
  obtain ⟨GU, FD, FB8⟩ := F
  have hHeld := HC.out _ GU
  clear hHeld
  refine wpAnyH_ready (rs := [4]) (by kernel_rfl) (by simp) ?_
  refine AllReadyH.cons rfl (fun K hK => ?_) AllReadyH.nil
  focus (
  go_simp
  refine hK.out _ _ (HC.out _ (GU.alloc _)) (fun hHeld => ?_)
  clear hK K
  try simp only [List.setIfInBounds_toArray, List.set_cons_zero, List.set_cons_succ]
  obtain ⟨z, hz⟩ : ∃ z, z = y.alloc (.cells (madeCells #[.bool false] m) 4) := ⟨_, rfl⟩
  have gg : Below y.heap.size y z := by rw [hz]; exact (Below.refl _ _).alloc (Nat.le_refl _) _
  have FU : z.ownsRow w2.heap.size 4 1 (.slice (some ⟨y.heap.size, 0, none⟩) m m) m (List.replicate m (.bool false)) := by
    rw [hz, ← made1]
    exact World.ownsRow_lit y _ m (Nat.le_trans HH2.out GU.size) (by unfold maxLen; omega) (by simp [madeCells])
  replace GU := Good.up GU gg
  replace FD := own_up FD gg
  replace FB8 := And.intro (FB8.1.up gg) FB8.2
  rw [← hz]
  clear hz gg hHeld
  generalize y.heap.size = gU at *
  refine lstH (l' := #[true, true, true, true, true, true, true, true, false, true, false]) (by kernel_rfl) ?_
  have F := And.intro GU (And.intro FD (And.intro FU FB8))
  clear GU FD FU FB8
  revert F
  revert b8
  revert gU
  revert gD
  revert z
  exact t4_7_9_.out
  )
  )
  focus (
  intro y gD gU F
  obtain ⟨GU, FD, FU⟩ := F
  have hHeld := HC.out _ GU
  clear hHeld
  refine wpAnyH_ready (rs := [8, 9]) (by kernel_rfl) (by simp) ?_
  refine AllReadyH.cons rfl (fun K hK => ?_) (AllReadyH.cons rfl (fun K hK => ?_) AllReadyH.nil)
  focus (
  go_simp
  refine hK.out _ _ (HC.out _ GU) (fun hHeld => ?_)
  clear hK K
  try simp only [List.setIfInBounds_toArray, List.set_cons_zero, List.set_cons_succ]
  clear hHeld
  refine lstH (l' := #[true, true, true, true, true, true, true, true, true, false, false]) (by kernel_rfl) ?_
  have F := And.intro GU (And.intro FD FU)
  clear GU FD FU
  revert F
  revert gU
  revert gD
  revert y
  exact t4_7_8_.out
  )
  focus (
  go_simp
  refine hK.out _ _ (HC.out _ (GU.alloc _)) (fun hHeld => ?_)
  clear hK K
  try simp only [List.setIfInBounds_toArray, List.set_cons_zero, List.set_cons_succ]
  obtain ⟨z, hz⟩ : ∃ z, z = y.alloc (.cells #[.int .i64 0, .int .i64 0, .slice none 0 0, .slice none 0 0, .slice none 0 0, .slice none 0 0, .int .i64 0, .int .i64 0, .int .i64 0, .int .i64 0, .int .i64 0, .int .i64 0, .int .i64 0, .slice none 0 0, .int .i64 0, .slice none 0 0, .slice none 0 0, .slice none 0 0, .slice none 0 0, .slice none 0 0, .slice none 0 0, .slice none 0 0] 53) := ⟨_, rfl⟩
  have gg : Below y.heap.size y z := by rw [hz]; exact (Below.refl _ _).alloc (Nat.le_refl _) _
  have FB8 : BxA z y.heap.size 53 #[.int .i64 0, .int .i64 0, .slice none 0 0, .slice none 0 0, .slice none 0 0, .slice none 0 0, .int .i64 0, .int .i64 0, .int .i64 0, .int .i64 0, .int .i64 0, .int .i64 0, .int .i64 0, .slice none 0 0, .int .i64 0, .slice none 0 0, .slice none 0 0, .slice none 0 0, .slice none 0 0, .slice none 0 0, .slice none 0 0, .slice none 0 0] ∧ W3.heap.size ≤ y.heap.size := ⟨by rw [hz]; exact BxA.new _ _ _, GU.size⟩
  replace GU := Good.up GU gg
  replace FD := own_up FD gg
  replace FU := own_up FU gg
  rw [← hz]
  clear hz gg hHeld
  generalize y.heap.size = b8 at *
  refine lstH (l' := #[true, true, true, true, true, true, true, true, false, true, false]) (by kernel_rfl) ?_
  have F := And.intro GU (And.intro FD (And.intro FU FB8))
  clear GU FD FU FB8
  revert F
  revert b8
  revert gU
  revert gD
  revert z
  exact t4_7_9_.out
  )
  )
  focus (
  intro y gD gU F
  obtain ⟨GU, FD, FU⟩ := F
  have hHeld := HC.out _ GU
  clear hHeld
  refine wpAnyH_ready (rs := [9]) (by kernel_rfl) (by simp) ?_
  refine AllReadyH.cons rfl (fun K hK => ?_) AllReadyH.nil
  focus (
  go_simp
  refine hK.out _ _ (HC.out _ (GU.alloc _)) (fun hHeld => ?_)
  clear hK K
  try simp only [List.setIfInBounds_toArray, List.set_cons_zero, List.set_cons_succ]
  obtain ⟨z, hz⟩ : ∃ z, z = y.alloc (.cells #[.int .i64 0, .int .i64 0, .slice none 0 0, .slice none 0 0, .slice none 0 0, .slice none 0 0, .int .i64 0, .int .i64 0, .int .i64 0, .int .i64 0, .int .i64 0, .int .i64 0, .int .i64 0, .slice none 0 0, .int .i64 0, .slice none 0 0, .slice none 0 0, .slice none 0 0, .slice none 0 0, .slice none 0 0, .slice none 0 0, .slice none 0 0] 53) := ⟨_, rfl⟩
  have gg : Below y.heap.size y z := by rw [hz]; exact (Below.refl _ _).alloc (Nat.le_refl _) _
  have FB8 : BxA z y.heap.size 53 #[.int .i64 0, .int .i64 0, .slice none 0 0, .slice none 0 0, .slice none 0 0, .slice none 0 0, .int .i64 0, .int .i64 0, .int .i64 0, .int .i64 0, .int .i64 0, .int .i64 0, .int .i64 0, .slice none 0 0, .int .i64 0, .slice none 0 0, .slice none 0 0, .slice none 0 0, .slice none 0 0, .slice none 0 0, .slice none 0 0, .slice none 0 0] ∧ W3.heap.size ≤ y.heap.size := ⟨by rw [hz]; exact BxA.new _ _ _, GU.size⟩
  replace GU := Good.up GU gg
  replace FD := own_up FD gg
  replace FU := own_up FU gg
  rw [← hz]
  clear hz gg hHeld
  generalize y.heap.size = b8 at *
  refine lstH (l' := #[true, true, true, true, true, true, true, true, true, true, false]) (by kernel_rfl) ?_
  have F := And.intro GU (And.intro FD (And.intro FU FB8))
  clear GU FD FU FB8
  revert F
  revert b8
  revert gU
  revert gD
  revert z
  exact t4_7_8_9_.out
  )
  )
  focus (
  intro y gD gU b8 F
  obtain ⟨GU, FD, FU, FB8⟩ := F
  have hHeld := HC.out _ GU
  clear hHeld
  refine wpAnyH_ready (rs := [8]) (by kernel_rfl) (by simp) ?_
  refine AllReadyH.cons rfl (fun K hK => ?_) AllReadyH.nil
  focus (
  go_simp
  refine hK.out _ _ (HC.out _ GU) (fun hHeld => ?_)
  clear hK K
  try simp only [List.setIfInBounds_toArray, List.set_cons_zero, List.set_cons_succ]
  clear hHeld
  refine lstH (l' := #[true, true, true, true, true, true, true, true, true, true, false]) (by kernel_rfl) ?_
  have F := And.intro GU (And.intro FD (And.intro FU FB8))
  clear GU FD FU FB8
  revert F
  revert b8
  revert gU
  revert gD
  revert y
  exact t4_7_8_9_.out
  )
  )
  focus (
  intro y gD gU b8 F
  obtain ⟨GU, FD, FU, FB8⟩ := F
  have hHeld := HC.out _ GU
  refine wpAnyH_ready (rs := [10]) (by kernel_rfl) (by simp) ?_
  refine AllReadyH.cons rfl (fun K hK => ?_) AllReadyH.nil
  rw [if_pos]
  rotate_left
  · kernel_rfl
  have HT := BxA.there (l := [.int .i64 0, .int .i64 0, .slice none 0 0, .slice none 0 0, .slice none 0 0, .slice none 0 0, .int .i64 0, .int .i64 0, .int .i64 0, .int .i64 0, .int .i64 0, .int .i64 0, .int .i64 0, .slice none 0 0, .int .i64 0, .slice none 0 0, .slice none 0 0, .slice none 0 0, .slice none 0 0, .slice none 0 0, .slice none 0 0, .slice none 0 0]) FB8.1 (Nat.le_refl _)
  obtain ⟨x, hx⟩ : ∃ x, x = setA y b8 0 [.int .i64 (nn : Int), .int .i64 N, .slice aO v cO, .slice none 0 0, .slice aL kk cL, .slice aN kk kk, .int .i64 0, .int .i64 0, .int .i64 0, .int .i64 0, .int .i64 0, .int .i64 0, .int .i64 0, .slice none 0 0, .int .i64 0, .slice none 0 0, .slice none 0 0, .slice (some ⟨gD, 0, none⟩) m m, .slice (some ⟨gU, 0, none⟩) m m, .slice none 0 0, .slice none 0 0, .slice none 0 0] := ⟨_, rfl⟩
  have GF : Good W3 x := by rw [hx]; exact below_setA GU FB8.2 0 _
  have XF : WR w2.heap.size x b8 #[.int .i64 (nn : Int), .int .i64 N, .slice aO v cO, .slice none 0 0, .slice aL kk cL, .slice aN kk kk, .int .i64 0, .int .i64 0, .int .i64 0, .int .i64 0, .int .i64 0, .int .i64 0, .int .i64 0, .slice none 0 0, .int .i64 0, .slice none 0 0, .slice none 0 0, .slice (some ⟨gD, 0, none⟩) m m, .slice (some ⟨gU, 0, none⟩) m m, .slice none 0 0, .slice none 0 0, .slice none 0 0] none 0 0 (some ⟨gD, 0, none⟩) m m (some ⟨gU, 0, none⟩) m m [] (List.replicate m (.slice none 0 0)) (List.replicate m (.bool false)) := by
    have q := BxA.setA (l := [.int .i64 0, .int .i64 0, .slice none 0 0, .slice none 0 0, .slice none 0 0, .slice none 0 0, .int .i64 0, .int .i64 0, .int .i64 0, .int .i64 0, .int .i64 0, .int .i64 0, .int .i64 0, .slice none 0 0, .int .i64 0, .slice none 0 0, .slice none 0 0, .slice none 0 0, .slice none 0 0, .slice none 0 0, .slice none 0 0, .slice none 0 0]) FB8.1 0 [.int .i64 (nn : Int), .int .i64 N, .slice aO v cO, .slice none 0 0, .slice aL kk cL, .slice aN kk kk, .int .i64 0, .int .i64 0, .int .i64 0, .int .i64 0, .int .i64 0, .int .i64 0, .int .i64 0, .slice none 0 0, .int .i64 0, .slice none 0 0, .slice none 0 0, .slice (some ⟨gD, 0, none⟩) m m, .slice (some ⟨gU, 0, none⟩) m m, .slice none 0 0, .slice none 0 0, .slice none 0 0]
    rw [setV_all [.int .i64 0, .int .i64 0, .slice none 0 0, .slice none 0 0, .slice none 0 0, .slice none 0 0, .int .i64 0, .int .i64 0, .int .i64 0, .int .i64 0, .int .i64 0, .int .i64 0, .int .i64 0, .slice none 0 0, .int .i64 0, .slice none 0 0, .slice none 0 0, .slice none 0 0, .slice none 0 0, .slice none 0 0, .slice none 0 0, .slice none 0 0] [.int .i64 (nn : Int), .int .i64 N, .slice aO v cO, .slice none 0 0, .slice aL kk cL, .slice aN kk kk, .int .i64 0, .int .i64 0, .int .i64 0, .int .i64 0, .int .i64 0, .int .i64 0, .int .i64 0, .slice none 0 0, .int .i64 0, .slice none 0 0, .slice none 0 0, .slice (some ⟨gD, 0, none⟩) m m, .slice (some ⟨gU, 0, none⟩) m m, .slice none 0 0, .slice none 0 0, .slice none 0 0] rfl, ← hx] at q
    refine ⟨q, World.ownsRow_nil _ _ _ _, ?_, ?_, Nat.le_trans HH2.out FB8.2⟩
    · rw [hx]; exact own_setABx (l := [.int .i64 0, .int .i64 0, .slice none 0 0, .slice none 0 0, .slice none 0 0, .slice none 0 0, .int .i64 0, .int .i64 0, .int .i64 0, .int .i64 0, .int .i64 0, .int .i64 0, .int .i64 0, .slice none 0 0, .int .i64 0, .slice none 0 0, .slice none 0 0, .slice none 0 0, .slice none 0 0, .slice none 0 0, .slice none 0 0, .slice none 0 0]) FD FB8.1 (by decide) 0 _
    · rw [hx]; exact own_setABx (l := [.int .i64 0, .int .i64 0, .slice none 0 0, .slice none 0 0, .slice none 0 0, .slice none 0 0, .int .i64 0, .int .i64 0, .int .i64 0, .int .i64 0, .int .i64 0, .int .i64 0, .int .i64 0, .slice none 0 0, .int .i64 0, .slice none 0 0, .slice none 0 0, .slice none 0 0, .slice none 0 0, .slice none 0 0, .slice none 0 0, .slice none 0 0]) FU FB8.1 (by decide) 0 _
  refine wp_store_mid 53 (.tmp 8) (.tmp 29) ?_ b8 0 #[.int .i64 (nn : Int), .int .i64 N, .slice aO v cO, .slice none 0 0, .slice aL kk cL, .slice aN kk kk, .int .i64 0, .int .i64 0, .int .i64 0, .int .i64 0, .int .i64 0, .int .i64 0, .int .i64 0, .slice none 0 0, .int .i64 0, .slice none 0 0, .slice none 0 0, .slice (some ⟨gD, 0, none⟩) m m, .slice (some ⟨gU, 0, none⟩) m m, .slice none 0 0, .slice none 0 0, .slice none 0 0] ?_ ?_ ?_ ?_ ?_ ?_
  · rfl
  · rfl
  · rfl
  · exact HT
  · kernel_rfl
  · kernel_rfl
  rw [setCells_setA]
  rw [show setA y b8 0 (#[.int .i64 (nn : Int), .int .i64 N, .slice aO v cO, .slice none 0 0, .slice aL kk cL, .slice aN kk kk, .int .i64 0, .int .i64 0, .int .i64 0, .int .i64 0, .int .i64 0, .int .i64 0, .int .i64 0, .slice none 0 0, .int .i64 0, .slice none 0 0, .slice none 0 0, .slice (some ⟨gD, 0, none⟩) m m, .slice (some ⟨gU, 0, none⟩) m m, .slice none 0 0, .slice none 0 0, .slice none 0 0] : Array Value).toList = x from hx.symm]
  refine hK.out _ _ (HC.out _ GF) (fun hHeld => ?_)
  clear hK K hHeld HT hx FD FU FB8 GU
  try simp only [List.setIfInBounds_toArray, List.set_cons_zero, List.set_cons_succ]
  refine wpAnyH_done (by kernel_rfl) ?_ _
  have HGF := hideIt GF
  have HXF := hideIt XF
  clear GF XF
  go_wp2
  go_loopw [9] (fun i wr => ∃ (k ns : Nat) (aS : Option Addr) (cS : Nat) (cs : List Value), k ≤ m ∧ i = .int .i64 (k : Int) ∧ Hid (ns = k - 1) ∧ Hid (WR w2.heap.size wr b8 #[.int .i64 (nn : Int), .int .i64 N, .slice aO v cO, .slice none 0 0, .slice aL kk cL, .slice aN kk kk, .int .i64 0, .int .i64 0, .int .i64 0, .int .i64 0, .int .i64 0, .int .i64 0, .int .i64 0, .slice none 0 0, .int .i64 0, .slice none 0 0, .slice aS ns cS, .slice (some ⟨gD, 0, none⟩) m m, .slice (some ⟨gU, 0, none⟩) m m, .slice none 0 0, .slice none 0 0, .slice none 0 0] aS ns cS (some ⟨gD, 0, none⟩) m m (some ⟨gU, 0, none⟩) m m cs (List.replicate m (.slice none 0 0)) (tru k m)) ∧ Hid (∀ t < ns, El cs t (nsh (nn : Int) t)) ∧ Hid (Below w2.heap.size W3 wr)) (fun i _ => m - (intOf i).toNat)
  case atStart => exact ⟨0, 0, none, 0, [], by omega, rfl, rfl, by rw [tru_none]; exact HXF.out, fun t ht => by omega, Below.mono HGF.out HH2.out⟩
  case round =>
    obtain ⟨k, ns, aS, cS, cs, hk, rfl, Hns, HS, HE, HB⟩ := hrel
    clear HXF HGF
    by_cases hlt : k < m
    · have d1 : decide ((k : Int) ≤ (s : Int)) = true := decide_eq_true (by omega)
      have b1 : (0 : Int) ≤ (k : Int) := by omega
      have b2 : (k : Int) < (m : Int) := by omega
      have c18 := HS.out.box.cell 18 rfl
      have f0 := HS.out.b.frozenAt k
      have hlu : (tru k m).length = m * 1 := HS.out.b.1
      obtain ⟨y0, x0⟩ : ∃ y, wr.cell? ⟨gU, k, none⟩ = some y := ⟨_, by rw [HS.out.b.cellAt k (by omega)]; exact List.getElem?_eq_getElem (by omega)⟩
      obtain ⟨u1, hu1⟩ : ∃ u1, u1 = wr.setCell ⟨gU, k, none⟩ (.bool true) := ⟨_, rfl⟩
      have hst := HS.out.b.stored k (.bool true)
      rw [← hu1, tru_set k m hlt] at hst
      have HS1 := hideIt (HS.out.node hst.1 hst.2)
      have HB1 := hideIt (HS.out.gU HB.out HH2.out hst.2)
      clear hst HS HB
      by_cases hz : 0 < k
      · have d2 : decide ((0 : Int) < (k : Int)) = true := decide_eq_true (by omega)
        have d3 : (0 : Int) < (k : Int) := by omega
        go_upto_region 9 with fail
        rw [← hu1]
        clear c18 f0 x0 hu1
        go_upto_region 10 with fail
        have HSN := hideIt (HSh.out k ⟨hz, by omega⟩ u1)
        go_wp2_with (go_at_call 22; refine HSN.out.mono ?_; rintro e u2 ⟨rfl, bb⟩; refine Hid.out ?_)
        refine hidw ?_
        obtain ⟨W6, hW6⟩ : ∃ W6, W6 = u2.alloc (.cells #[.int .i64 (k : Int), .int .i64 (nn : Int), .slice none 0 0, .int .i64 0, .bool false, .slice none 0 0, .slice none 0 0] 76) := ⟨_, rfl⟩
        obtain ⟨b10, hb10⟩ : ∃ b10, b10 = u2.heap.size := ⟨_, rfl⟩
        have bA : Below u1.heap.size u1 W6 := by rw [hW6]; exact bb.alloc bb.size _
        have X6 : BxA W6 b10 76 #[.int .i64 (k : Int), .int .i64 (nn : Int), .slice none 0 0, .int .i64 0, .bool false, .slice none 0 0, .slice none 0 0] := by rw [hW6, hb10]; exact BxA.new _ _ _
        have S6 := HS1.out.up bA
        have HS6 := hideIt S6
        have HB6 := hideIt (HB1.out.trans (bA.mono (Nat.le_trans HH2.out HB1.out.size)))
        have c16 := S6.box.cell 16 rfl
        have c10_0 := X6.cell 0 rfl
        have c10_1 := X6.cell 1 rfl
        have c10_2 := X6.cell 2 rfl
        have c10_3 := X6.cell 3 rfl
        have c10_4 := X6.cell 4 rfl
        have c10_5 := X6.cell 5 rfl
        have c10_6 := X6.cell 6 rfl
        have h10 := X6.lt
        clear bA bb X6 S6 HSN HS1 HB1
        go_upto_region 11 with fail
        rw [← hW6, ← hb10]
        clear hW6 hb10
        go_wp2_with (at_builtin; refine wpList_append_lies _ rfl _ _ 46 rfl w2.heap.size 76 i0 _ 7 104 Tryd.underlying46 hi hz0 hz1 hz2 rfl (by decide) _ ns _ rfl (HS6.out.s.alloc _) ⟨W6.heap.size, 0, none⟩ 1 1 [.int .i64 (k : Int), .int .i64 (nn : Int), .slice none 0 0, .int .i64 0, .bool false, .slice none 0 0, .slice none 0 0] rfl rfl (World.news_of_block (cs := #[.int .i64 (k : Int), .int .i64 (nn : Int), .slice none 0 0, .int .i64 0, .bool false, .slice none 0 0, .slice none 0 0]) (t := 76) (fr := (0, 0)) (heap_alloc_new W6 _)) (ns_one _ _) (by omega) (by have := Hns.out; unfold maxLen; omega) (by have := Hns.out; omega) (by have := HB6.out.size; have := HH2.out; simp; omega) (W6.heap.size + 1) (by simp) ?_; intro g8 c8 w8 ho8 hg8 _ _; refine Hid.out ?_)
        refine hidw ?_
        have S7 := HS6.out.up (belA W6 (.cells #[.int .i64 (k : Int), .int .i64 (nn : Int), .slice none 0 0, .int .i64 0, .bool false, .slice none 0 0, .slice none 0 0] 76))
        have S8 := S7.shard ho8 hg8
        have B8 := S7.gS (HB6.out.alloc (Nat.le_trans HH2.out HB6.out.size) (.cells #[.int .i64 (k : Int), .int .i64 (nn : Int), .slice none 0 0, .int .i64 0, .bool false, .slice none 0 0, .slice none 0 0] 76)) HH2.out hg8
        have k16 := S8.box.cell 16 rfl
        have z16 := S8.box.frozen 16
        have HS9 := hideIt (S8.set 16 (.slice (some ⟨g8, 0, none⟩) (ns + 1) c8))
        have HB9 := hideIt (Below.setCell B8 (p := ⟨b8, 16, none⟩) S8.hb (.slice (some ⟨g8, 0, none⟩) (ns + 1) c8))
        have HE9 : Hid (∀ t < ns + 1, El (cs ++ [.int .i64 (k : Int), .int .i64 (nn : Int), .slice none 0 0, .int .i64 0, .bool false, .slice none 0 0, .slice none 0 0]) t (nsh (nn : Int) t)) := by
          have hl : cs.length = ns * 7 := HS6.out.s.1
          have := El.snoc hl HE.out
          rw [show ((ns : Int) + 1) = (k : Int) by have := Hns.out; omega] at this
          exact this
        have HN9 : Hid (ns + 1 = k + 1 - 1) := by have := Hns.out; show _ = _; omega
        clear S7 S8 B8 ho8 hg8 HS6 HB6 HE Hns c16 c10_0 c10_1 c10_2 c10_3 c10_4 c10_5 c10_6
        go_wp2
        exact ⟨⟨k + 1, ns + 1, some ⟨g8, 0, none⟩, c8, _, by omega, by go_num, HN9, HS9, HE9, HB9⟩, by simp [intOf]; omega⟩
      · have d2 : decide ((0 : Int) < (k : Int)) = false := decide_eq_false (by omega)
        have d3 : ¬ (0 : Int) < (k : Int) := by omega
        have HN9 : Hid (ns = k + 1 - 1) := by have := Hns.out; show _ = _; omega
        go_upto_region 9 with fail
        rw [← hu1]
        clear c18 f0 x0 hu1 Hns
        go_wp2
        exact ⟨⟨k + 1, ns, aS, cS, cs, by omega, by go_num, HN9, HS1, HE, HB1⟩, by simp [intOf]; omega⟩
    · have d1 : decide ((k : Int) ≤ (s : Int)) = false := decide_eq_false (by omega)
      have d1' : ¬ (k : Int) ≤ (s : Int) := by omega
      obtain rfl : k = m := by omega
      have ens : ns = s := by have := Hns.out; omega
      subst ens
      clear Hns
      go_upto_region 12 with fail
      obtain ⟨x9, hx9⟩ : ∃ x9, x9 = setA wr w.heap.size 0 [.int .i64 (nn : Int), .int .i64 N, .slice aO v cO, .slice none 0 0, .slice aL kk cL, .slice aN kk kk, .int .i64 0, .int .i64 0, .int .i64 0, .int .i64 0, .int .i64 0, .int .i64 0, .int .i64 0, .slice none 0 0, .int .i64 0, .slice none 0 0, .slice aS ns cS, .slice (some ⟨gD, 0, none⟩) k k, .slice (some ⟨gU, 0, none⟩) k k, .slice none 0 0, .slice none 0 0, .slice none 0 0] := ⟨_, rfl⟩
      have BR := H03.out.below HB.out HW2.out
      have HT := hideIt (BxA.there (l := [.int .i64 0, .int .i64 0, .slice none 0 0, .slice none 0 0, .slice none 0 0, .slice none 0 0, .int .i64 0, .int .i64 0, .int .i64 0, .int .i64 0, .int .i64 0, .int .i64 0, .int .i64 0, .slice none 0 0, .int .i64 0, .slice none 0 0, .slice none 0 0, .slice none 0 0, .slice none 0 0, .slice none 0 0, .slice none 0 0, .slice none 0 0]) BR (Nat.le_refl _))
      have HR := hideIt (BxA.range (l := [.int .i64 (nn : Int), .int .i64 N, .slice aO v cO, .slice none 0 0, .slice aL kk cL, .slice aN kk kk, .int .i64 0, .int .i64 0, .int .i64 0, .int .i64 0, .int .i64 0, .int .i64 0, .int .i64 0, .slice none 0 0, .int .i64 0, .slice none 0 0, .slice aS ns cS, .slice (some ⟨gD, 0, none⟩) k k, .slice (some ⟨gU, 0, none⟩) k k, .slice none 0 0, .slice none 0 0, .slice none 0 0]) HS.out.box)
      have XF := BxA.setA (l := [.int .i64 0, .int .i64 0, .slice none 0 0, .slice none 0 0, .slice none 0 0, .slice none 0 0, .int .i64 0, .int .i64 0, .int .i64 0, .int .i64 0, .int .i64 0, .int .i64 0, .int .i64 0, .slice none 0 0, .int .i64 0, .slice none 0 0, .slice none 0 0, .slice none 0 0, .slice none 0 0, .slice none 0 0, .slice none 0 0, .slice none 0 0]) BR 0 [.int .i64 (nn : Int), .int .i64 N, .slice aO v cO, .slice none 0 0, .slice aL kk cL, .slice aN kk kk, .int .i64 0, .int .i64 0, .int .i64 0, .int .i64 0, .int .i64 0, .int .i64 0, .int .i64 0, .slice none 0 0, .int .i64 0, .slice none 0 0, .slice aS ns cS, .slice (some ⟨gD, 0, none⟩) k k, .slice (some ⟨gU, 0, none⟩) k k, .slice none 0 0, .slice none 0 0, .slice none 0 0]
      rw [setV_all [.int .i64 0, .int .i64 0, .slice none 0 0, .slice none 0 0, .slice none 0 0, .slice none 0 0, .int .i64 0, .int .i64 0, .int .i64 0, .int .i64 0, .int .i64 0, .int .i64 0, .int .i64 0, .slice none 0 0, .int .i64 0, .slice none 0 0, .slice none 0 0, .slice none 0 0, .slice none 0 0, .slice none 0 0, .slice none 0 0, .slice none 0 0] [.int .i64 (nn : Int), .int .i64 N, .slice aO v cO, .slice none 0 0, .slice aL kk cL, .slice aN kk kk, .int .i64 0, .int .i64 0, .int .i64 0, .int .i64 0, .int .i64 0, .int .i64 0, .int .i64 0, .slice none 0 0, .int .i64 0, .slice none 0 0, .slice aS ns cS, .slice (some ⟨gD, 0, none⟩) k k, .slice (some ⟨gU, 0, none⟩) k k, .slice none 0 0, .slice none 0 0, .slice none 0 0] rfl, ← hx9] at XF
      have HXF := hideIt XF
      have BW : Below w.heap.size w x9 := by rw [hx9]; exact below_setA (Below.trans Hb3.out (Below.mono HB.out (by have := HW2.out; omega))) (Nat.le_refl _) 0 _
      have WF : WR w2.heap.size x9 b8 #[.int .i64 (nn : Int), .int .i64 N, .slice aO v cO, .slice none 0 0, .slice aL kk cL, .slice aN kk kk, .int .i64 0, .int .i64 0, .int .i64 0, .int .i64 0, .int .i64 0, .int .i64 0, .int .i64 0, .slice none 0 0, .int .i64 0, .slice none 0 0, .slice aS ns cS, .slice (some ⟨gD, 0, none⟩) k k, .slice (some ⟨gU, 0, none⟩) k k, .slice none 0 0, .slice none 0 0, .slice none 0 0] aS ns cS (some ⟨gD, 0, none⟩) k k (some ⟨gU, 0, none⟩) k k cs (List.replicate k (.slice none 0 0)) (tru k k) := by
        have h8 := HS.out.hb
        have q := HS.out.box.setAO (G := w.heap.size) 0 [.int .i64 (nn : Int), .int .i64 N, .slice aO v cO, .slice none 0 0, .slice aL kk cL, .slice aN kk kk, .int .i64 0, .int .i64 0, .int .i64 0, .int .i64 0, .int .i64 0, .int .i64 0, .int .i64 0, .slice none 0 0, .int .i64 0, .slice none 0 0, .slice aS ns cS, .slice (some ⟨gD, 0, none⟩) k k, .slice (some ⟨gU, 0, none⟩) k k, .slice none 0 0, .slice none 0 0, .slice none 0 0] (by have := HW2.out; omega)
        rw [← hx9] at q
        exact ⟨q, by rw [hx9]; exact own_setA HS.out.s HW2.out 0 _, by rw [hx9]; exact own_setA HS.out.d HW2.out 0 _, by rw [hx9]; exact own_setA HS.out.b HW2.out 0 _, h8⟩
      have KF : HK x9 w.heap.size w2.heap.size aO v cO aL kk cL aN R (hnH (nn : Int) (ns : Int)).own (hnH (nn : Int) (ns : Int)).nums := by
        have q := HK3.out.below HB.out
        rw [hx9]
        exact (HK.setA_low q HW1.out 0 _).lower (Nat.le_of_lt HW1.out)
      have hsz : w2.heap.size ≤ x9.heap.size := Nat.le_trans (Nat.le_trans HH2.out HB.out.size) (by rw [hx9]; exact Nat.le_of_eq (setA_size _ _ _ _).symm)
      have HFin : Hid (WnA w (nn : Int) (ns : Int) (.returned (.tuple #[.agg #[.int .i64 (nn : Int), .int .i64 N, .slice aO v cO, .slice none 0 0, .slice aL kk cL, .slice aN kk kk, .int .i64 0, .int .i64 0, .int .i64 0, .int .i64 0, .int .i64 0, .int .i64 0, .int .i64 0, .slice none 0 0, .int .i64 0, .slice none 0 0, .slice aS ns cS, .slice (some ⟨gD, 0, none⟩) k k, .slice (some ⟨gU, 0, none⟩) k k, .slice none 0 0, .slice none 0 0, .slice none 0 0], .bool true])) x9) := by
        obtain rfl : k = ns + 1 := by omega
        rw [tru_all] at WF
        have q := wna_yes hn hs KF HRt.out WF HE.out HWl.out hsz BW
        rw [← HNe.out] at q
        exact q
      clear BR XF BW WF KF hsz HB HS HE
      refine wp_region_lit ?_
      go_step
      refine wp_load_mid 53 (.tmp 8) ?_ b8 0 ?_ [.int .i64 (nn : Int), .int .i64 N, .slice aO v cO, .slice none 0 0, .slice aL kk cL, .slice aN kk kk, .int .i64 0, .int .i64 0, .int .i64 0, .int .i64 0, .int .i64 0, .int .i64 0, .int .i64 0, .slice none 0 0, .int .i64 0, .slice none 0 0, .slice aS ns cS, .slice (some ⟨gD, 0, none⟩) k k, .slice (some ⟨gU, 0, none⟩) k k, .slice none 0 0, .slice none 0 0, .slice none 0 0] _ ?_ Tryd.underlying53 rfl (by kernel_rfl) ?_
      · rfl
      · rfl
      · exact HR.out
      go_step
      go_step
      refine wp_store_mid 53 (.tmp 4) (.tmp 53) ?_ w.heap.size 0 #[.int .i64 (nn : Int), .int .i64 N, .slice aO v cO, .slice none 0 0, .slice aL kk cL, .slice aN kk kk, .int .i64 0, .int .i64 0, .int .i64 0, .int .i64 0, .int .i64 0, .int .i64 0, .int .i64 0, .slice none 0 0, .int .i64 0, .slice none 0 0, .slice aS ns cS, .slice (some ⟨gD, 0, none⟩) k k, .slice (some ⟨gU, 0, none⟩) k k, .slice none 0 0, .slice none 0 0, .slice none 0 0] ?_ ?_ ?_ ?_ ?_ ?_
      · rfl
      · rfl
      · rfl
      · exact HT.out
      · kernel_rfl
      · kernel_rfl
      rw [setCells_setA]
      rw [show setA wr w.heap.size 0 (#[.int .i64 (nn : Int), .int .i64 N, .slice aO v cO, .slice none 0 0, .slice aL kk cL, .slice aN kk kk, .int .i64 0, .int .i64 0, .int .i64 0, .int .i64 0, .int .i64 0, .int .i64 0, .int .i64 0, .slice none 0 0, .int .i64 0, .slice none 0 0, .slice aS ns cS, .slice (some ⟨gD, 0, none⟩) k k, .slice (some ⟨gU, 0, none⟩) k k, .slice none 0 0, .slice none 0 0, .slice none 0 0] : Array Value).toList = x9 from hx9.symm]
      clear hx9 HT HR
      go_wp2
      refine bodyPost_ret (v := .tuple #[.agg #[.int .i64 (nn : Int), .int .i64 N, .slice aO v cO, .slice none 0 0, .slice aL kk cL, .slice aN kk kk, .int .i64 0, .int .i64 0, .int .i64 0, .int .i64 0, .int .i64 0, .int .i64 0, .int .i64 0, .slice none 0 0, .int .i64 0, .slice none 0 0, .slice aS ns cS, .slice (some ⟨gD, 0, none⟩) k k, .slice (some ⟨gU, 0, none⟩) k k, .slice none 0 0, .slice none 0 0, .slice none 0 0], .bool true]) ?_ rfl HFin.out
      refine results_box (a := 4) (x := 5) (l := [.int .i64 (nn : Int), .int .i64 N, .slice aO v cO, .slice none 0 0, .slice aL kk cL, .slice aN kk kk, .int .i64 0, .int .i64 0, .int .i64 0, .int .i64 0, .int .i64 0, .int .i64 0, .int .i64 0, .slice none 0 0, .int .i64 0, .slice none 0 0, .slice aS ns cS, .slice (some ⟨gD, 0, none⟩) k k, .slice (some ⟨gU, 0, none⟩) k k, .slice none 0 0, .slice none 0 0, .slice none 0 0]) (b := w.heap.size) (t := 53) ?_ ?_ ?_ ?_ ?_ ?_
      · exact Tryd.results12
      · rfl
      · rfl
      · exact HXF.out
      · exact ⟨_, Tryd.underlying53, rfl⟩
      · kernel_rfl
  )
end Go.Proofs.YtgdlpmmbeacejaaDoor
