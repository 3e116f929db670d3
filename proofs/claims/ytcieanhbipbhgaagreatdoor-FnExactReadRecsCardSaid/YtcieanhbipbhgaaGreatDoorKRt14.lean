/- The program's reader of records: answers and orders. -/
import Derived.Test.YtcieanhbipbhgaaGreatDoorKRs14
import Derived.Deep.DeepCutAuto
namespace Go.Proofs.YtcieanhbipbhgaaGreatDoor
open Go.RowKit Vt

set_option maxRecDepth 100000 in
set_option maxHeartbeats 4000000 in
theorem answer_no (n : Int) (s : ByteArray) (hs : s.size ≤ 1048576) (p : Nat) (hk : ShBad s p) (G : Nat) (w : World) (h : RrAt w G n s p) :
    Calls Tryz.prog 62 #[.pointer (some ⟨G, 0, none⟩)] w fun e w' => e = .panicked PV ∧ w.grownBy w' (some G) := by
  obtain ⟨W, hW⟩ : ∃ W, W = w.alloc (.cells #[.int .i64 0, .bool false, .slice none 0 0, .slice none 0 0] 36) := ⟨_, rfl⟩
  have bW : Below w.heap.size w W := by rw [hW]; exact (Below.refl _ _).alloc (Nat.le_refl _) _
  have HW := hideIt (h.below bW)
  have hGw := h.lt
  have hGW : G < W.heap.size := HW.out.lt
  have HB := hideIt (gr_below bW (some G))
  have HS : Hid (∀ u, RrAt u G n s p → Calls Tryz.prog 72 #[.pointer (some ⟨G, 0, none⟩)] u fun e v => e = .panicked PV ∧ u.grownBy v (some G)) := fun u hu => short_no n s hs p hk G u hu
  have hS0 : W.drew.cell? ⟨G, 0, none⟩ = some (.int .i64 n) := HW.out.c0
  clear h hk bW
  go_enter Tryz.func62, Tryz.ntmps62
  go_upto_region 1 with fail
  rw [← hW]
  clear hW
  refine wp_region_held_drew (S := (fun u => u.cell? ⟨G, 0, none⟩ = some (.int .i64 n))) (by kernel_rfl) hS0 (fun hHeld => ?_)
  refine wpAnyH_take (i := 0) (v := ?_) rfl (by kernel_rfl) (by kernel_rfl) (by kernel_rfl) (fun _ _ _ h => h) (Or.inl ⟨by rfl, ?_⟩) (by assumption) ?_
  rotate_left
  · intro w hSw; (try dsimp only at hSw); go_simp; try with_reducible rfl
  try simp only [Act.put, List.getElem_toArray, List.getElem_cons_zero, List.setIfInBounds_toArray, List.set_cons_zero, List.set_cons_succ]
  refine wpAnyH_take (i := 1) (v := ?_) rfl (by kernel_rfl) (by kernel_rfl) (by kernel_rfl) (fun _ _ _ h => h) (Or.inl ⟨by rfl, ?_⟩) (by assumption) ?_
  rotate_left
  · intro w hSw; (try dsimp only at hSw); go_simp; try with_reducible rfl
  try simp only [Act.put, List.getElem_toArray, List.getElem_cons_succ, List.getElem_cons_zero, List.setIfInBounds_toArray, List.set_cons_zero, List.set_cons_succ]
  refine wpAnyH_take (i := 2) (v := ?_) rfl (by kernel_rfl) (by kernel_rfl) (by kernel_rfl) (fun _ _ _ h => h) (Or.inl ⟨by rfl, ?_⟩) (by assumption) ?_
  rotate_left
  · intro w hSw; (try dsimp only at hSw); go_simp; try with_reducible rfl
  try simp only [Act.put, List.getElem_toArray, List.getElem_cons_succ, List.getElem_cons_zero, List.setIfInBounds_toArray, List.set_cons_zero, List.set_cons_succ]
  refine wpAnyH_take (i := 3) (v := ?_) rfl (by kernel_rfl) (by kernel_rfl) (by kernel_rfl) (fun _ _ _ h => h) (Or.inl ⟨by rfl, ?_⟩) (by assumption) ?_
  rotate_left
  · intro w hSw; (try dsimp only at hSw); go_simp; try with_reducible rfl
  try simp only [Act.put, List.getElem_toArray, List.getElem_cons_succ, List.getElem_cons_zero, List.setIfInBounds_toArray, List.set_cons_zero, List.set_cons_succ]
  refine wpAnyH_take (i := 4) (v := ?_) rfl (by kernel_rfl) (by kernel_rfl) (by kernel_rfl) (fun _ _ _ h => h) (Or.inl ⟨by rfl, ?_⟩) (by assumption) ?_
  rotate_left
  · intro w hSw; (try dsimp only at hSw); go_simp; try with_reducible rfl
  try simp only [Act.put, List.getElem_toArray, List.getElem_cons_succ, List.getElem_cons_zero, List.setIfInBounds_toArray, List.set_cons_zero, List.set_cons_succ]
  have RT : RrAt W.drew G n s p := HW.out.grown (gr_drew _ none) (by simp)
  refine wpAnyH_ready (rs := [5, 10]) (by kernel_rfl) (by simp) ?_
  refine AllReadyH.cons rfl (fun K hK => ?_) (AllReadyH.cons rfl (fun K hK => ?_) AllReadyH.nil)
  · rw [if_pos]
    rotate_left
    · kernel_rfl
    have HCall := hideIt (HS.out _ RT)
    go_wp2_with (go_at_call 72; refine HCall.out.mono ?_; rintro e z ⟨rfl, gg⟩; refine Hid.out ?_)
    refine hidp ?_
    exact ⟨rfl, rfl, gr_trans (gr_trans HB.out (gr_drew _ _)) gg⟩
  · go_simp
    have RT2 : RrAt (W.alloc (.cells #[.int .i64 0, .bool false, .slice none 0 0, .slice none 0 0] 36)).drew G n s p := RT.grown (World.grownBy_alloc _ _ none) (by simp)
    refine hK.out _ _ RT2.c0 (fun hHeld => ?_)
    clear hK K
    try simp only [List.setIfInBounds_toArray, List.set_cons_zero, List.set_cons_succ]
    refine wpAnyH_ready (rs := [5]) (by kernel_rfl) (by simp) ?_
    refine AllReadyH.cons rfl (fun K hK => ?_) AllReadyH.nil
    rw [if_pos]
    rotate_left
    · kernel_rfl
    have HCall := hideIt (HS.out _ RT2)
    go_wp2_with (go_at_call 72; refine HCall.out.mono ?_; rintro e z ⟨rfl, gg⟩; refine Hid.out ?_)
    refine hidp ?_
    exact ⟨rfl, rfl, gr_trans (gr_trans HB.out (gr_trans (gr_drew _ _) (World.grownBy_alloc W.drew _ _))) gg⟩
/-- what the reader of answers answers behind a short text: it, or a panic -/
def RsA (w w' : World) (G : Nat) (n : Int) (s : ByteArray) (q : Nat) (e : Ending) : Option AnsV → Prop
  | none => e = .panicked PV ∧ w.grownBy w' (some G)
  | some r => ∃ (a : Option Addr) (k9 c : Nat) (a2 : Option Addr) (k2 c2 : Nat), e = .returned (.agg #[.int .i64 r.num, .bool r.ok, .slice a k9 c, .slice a2 k2 c2]) ∧ RrAt w' G n s q ∧ (w'.ownsRow w.heap.size 79 2 (.slice a k9 c) k9 (ecells r.es) ∧ w'.ownsRow w.heap.size 3 1 (.slice a2 k2 c2) k2 (ic r.ls) ∧ k9 ≤ 100 ∧ k2 ≤ 100) ∧ w.grownBy w' (some G)
set_option maxRecDepth 100000 in
set_option maxHeartbeats 8000000 in
theorem answer_yes (n : Int) (s : ByteArray) (hs : s.size ≤ 1048576) (p : Nat) (k j : Nat) (hk : ShOk s p k j) (G : Nat) (w : World) (h : RrAt w G n s p) :
    Calls Tryz.prog 62 #[.pointer (some ⟨G, 0, none⟩)] w fun e w' => ∃ r, IsA n (s.extract j (j + k)).data.toList r ∧ RsA w w' G n s (j + k) e r := by
  obtain ⟨W, hW⟩ : ∃ W, W = w.alloc (.cells #[.int .i64 0, .bool false, .slice none 0 0, .slice none 0 0] 36) := ⟨_, rfl⟩
  have bW : Below w.heap.size w W := by rw [hW]; exact (Below.refl _ _).alloc (Nat.le_refl _) _
  have HW := hideIt (h.below bW)
  have hGw := h.lt
  have hGW : G < W.heap.size := HW.out.lt
  have HX : Hid (BxQ W w.heap.size 36 #[.int .i64 0, .bool false, .slice none 0 0, .slice none 0 0]) := by show BxQ _ _ _ _; rw [hW]; exact BxQ.new _ _ _
  have zW : W.heap.size = w.heap.size + 1 := by rw [hW]; simp
  have HB := hideIt (gr_below bW (some G))
  have HS : Hid (∀ u, RrAt u G n s p → Calls Tryz.prog 72 #[.pointer (some ⟨G, 0, none⟩)] u fun e v => e = .returned (.string (s.extract j (j + k))) ∧ RrAt v G n s (j + k) ∧ GS G n u v) := fun u hu => (short_yes n s hs p k j hk G u hu).mono fun e v ⟨he, hv, hg⟩ => ⟨he, hv, hg, hv.c0, hv.lt⟩
  have HR : Hid (∀ u : World, GS G n W u → Calls Tryz.prog 71 #[.int .i64 n, .string (s.extract j (j + k))] u fun e v => ∃ (r : Option AnsV) (a : Option Addr) (k9 c : Nat) (a2 : Option Addr) (k2 c2 : Nat), e = .returned (.tuple #[.agg #[.int .i64 (orA r).num, .bool (orA r).ok, .slice a k9 c, .slice a2 k2 c2], .bool r.isSome]) ∧ IsA n (s.extract j (j + k)).data.toList r ∧ (v.ownsRow u.heap.size 79 2 (.slice a k9 c) k9 (ecells (orA r).es) ∧ v.ownsRow u.heap.size 3 1 (.slice a2 k2 c2) k2 (ic (orA r).ls) ∧ k9 ≤ 100 ∧ k2 ≤ 100) ∧ Below u.heap.size u v ∧ GS G n u v) := fun u hu => (iReadAnswer_any n (s.extract j (j + k)) (cut_size s j k hs) u).mono fun e v ⟨r, hr, a, k9, c, a2, k2, c2, he, q1, q2, q3, q4, hb⟩ => ⟨r, a, k9, c, a2, k2, c2, he, hr, ⟨q1, q2, q3, q4⟩, hb, hu.below hb⟩
  have HCx : Hid (∀ u, GS G n W u → (fun u => u.cell? ⟨G, 0, none⟩ = some (.int .i64 n)) u) := fun u hu => hu.c
  have hS0 : W.drew.cell? ⟨G, 0, none⟩ = some (.int .i64 n) := HW.out.c0
  have HNy := hideIt (need_yes G)
  have HNn := hideIt (need_no G)
  clear h hk bW
  go_enter Tryz.func62, Tryz.ntmps62
  go_upto_region 1 with fail
  rw [← hW]
  clear hW
  go_cut [3, 4] (fun x1 x2 wx => ∃ (b : Nat) (r : Option AnsV) (a : Option Addr) (k9 c : Nat) (a2 : Option Addr) (k2 c2 : Nat), x1 = .pointer (some ⟨b, 0, none⟩) ∧ x2 = .bool r.isSome ∧ IsA n (s.extract j (j + k)).data.toList r ∧ W.grownBy wx (some G) ∧ RrAt wx G n s (j + k) ∧ BxQ wx b 36 #[.int .i64 (orA r).num, .bool (orA r).ok, .slice a k9 c, .slice a2 k2 c2] ∧ (wx.ownsRow W.heap.size 79 2 (.slice a k9 c) k9 (ecells (orA r).es) ∧ wx.ownsRow W.heap.size 3 1 (.slice a2 k2 c2) k2 (ic (orA r).ls) ∧ k9 ≤ 100 ∧ k2 ≤ 100) ∧ W.heap.size ≤ b)
  case first =>
    (
    apply viaT
    intro t1_2_100_
    apply viaT
    intro t1_2_
    apply viaT
    intro t1_100_
    apply viaT
    intro t1_
    apply viaT
    intro t100_
    focus (
    refine wp_region_held_drew (S := (fun u => u.cell? ⟨G, 0, none⟩ = some (.int .i64 n))) (by kernel_rfl) hS0 (fun hHeld => ?_)
    refine wpAnyH_take (i := 0) (v := ?_) rfl (by kernel_rfl) (by kernel_rfl) (by kernel_rfl) (fun _ _ _ h => h) (Or.inl ⟨by rfl, ?_⟩) (by assumption) ?_
    rotate_left
    · intro w hSw; (try dsimp only at hSw); go_simp; try with_reducible rfl
    try simp only [Act.put, List.getElem_toArray, List.getElem_cons_zero, List.setIfInBounds_toArray, List.set_cons_zero, List.set_cons_succ]
    refine wpAnyH_take (i := 1) (v := ?_) rfl (by kernel_rfl) (by kernel_rfl) (by kernel_rfl) (fun _ _ _ h => h) (Or.inl ⟨by rfl, ?_⟩) (by assumption) ?_
    rotate_left
    · intro w hSw; (try dsimp only at hSw); go_simp; try with_reducible rfl
    try simp only [Act.put, List.getElem_toArray, List.getElem_cons_succ, List.getElem_cons_zero, List.setIfInBounds_toArray, List.set_cons_zero, List.set_cons_succ]
    refine wpAnyH_take (i := 2) (v := ?_) rfl (by kernel_rfl) (by kernel_rfl) (by kernel_rfl) (fun _ _ _ h => h) (Or.inl ⟨by rfl, ?_⟩) (by assumption) ?_
    rotate_left
    · intro w hSw; (try dsimp only at hSw); go_simp; try with_reducible rfl
    try simp only [Act.put, List.getElem_toArray, List.getElem_cons_succ, List.getElem_cons_zero, List.setIfInBounds_toArray, List.set_cons_zero, List.set_cons_succ]
    refine wpAnyH_take (i := 3) (v := ?_) rfl (by kernel_rfl) (by kernel_rfl) (by kernel_rfl) (fun _ _ _ h => h) (Or.inl ⟨by rfl, ?_⟩) (by assumption) ?_
    rotate_left
    · intro w hSw; (try dsimp only at hSw); go_simp; try with_reducible rfl
    try simp only [Act.put, List.getElem_toArray, List.getElem_cons_succ, List.getElem_cons_zero, List.setIfInBounds_toArray, List.set_cons_zero, List.set_cons_succ]
    refine wpAnyH_take (i := 4) (v := ?_) rfl (by kernel_rfl) (by kernel_rfl) (by kernel_rfl) (fun _ _ _ h => h) (Or.inl ⟨by rfl, ?_⟩) (by assumption) ?_
    rotate_left
    · intro w hSw; (try dsimp only at hSw); go_simp; try with_reducible rfl
    try simp only [Act.put, List.getElem_toArray, List.getElem_cons_succ, List.getElem_cons_zero, List.setIfInBounds_toArray, List.set_cons_zero, List.set_cons_succ]
    obtain ⟨y, hy⟩ : ∃ y, y = W.drew := ⟨_, rfl⟩
    have GU : GS G n W y := by rw [hy]; exact ⟨gr_drew _ _, HW.out.c0, hGW⟩
    have RT : RrAt y G n s p := by rw [hy]; exact HW.out.grown (gr_drew _ none) (by simp)
    rw [← hy]
    clear hy hHeld
    refine wpAnyH_ready (rs := [5, 10]) (by kernel_rfl) (by simp) ?_
    refine AllReadyH.cons rfl (fun K hK => ?_) (AllReadyH.cons rfl (fun K hK => ?_) AllReadyH.nil)
    focus (
    rw [if_pos]
    rotate_left
    · kernel_rfl
    have HCall := hideIt (HS.out y RT)
    go_wp2_with (go_at_call 72; refine HCall.out.mono ?_; rintro e z ⟨rfl, RT1, gg⟩; refine Hid.out ?_)
    refine hidp ?_
    refine hK.out _ _ (HCx.out _ (GS.up GU gg)) (fun hHeld => ?_)
    clear hK K HCall
    try simp only [Act.put, List.getElem_toArray, List.getElem_cons_succ, List.getElem_cons_zero, List.setIfInBounds_toArray, List.set_cons_zero, List.set_cons_succ]
    replace GU := GS.up GU gg
    try clear gB
    clear gg RT
    clear hHeld
    refine lstH (l' := #[true, true, true, true, true, true, false, false, false, false, false, false, false]) (by kernel_rfl) ?_
    have F := And.intro GU RT1
    clear GU RT1
    revert F
    revert z
    exact t1_.out
    )
    focus (
    go_simp
    refine hK.out _ _ (HCx.out _ (GU.alloc _)) (fun hHeld => ?_)
    clear hK K
    try simp only [Act.put, List.getElem_toArray, List.getElem_cons_succ, List.getElem_cons_zero, List.setIfInBounds_toArray, List.set_cons_zero, List.set_cons_succ]
    obtain ⟨z, hz⟩ : ∃ z, z = y.alloc (.cells #[.int .i64 0, .bool false, .slice none 0 0, .slice none 0 0] 36) := ⟨_, rfl⟩
    have gB : Below y.heap.size y z := by rw [hz]; exact (Below.refl _ _).alloc (Nat.le_refl _) _
    have gg : GS G n y z := GU.below gB
    have BX : BxQ z y.heap.size 36 #[.int .i64 0, .bool false, .slice none 0 0, .slice none 0 0] := by rw [hz]; exact BxQ.new _ _ _
    have LX : W.heap.size ≤ y.heap.size := GU.size
    replace GU := GS.up GU gg
    replace RT := RT.below gB
    rw [← hz]
    clear hz gg gB hHeld
    generalize y.heap.size = bX_ at *
    refine lstH (l' := #[true, true, true, true, true, false, false, false, false, false, true, false, false]) (by kernel_rfl) ?_
    have F := And.intro GU (And.intro RT (And.intro BX LX))
    clear GU RT BX LX
    revert F
    revert bX_
    revert z
    exact t100_.out
    )
    )
    focus (
    intro y bX_ F
    obtain ⟨GU, RT, BX, LX⟩ := F
    have hHeld := HCx.out _ GU
    clear hHeld
    refine wpAnyH_ready (rs := [5]) (by kernel_rfl) (by simp) ?_
    refine AllReadyH.cons rfl (fun K hK => ?_) AllReadyH.nil
    focus (
    rw [if_pos]
    rotate_left
    · kernel_rfl
    have HCall := hideIt (HS.out y RT)
    go_wp2_with (go_at_call 72; refine HCall.out.mono ?_; rintro e z ⟨rfl, RT1, gg⟩; refine Hid.out ?_)
    refine hidp ?_
    refine hK.out _ _ (HCx.out _ (GS.up GU gg)) (fun hHeld => ?_)
    clear hK K HCall
    try simp only [List.setIfInBounds_toArray, List.set_cons_zero, List.set_cons_succ]
    replace GU := GS.up GU gg
    replace BX := BX.gr gg.g (by simp; omega)
    try clear gB
    clear gg RT
    clear hHeld
    refine lstH (l' := #[true, true, true, true, true, true, false, false, false, false, true, false, false]) (by kernel_rfl) ?_
    have F := And.intro GU (And.intro RT1 (And.intro BX LX))
    clear GU RT1 BX LX
    revert F
    revert bX_
    revert z
    exact t1_100_.out
    )
    )
    focus (
    intro y F
    obtain ⟨GU, RT1⟩ := F
    have hHeld := HCx.out _ GU
    clear hHeld
    refine wpAnyH_ready (rs := [6, 10]) (by kernel_rfl) (by simp) ?_
    refine AllReadyH.cons rfl (fun K hK => ?_) (AllReadyH.cons rfl (fun K hK => ?_) AllReadyH.nil)
    focus (
    rw [if_pos]
    rotate_left
    · kernel_rfl
    have HCall := hideIt (HR.out y GU)
    go_wp2_with (go_at_call 71; refine HCall.out.mono ?_; rintro e z ⟨r, a, k9, c, a2, k2, c2, rfl, RI, RQ0, gB, gg⟩; refine Hid.out ?_)
    refine hidp ?_
    refine hK.out _ _ (HCx.out _ (GS.up GU gg)) (fun hHeld => ?_)
    clear hK K HCall
    try simp only [List.setIfInBounds_toArray, List.set_cons_zero, List.set_cons_succ]
    have RQ : (z.ownsRow W.heap.size 79 2 (.slice a k9 c) k9 (ecells (orA r).es) ∧ z.ownsRow W.heap.size 3 1 (.slice a2 k2 c2) k2 (ic (orA r).ls) ∧ k9 ≤ 100 ∧ k2 ≤ 100) := And.intro (own_mono RQ0.1 GU.size) (And.intro (own_mono RQ0.2.1 GU.size) RQ0.2.2)
    clear RQ0
    replace GU := GS.up GU gg
    replace RT1 := RT1.below gB
    try clear gB
    clear gg
    replace hHeld := HCx.out _ GU
    refine wpAnyH_take (i := 7) (v := ?_) rfl (by kernel_rfl) (by kernel_rfl) (by kernel_rfl) (fun _ _ _ h => h) (Or.inl ⟨by rfl, ?_⟩) (by assumption) ?_
    rotate_left
    · intro w hSw; (try dsimp only at hSw); go_simp; try with_reducible rfl
    try simp only [Act.put, List.getElem_toArray, List.getElem_cons_succ, List.getElem_cons_zero, List.setIfInBounds_toArray, List.set_cons_zero, List.set_cons_succ]
    refine wpAnyH_take (i := 8) (v := ?_) rfl (by kernel_rfl) (by kernel_rfl) (by kernel_rfl) (fun _ _ _ h => h) (Or.inl ⟨by rfl, ?_⟩) (by assumption) ?_
    rotate_left
    · intro w hSw; (try dsimp only at hSw); go_simp; try with_reducible rfl
    try simp only [Act.put, List.getElem_toArray, List.getElem_cons_succ, List.getElem_cons_zero, List.setIfInBounds_toArray, List.set_cons_zero, List.set_cons_succ]
    refine wpAnyH_take (i := 9) (v := ?_) rfl (by kernel_rfl) (by kernel_rfl) (by kernel_rfl) (fun _ _ _ h => h) (Or.inl ⟨by rfl, ?_⟩) (by assumption) ?_
    rotate_left
    · intro w hSw; (try dsimp only at hSw); go_simp; try with_reducible rfl
    try simp only [Act.put, List.getElem_toArray, List.getElem_cons_succ, List.getElem_cons_zero, List.setIfInBounds_toArray, List.set_cons_zero, List.set_cons_succ]
    clear hHeld
    refine lstH (l' := #[true, true, true, true, true, true, true, true, true, true, false, false, false]) (by kernel_rfl) ?_
    have F := And.intro GU (And.intro RT1 (And.intro RI RQ))
    clear GU RT1 RI RQ
    revert F
    revert c2
    revert k2
    revert a2
    revert c
    revert k9
    revert a
    revert r
    revert z
    exact t1_2_.out
    )
    focus (
    go_simp
    refine hK.out _ _ (HCx.out _ (GU.alloc _)) (fun hHeld => ?_)
    clear hK K
    try simp only [List.setIfInBounds_toArray, List.set_cons_zero, List.set_cons_succ]
    obtain ⟨z, hz⟩ : ∃ z, z = y.alloc (.cells #[.int .i64 0, .bool false, .slice none 0 0, .slice none 0 0] 36) := ⟨_, rfl⟩
    have gB : Below y.heap.size y z := by rw [hz]; exact (Below.refl _ _).alloc (Nat.le_refl _) _
    have gg : GS G n y z := GU.below gB
    have BX : BxQ z y.heap.size 36 #[.int .i64 0, .bool false, .slice none 0 0, .slice none 0 0] := by rw [hz]; exact BxQ.new _ _ _
    have LX : W.heap.size ≤ y.heap.size := GU.size
    replace GU := GS.up GU gg
    replace RT1 := RT1.below gB
    rw [← hz]
    clear hz gg gB hHeld
    generalize y.heap.size = bX_ at *
    refine lstH (l' := #[true, true, true, true, true, true, false, false, false, false, true, false, false]) (by kernel_rfl) ?_
    have F := And.intro GU (And.intro RT1 (And.intro BX LX))
    clear GU RT1 BX LX
    revert F
    revert bX_
    revert z
    exact t1_100_.out
    )
    )
    focus (
    intro y bX_ F
    obtain ⟨GU, RT1, BX, LX⟩ := F
    have hHeld := HCx.out _ GU
    clear hHeld
    refine wpAnyH_ready (rs := [6]) (by kernel_rfl) (by simp) ?_
    refine AllReadyH.cons rfl (fun K hK => ?_) AllReadyH.nil
    focus (
    rw [if_pos]
    rotate_left
    · kernel_rfl
    have HCall := hideIt (HR.out y GU)
    go_wp2_with (go_at_call 71; refine HCall.out.mono ?_; rintro e z ⟨r, a, k9, c, a2, k2, c2, rfl, RI, RQ0, gB, gg⟩; refine Hid.out ?_)
    refine hidp ?_
    refine hK.out _ _ (HCx.out _ (GS.up GU gg)) (fun hHeld => ?_)
    clear hK K HCall
    try simp only [List.setIfInBounds_toArray, List.set_cons_zero, List.set_cons_succ]
    have RQ : (z.ownsRow W.heap.size 79 2 (.slice a k9 c) k9 (ecells (orA r).es) ∧ z.ownsRow W.heap.size 3 1 (.slice a2 k2 c2) k2 (ic (orA r).ls) ∧ k9 ≤ 100 ∧ k2 ≤ 100) := And.intro (own_mono RQ0.1 GU.size) (And.intro (own_mono RQ0.2.1 GU.size) RQ0.2.2)
    clear RQ0
    replace GU := GS.up GU gg
    replace RT1 := RT1.below gB
    replace BX := BX.gr gg.g (by simp; omega)
    try clear gB
    clear gg
    replace hHeld := HCx.out _ GU
    refine wpAnyH_take (i := 7) (v := ?_) rfl (by kernel_rfl) (by kernel_rfl) (by kernel_rfl) (fun _ _ _ h => h) (Or.inl ⟨by rfl, ?_⟩) (by assumption) ?_
    rotate_left
    · intro w hSw; (try dsimp only at hSw); go_simp; try with_reducible rfl
    try simp only [Act.put, List.getElem_toArray, List.getElem_cons_succ, List.getElem_cons_zero, List.setIfInBounds_toArray, List.set_cons_zero, List.set_cons_succ]
    refine wpAnyH_take (i := 8) (v := ?_) rfl (by kernel_rfl) (by kernel_rfl) (by kernel_rfl) (fun _ _ _ h => h) (Or.inl ⟨by rfl, ?_⟩) (by assumption) ?_
    rotate_left
    · intro w hSw; (try dsimp only at hSw); go_simp; try with_reducible rfl
    try simp only [Act.put, List.getElem_toArray, List.getElem_cons_succ, List.getElem_cons_zero, List.setIfInBounds_toArray, List.set_cons_zero, List.set_cons_succ]
    refine wpAnyH_take (i := 9) (v := ?_) rfl (by kernel_rfl) (by kernel_rfl) (by kernel_rfl) (fun _ _ _ h => h) (Or.inl ⟨by rfl, ?_⟩) (by assumption) ?_
    rotate_left
    · intro w hSw; (try dsimp only at hSw); go_simp; try with_reducible rfl
    try simp only [Act.put, List.getElem_toArray, List.getElem_cons_succ, List.getElem_cons_zero, List.setIfInBounds_toArray, List.set_cons_zero, List.set_cons_succ]
    clear hHeld
    refine lstH (l' := #[true, true, true, true, true, true, true, true, true, true, true, false, false]) (by kernel_rfl) ?_
    have F := And.intro GU (And.intro RT1 (And.intro RI (And.intro RQ (And.intro BX LX))))
    clear GU RT1 RI RQ BX LX
    revert F
    revert bX_
    revert c2
    revert k2
    revert a2
    revert c
    revert k9
    revert a
    revert r
    revert z
    exact t1_2_100_.out
    )
    )
    focus (
    intro y r a k9 c a2 k2 c2 F
    obtain ⟨GU, RT1, RI, RQ⟩ := F
    have hHeld := HCx.out _ GU
    clear hHeld
    refine wpAnyH_ready (rs := [10]) (by kernel_rfl) (by simp) ?_
    refine AllReadyH.cons rfl (fun K hK => ?_) AllReadyH.nil
    focus (
    go_simp
    refine hK.out _ _ (HCx.out _ (GU.alloc _)) (fun hHeld => ?_)
    clear hK K
    try simp only [List.setIfInBounds_toArray, List.set_cons_zero, List.set_cons_succ]
    obtain ⟨z, hz⟩ : ∃ z, z = y.alloc (.cells #[.int .i64 0, .bool false, .slice none 0 0, .slice none 0 0] 36) := ⟨_, rfl⟩
    have gB : Below y.heap.size y z := by rw [hz]; exact (Below.refl _ _).alloc (Nat.le_refl _) _
    have gg : GS G n y z := GU.below gB
    have BX : BxQ z y.heap.size 36 #[.int .i64 0, .bool false, .slice none 0 0, .slice none 0 0] := by rw [hz]; exact BxQ.new _ _ _
    have LX : W.heap.size ≤ y.heap.size := GU.size
    replace GU := GS.up GU gg
    replace RT1 := RT1.below gB
    replace RQ := And.intro (own_gr RQ.1 gg.g (by omega)) (And.intro (own_gr RQ.2.1 gg.g (by omega)) RQ.2.2)
    rw [← hz]
    clear hz gg gB hHeld
    generalize y.heap.size = bX_ at *
    refine lstH (l' := #[true, true, true, true, true, true, true, true, true, true, true, false, false]) (by kernel_rfl) ?_
    have F := And.intro GU (And.intro RT1 (And.intro RI (And.intro RQ (And.intro BX LX))))
    clear GU RT1 RI RQ BX LX
    revert F
    revert bX_
    revert c2
    revert k2
    revert a2
    revert c
    revert k9
    revert a
    revert r
    revert z
    exact t1_2_100_.out
    )
    )
    focus (
    intro y r a k9 c a2 k2 c2 bX_ F
    obtain ⟨GU, RT1, RI, RQ, BX, LX⟩ := F
    have hHeld := HCx.out _ GU
    have bs0 := BX.at 0 rfl
    have bs1 := BX.at 1 rfl
    have bs2 := BX.at 2 rfl
    have bs3 := BX.at 3 rfl
    have fs0 := BX.frozen 0
    have fs1 := BX.frozen 1
    have fs2 := BX.frozen 2
    have fs3 := BX.frozen 3
    refine wpAnyH_ready (rs := [11]) (by kernel_rfl) (by simp) ?_
    refine AllReadyH.cons rfl (fun K hK => ?_) AllReadyH.nil
    go_simp
    obtain ⟨v1, hv1⟩ : ∃ v1, v1 = ((((y.setCell ⟨bX_, 0, none⟩ (.int .i64 (orA r).num)).setCell ⟨bX_, 1, none⟩ (.bool (orA r).ok)).setCell ⟨bX_, 2, none⟩ (.slice a k9 c)).setCell ⟨bX_, 3, none⟩ (.slice a2 k2 c2)) := ⟨_, rfl⟩
    have e1 : v1 = setQ y bX_ 0 [.int .i64 (orA r).num, .bool (orA r).ok, .slice a k9 c, .slice a2 k2 c2] := hv1
    have GV : W.grownBy v1 (some G) := by rw [e1]; exact gr_new GU.g (gr_setQ 0 _) LX
    have RV : RrAt v1 G n s (j + k) := by rw [e1]; exact RT1.grown (gr_setQ 0 _) (by simp; omega)
    have BV : BxQ v1 bX_ 36 #[.int .i64 (orA r).num, .bool (orA r).ok, .slice a k9 c, .slice a2 k2 c2] := by rw [e1]; exact BX.setQ 0 [.int .i64 (orA r).num, .bool (orA r).ok, .slice a k9 c, .slice a2 k2 c2]
    have RW : (v1.ownsRow W.heap.size 79 2 (.slice a k9 c) k9 (ecells (orA r).es) ∧ v1.ownsRow W.heap.size 3 1 (.slice a2 k2 c2) k2 (ic (orA r).ls) ∧ k9 ≤ 100 ∧ k2 ≤ 100) := by rw [e1]; exact And.intro (own_kQ RQ.1 BX (by decide) 0 _) (And.intro (own_kQ RQ.2.1 BX (by decide) 0 _) RQ.2.2)
    have HF := hideIt RV.c0
    clear e1
    rw [← hv1] at *
    refine hK.out _ _ HF.out (fun hHeld => ?_)
    clear hK K
    try simp only [List.setIfInBounds_toArray, List.set_cons_zero, List.set_cons_succ]
    clear hv1 HF bs0 bs1 bs2 bs3 fs0 fs1 fs2 fs3
    refine wpAnyH_take (i := 12) (v := ?_) rfl (by kernel_rfl) (by kernel_rfl) (by kernel_rfl) (fun _ _ _ h => h) (Or.inl ⟨by rfl, ?_⟩) (by assumption) ?_
    rotate_left
    · intro w hSw; (try dsimp only at hSw); go_simp; try with_reducible rfl
    try simp only [Act.put, List.getElem_toArray, List.getElem_cons_succ, List.getElem_cons_zero, List.setIfInBounds_toArray, List.set_cons_zero, List.set_cons_succ]
    clear hHeld
    refine wpAnyH_done (by kernel_rfl) ?_ _
    have HGV := hideIt GV
    have HRV := hideIt RV
    have HBV := hideIt BV
    have HRW := hideIt RW
    have HRI := hideIt RI
    have HLX := hideIt LX
    clear BX GU RT1 RQ RI GV RV BV RW LX
    go_wp2_with fail
    go_meet
    exact ⟨bX_, r, a, k9, c, a2, k2, c2, rfl, rfl, HRI.out, HGV.out, HRV.out, HBV.out, HRW.out, HLX.out⟩
    )
    )
  case rest =>
    obtain ⟨b, r, a, k9, c, a2, k2, c2, rfl, rfl, RI, GV, RV, BV, RQ, LX⟩ := hcut
    have HRI := hideIt RI
    have HGV := hideIt GV
    have HRV := hideIt RV
    have HBV := hideIt BV
    have HRQ := hideIt RQ
    have hGb : G ≠ b := by omega
    cases r with
    | none =>
      clear RI GV RV BV RQ
      go_wp2_with (go_at_call 64; refine (HNn.out _).mono ?_; rintro e w2 ⟨rfl, hw1⟩; subst hw1)
      exact ⟨rfl, none, HRI.out, rfl, gr_trans HB.out HGV.out⟩
    | some r =>
      have HX2 := hideIt (HX.out.gr GV (by simp; omega))
      have bv0 := BV.at 0 rfl
      have bv1 := BV.at 1 rfl
      have bv2 := BV.at 2 rfl
      have bv3 := BV.at 3 rfl
      have bx0 := HX2.out.at 0 rfl
      have fx0 := HX2.out.frozen 0
      have bx1 := HX2.out.at 1 rfl
      have fx1 := HX2.out.frozen 1
      have bx2 := HX2.out.at 2 rfl
      have fx2 := HX2.out.frozen 2
      have bx3 := HX2.out.at 3 rfl
      have fx3 := HX2.out.frozen 3
      clear RI GV RV BV RQ
      obtain ⟨V, hV⟩ : ∃ V, V = ((((wc.setCell ⟨w.heap.size, 0, none⟩ (.int .i64 (orA (some r)).num)).setCell ⟨w.heap.size, 1, none⟩ (.bool (orA (some r)).ok)).setCell ⟨w.heap.size, 2, none⟩ (.slice a k9 c)).setCell ⟨w.heap.size, 3, none⟩ (.slice a2 k2 c2)) := ⟨_, rfl⟩
      have eV : V = setQ wc w.heap.size 0 [.int .i64 (orA (some r)).num, .bool (orA (some r)).ok, .slice a k9 c, .slice a2 k2 c2] := hV
      have BR : BxQ V w.heap.size 36 #[.int .i64 (orA (some r)).num, .bool (orA (some r)).ok, .slice a k9 c, .slice a2 k2 c2] := by rw [eV]; exact HX2.out.setQ 0 [.int .i64 (orA (some r)).num, .bool (orA (some r)).ok, .slice a k9 c, .slice a2 k2 c2]
      have HRV2 : Hid (RrAt V G n s (j + k)) := by show RrAt _ _ _ _ _; rw [eV]; exact HRV.out.grown (gr_setQ 0 _) (by simp; omega)
      have HRQ2 : Hid ((V.ownsRow w.heap.size 79 2 (.slice a k9 c) k9 (ecells r.es) ∧ V.ownsRow w.heap.size 3 1 (.slice a2 k2 c2) k2 (ic r.ls) ∧ k9 ≤ 100 ∧ k2 ≤ 100)) := by
        show _ ∧ _
        rw [eV]
        exact And.intro (own_mono (own_kQ HRQ.out.1 HX2.out (by decide) 0 _) (by omega)) (And.intro (own_mono (own_kQ HRQ.out.2.1 HX2.out (by decide) 0 _) (by omega)) HRQ.out.2.2)
      have HG2 : Hid (w.grownBy V (some G)) := by show World.grownBy _ _ _; rw [eV]; exact gr_own (gr_trans HB.out HGV.out) (gr_setQ 0 _) (fun q hq => by simp at hq; omega)
      have br0 := BR.at 0 rfl
      have br1 := BR.at 1 rfl
      have br2 := BR.at 2 rfl
      have br3 := BR.at 3 rfl
      clear eV BR
      go_wp2_with (go_at_call 64; refine (HNy.out _).mono ?_; rintro e w2 ⟨rfl, hw1⟩; subst hw1)
      rw [← hV]
      clear hV
      exact bodyPost_ret (v := .agg #[.int .i64 (orA (some r)).num, .bool (orA (some r)).ok, .slice a k9 c, .slice a2 k2 c2]) (by simp [results, Tryz.results62, go_sem, br0, br1, br2, br3]) rfl ⟨some r, HRI.out, a, k9, c, a2, k2, c2, rfl, HRV2.out, HRQ2.out, HG2.out⟩
set_option maxRecDepth 100000 in
set_option maxHeartbeats 4000000 in
theorem order_no (n : Int) (s : ByteArray) (hs : s.size ≤ 1048576) (p : Nat) (hk : ShBad s p) (G : Nat) (w : World) (h : RrAt w G n s p) :
    Calls Tryz.prog 63 #[.pointer (some ⟨G, 0, none⟩)] w fun e w' => e = .panicked PV ∧ w.grownBy w' (some G) := by
  obtain ⟨W, hW⟩ : ∃ W, W = w.alloc (.cells #[.int .i64 0, .int .i64 0, .slice none 0 0, .int .i64 0] 38) := ⟨_, rfl⟩
  have bW : Below w.heap.size w W := by rw [hW]; exact (Below.refl _ _).alloc (Nat.le_refl _) _
  have HW := hideIt (h.below bW)
  have hGw := h.lt
  have hGW : G < W.heap.size := HW.out.lt
  have HB := hideIt (gr_below bW (some G))
  have HS : Hid (∀ u, RrAt u G n s p → Calls Tryz.prog 72 #[.pointer (some ⟨G, 0, none⟩)] u fun e v => e = .panicked PV ∧ u.grownBy v (some G)) := fun u hu => short_no n s hs p hk G u hu
  have hS0 : W.drew.cell? ⟨G, 0, none⟩ = some (.int .i64 n) := HW.out.c0
  clear h hk bW
  go_enter Tryz.func63, Tryz.ntmps63
  go_upto_region 1 with fail
  rw [← hW]
  clear hW
  refine wp_region_held_drew (S := (fun u => u.cell? ⟨G, 0, none⟩ = some (.int .i64 n))) (by kernel_rfl) hS0 (fun hHeld => ?_)
  refine wpAnyH_take (i := 0) (v := ?_) rfl (by kernel_rfl) (by kernel_rfl) (by kernel_rfl) (fun _ _ _ h => h) (Or.inl ⟨by rfl, ?_⟩) (by assumption) ?_
  rotate_left
  · intro w hSw; (try dsimp only at hSw); go_simp; try with_reducible rfl
  try simp only [Act.put, List.getElem_toArray, List.getElem_cons_zero, List.setIfInBounds_toArray, List.set_cons_zero, List.set_cons_succ]
  refine wpAnyH_take (i := 1) (v := ?_) rfl (by kernel_rfl) (by kernel_rfl) (by kernel_rfl) (fun _ _ _ h => h) (Or.inl ⟨by rfl, ?_⟩) (by assumption) ?_
  rotate_left
  · intro w hSw; (try dsimp only at hSw); go_simp; try with_reducible rfl
  try simp only [Act.put, List.getElem_toArray, List.getElem_cons_succ, List.getElem_cons_zero, List.setIfInBounds_toArray, List.set_cons_zero, List.set_cons_succ]
  refine wpAnyH_take (i := 2) (v := ?_) rfl (by kernel_rfl) (by kernel_rfl) (by kernel_rfl) (fun _ _ _ h => h) (Or.inl ⟨by rfl, ?_⟩) (by assumption) ?_
  rotate_left
  · intro w hSw; (try dsimp only at hSw); go_simp; try with_reducible rfl
  try simp only [Act.put, List.getElem_toArray, List.getElem_cons_succ, List.getElem_cons_zero, List.setIfInBounds_toArray, List.set_cons_zero, List.set_cons_succ]
  refine wpAnyH_take (i := 3) (v := ?_) rfl (by kernel_rfl) (by kernel_rfl) (by kernel_rfl) (fun _ _ _ h => h) (Or.inl ⟨by rfl, ?_⟩) (by assumption) ?_
  rotate_left
  · intro w hSw; (try dsimp only at hSw); go_simp; try with_reducible rfl
  try simp only [Act.put, List.getElem_toArray, List.getElem_cons_succ, List.getElem_cons_zero, List.setIfInBounds_toArray, List.set_cons_zero, List.set_cons_succ]
  refine wpAnyH_take (i := 4) (v := ?_) rfl (by kernel_rfl) (by kernel_rfl) (by kernel_rfl) (fun _ _ _ h => h) (Or.inl ⟨by rfl, ?_⟩) (by assumption) ?_
  rotate_left
  · intro w hSw; (try dsimp only at hSw); go_simp; try with_reducible rfl
  try simp only [Act.put, List.getElem_toArray, List.getElem_cons_succ, List.getElem_cons_zero, List.setIfInBounds_toArray, List.set_cons_zero, List.set_cons_succ]
  have RT : RrAt W.drew G n s p := HW.out.grown (gr_drew _ none) (by simp)
  refine wpAnyH_ready (rs := [5, 10]) (by kernel_rfl) (by simp) ?_
  refine AllReadyH.cons rfl (fun K hK => ?_) (AllReadyH.cons rfl (fun K hK => ?_) AllReadyH.nil)
  · rw [if_pos]
    rotate_left
    · kernel_rfl
    have HCall := hideIt (HS.out _ RT)
    go_wp2_with (go_at_call 72; refine HCall.out.mono ?_; rintro e z ⟨rfl, gg⟩; refine Hid.out ?_)
    refine hidp ?_
    exact ⟨rfl, rfl, gr_trans (gr_trans HB.out (gr_drew _ _)) gg⟩
  · go_simp
    have RT2 : RrAt (W.alloc (.cells #[.int .i64 0, .int .i64 0, .slice none 0 0, .int .i64 0] 38)).drew G n s p := RT.grown (World.grownBy_alloc _ _ none) (by simp)
    refine hK.out _ _ RT2.c0 (fun hHeld => ?_)
    clear hK K
    try simp only [List.setIfInBounds_toArray, List.set_cons_zero, List.set_cons_succ]
    refine wpAnyH_ready (rs := [5]) (by kernel_rfl) (by simp) ?_
    refine AllReadyH.cons rfl (fun K hK => ?_) AllReadyH.nil
    rw [if_pos]
    rotate_left
    · kernel_rfl
    have HCall := hideIt (HS.out _ RT2)
    go_wp2_with (go_at_call 72; refine HCall.out.mono ?_; rintro e z ⟨rfl, gg⟩; refine Hid.out ?_)
    refine hidp ?_
    exact ⟨rfl, rfl, gr_trans (gr_trans HB.out (gr_trans (gr_drew _ _) (World.grownBy_alloc W.drew _ _))) gg⟩
/-- what the reader of orders answers behind a short text: it, or a panic -/
def RsO (w w' : World) (G : Nat) (n : Int) (s : ByteArray) (q : Nat) (e : Ending) : Option OrdV → Prop
  | none => e = .panicked PV ∧ w.grownBy w' (some G)
  | some r => ∃ (a : Option Addr) (k9 c : Nat), e = .returned (.agg #[.int .i64 r.num, .int .i64 r.op, .slice a k9 c, .int .i64 r.v]) ∧ RrAt w' G n s q ∧ (w'.ownsRow w.heap.size 79 2 (.slice a k9 c) k9 (ecells r.es) ∧ k9 ≤ 100) ∧ w.grownBy w' (some G)
set_option maxRecDepth 100000 in
set_option maxHeartbeats 8000000 in
theorem order_yes (n : Int) (s : ByteArray) (hs : s.size ≤ 1048576) (p : Nat) (k j : Nat) (hk : ShOk s p k j) (G : Nat) (w : World) (h : RrAt w G n s p) :
    Calls Tryz.prog 63 #[.pointer (some ⟨G, 0, none⟩)] w fun e w' => ∃ r, IsO n (s.extract j (j + k)).data.toList r ∧ RsO w w' G n s (j + k) e r := by
  obtain ⟨W, hW⟩ : ∃ W, W = w.alloc (.cells #[.int .i64 0, .int .i64 0, .slice none 0 0, .int .i64 0] 38) := ⟨_, rfl⟩
  have bW : Below w.heap.size w W := by rw [hW]; exact (Below.refl _ _).alloc (Nat.le_refl _) _
  have HW := hideIt (h.below bW)
  have hGw := h.lt
  have hGW : G < W.heap.size := HW.out.lt
  have HX : Hid (BxQ W w.heap.size 38 #[.int .i64 0, .int .i64 0, .slice none 0 0, .int .i64 0]) := by show BxQ _ _ _ _; rw [hW]; exact BxQ.new _ _ _
  have zW : W.heap.size = w.heap.size + 1 := by rw [hW]; simp
  have HB := hideIt (gr_below bW (some G))
  have HS : Hid (∀ u, RrAt u G n s p → Calls Tryz.prog 72 #[.pointer (some ⟨G, 0, none⟩)] u fun e v => e = .returned (.string (s.extract j (j + k))) ∧ RrAt v G n s (j + k) ∧ GS G n u v) := fun u hu => (short_yes n s hs p k j hk G u hu).mono fun e v ⟨he, hv, hg⟩ => ⟨he, hv, hg, hv.c0, hv.lt⟩
  have HR : Hid (∀ u : World, GS G n W u → Calls Tryz.prog 73 #[.int .i64 n, .string (s.extract j (j + k))] u fun e v => ∃ (r : Option OrdV) (a : Option Addr) (k9 c : Nat), e = .returned (.tuple #[.agg #[.int .i64 (orO r).num, .int .i64 (orO r).op, .slice a k9 c, .int .i64 (orO r).v], .bool r.isSome]) ∧ IsO n (s.extract j (j + k)).data.toList r ∧ (v.ownsRow u.heap.size 79 2 (.slice a k9 c) k9 (ecells (orO r).es) ∧ k9 ≤ 100) ∧ Below u.heap.size u v ∧ GS G n u v) := fun u hu => (iReadOrder_any n (s.extract j (j + k)) (cut_size s j k hs) u).mono fun e v ⟨r, hr, a, k9, c, he, q1, q3, hb⟩ => ⟨r, a, k9, c, he, hr, ⟨q1, q3⟩, hb, hu.below hb⟩
  have HCx : Hid (∀ u, GS G n W u → (fun u => u.cell? ⟨G, 0, none⟩ = some (.int .i64 n)) u) := fun u hu => hu.c
  have hS0 : W.drew.cell? ⟨G, 0, none⟩ = some (.int .i64 n) := HW.out.c0
  have HNy := hideIt (need_yes G)
  have HNn := hideIt (need_no G)
  clear h hk bW
  go_enter Tryz.func63, Tryz.ntmps63
  go_upto_region 1 with fail
  rw [← hW]
  clear hW
  go_cut [3, 4] (fun x1 x2 wx => ∃ (b : Nat) (r : Option OrdV) (a : Option Addr) (k9 c : Nat), x1 = .pointer (some ⟨b, 0, none⟩) ∧ x2 = .bool r.isSome ∧ IsO n (s.extract j (j + k)).data.toList r ∧ W.grownBy wx (some G) ∧ RrAt wx G n s (j + k) ∧ BxQ wx b 38 #[.int .i64 (orO r).num, .int .i64 (orO r).op, .slice a k9 c, .int .i64 (orO r).v] ∧ (wx.ownsRow W.heap.size 79 2 (.slice a k9 c) k9 (ecells (orO r).es) ∧ k9 ≤ 100) ∧ W.heap.size ≤ b)
  case first =>
    (
    apply viaT
    intro t1_2_100_
    apply viaT
    intro t1_2_
    apply viaT
    intro t1_100_
    apply viaT
    intro t1_
    apply viaT
    intro t100_
    focus (
    refine wp_region_held_drew (S := (fun u => u.cell? ⟨G, 0, none⟩ = some (.int .i64 n))) (by kernel_rfl) hS0 (fun hHeld => ?_)
    refine wpAnyH_take (i := 0) (v := ?_) rfl (by kernel_rfl) (by kernel_rfl) (by kernel_rfl) (fun _ _ _ h => h) (Or.inl ⟨by rfl, ?_⟩) (by assumption) ?_
    rotate_left
    · intro w hSw; (try dsimp only at hSw); go_simp; try with_reducible rfl
    try simp only [Act.put, List.getElem_toArray, List.getElem_cons_zero, List.setIfInBounds_toArray, List.set_cons_zero, List.set_cons_succ]
    refine wpAnyH_take (i := 1) (v := ?_) rfl (by kernel_rfl) (by kernel_rfl) (by kernel_rfl) (fun _ _ _ h => h) (Or.inl ⟨by rfl, ?_⟩) (by assumption) ?_
    rotate_left
    · intro w hSw; (try dsimp only at hSw); go_simp; try with_reducible rfl
    try simp only [Act.put, List.getElem_toArray, List.getElem_cons_succ, List.getElem_cons_zero, List.setIfInBounds_toArray, List.set_cons_zero, List.set_cons_succ]
    refine wpAnyH_take (i := 2) (v := ?_) rfl (by kernel_rfl) (by kernel_rfl) (by kernel_rfl) (fun _ _ _ h => h) (Or.inl ⟨by rfl, ?_⟩) (by assumption) ?_
    rotate_left
    · intro w hSw; (try dsimp only at hSw); go_simp; try with_reducible rfl
    try simp only [Act.put, List.getElem_toArray, List.getElem_cons_succ, List.getElem_cons_zero, List.setIfInBounds_toArray, List.set_cons_zero, List.set_cons_succ]
    refine wpAnyH_take (i := 3) (v := ?_) rfl (by kernel_rfl) (by kernel_rfl) (by kernel_rfl) (fun _ _ _ h => h) (Or.inl ⟨by rfl, ?_⟩) (by assumption) ?_
    rotate_left
    · intro w hSw; (try dsimp only at hSw); go_simp; try with_reducible rfl
    try simp only [Act.put, List.getElem_toArray, List.getElem_cons_succ, List.getElem_cons_zero, List.setIfInBounds_toArray, List.set_cons_zero, List.set_cons_succ]
    refine wpAnyH_take (i := 4) (v := ?_) rfl (by kernel_rfl) (by kernel_rfl) (by kernel_rfl) (fun _ _ _ h => h) (Or.inl ⟨by rfl, ?_⟩) (by assumption) ?_
    rotate_left
    · intro w hSw; (try dsimp only at hSw); go_simp; try with_reducible rfl
    try simp only [Act.put, List.getElem_toArray, List.getElem_cons_succ, List.getElem_cons_zero, List.setIfInBounds_toArray, List.set_cons_zero, List.set_cons_succ]
    obtain ⟨y, hy⟩ : ∃ y, y = W.drew := ⟨_, rfl⟩
    have GU : GS G n W y := by rw [hy]; exact ⟨gr_drew _ _, HW.out.c0, hGW⟩
    have RT : RrAt y G n s p := by rw [hy]; exact HW.out.grown (gr_drew _ none) (by simp)
    rw [← hy]
    clear hy hHeld
    refine wpAnyH_ready (rs := [5, 10]) (by kernel_rfl) (by simp) ?_
    refine AllReadyH.cons rfl (fun K hK => ?_) (AllReadyH.cons rfl (fun K hK => ?_) AllReadyH.nil)
    focus (
    rw [if_pos]
    rotate_left
    · kernel_rfl
    have HCall := hideIt (HS.out y RT)
    go_wp2_with (go_at_call 72; refine HCall.out.mono ?_; rintro e z ⟨rfl, RT1, gg⟩; refine Hid.out ?_)
    refine hidp ?_
    refine hK.out _ _ (HCx.out _ (GS.up GU gg)) (fun hHeld => ?_)
    clear hK K HCall
    try simp only [Act.put, List.getElem_toArray, List.getElem_cons_succ, List.getElem_cons_zero, List.setIfInBounds_toArray, List.set_cons_zero, List.set_cons_succ]
    replace GU := GS.up GU gg
    try clear gB
    clear gg RT
    clear hHeld
    refine lstH (l' := #[true, true, true, true, true, true, false, false, false, false, false, false, false]) (by kernel_rfl) ?_
    have F := And.intro GU RT1
    clear GU RT1
    revert F
    revert z
    exact t1_.out
    )
    focus (
    go_simp
    refine hK.out _ _ (HCx.out _ (GU.alloc _)) (fun hHeld => ?_)
    clear hK K
    try simp only [Act.put, List.getElem_toArray, List.getElem_cons_succ, List.getElem_cons_zero, List.setIfInBounds_toArray, List.set_cons_zero, List.set_cons_succ]
    obtain ⟨z, hz⟩ : ∃ z, z = y.alloc (.cells #[.int .i64 0, .int .i64 0, .slice none 0 0, .int .i64 0] 38) := ⟨_, rfl⟩
    have gB : Below y.heap.size y z := by rw [hz]; exact (Below.refl _ _).alloc (Nat.le_refl _) _
    have gg : GS G n y z := GU.below gB
    have BX : BxQ z y.heap.size 38 #[.int .i64 0, .int .i64 0, .slice none 0 0, .int .i64 0] := by rw [hz]; exact BxQ.new _ _ _
    have LX : W.heap.size ≤ y.heap.size := GU.size
    replace GU := GS.up GU gg
    replace RT := RT.below gB
    rw [← hz]
    clear hz gg gB hHeld
    generalize y.heap.size = bX_ at *
    refine lstH (l' := #[true, true, true, true, true, false, false, false, false, false, true, false, false]) (by kernel_rfl) ?_
    have F := And.intro GU (And.intro RT (And.intro BX LX))
    clear GU RT BX LX
    revert F
    revert bX_
    revert z
    exact t100_.out
    )
    )
    focus (
    intro y bX_ F
    obtain ⟨GU, RT, BX, LX⟩ := F
    have hHeld := HCx.out _ GU
    clear hHeld
    refine wpAnyH_ready (rs := [5]) (by kernel_rfl) (by simp) ?_
    refine AllReadyH.cons rfl (fun K hK => ?_) AllReadyH.nil
    focus (
    rw [if_pos]
    rotate_left
    · kernel_rfl
    have HCall := hideIt (HS.out y RT)
    go_wp2_with (go_at_call 72; refine HCall.out.mono ?_; rintro e z ⟨rfl, RT1, gg⟩; refine Hid.out ?_)
    refine hidp ?_
    refine hK.out _ _ (HCx.out _ (GS.up GU gg)) (fun hHeld => ?_)
    clear hK K HCall
    try simp only [List.setIfInBounds_toArray, List.set_cons_zero, List.set_cons_succ]
    replace GU := GS.up GU gg
    replace BX := BX.gr gg.g (by simp; omega)
    try clear gB
    clear gg RT
    clear hHeld
    refine lstH (l' := #[true, true, true, true, true, true, false, false, false, false, true, false, false]) (by kernel_rfl) ?_
    have F := And.intro GU (And.intro RT1 (And.intro BX LX))
    clear GU RT1 BX LX
    revert F
    revert bX_
    revert z
    exact t1_100_.out
    )
    )
    focus (
    intro y F
    obtain ⟨GU, RT1⟩ := F
    have hHeld := HCx.out _ GU
    clear hHeld
    refine wpAnyH_ready (rs := [6, 10]) (by kernel_rfl) (by simp) ?_
    refine AllReadyH.cons rfl (fun K hK => ?_) (AllReadyH.cons rfl (fun K hK => ?_) AllReadyH.nil)
    focus (
    rw [if_pos]
    rotate_left
    · kernel_rfl
    have HCall := hideIt (HR.out y GU)
    go_wp2_with (go_at_call 73; refine HCall.out.mono ?_; rintro e z ⟨r, a, k9, c, rfl, RI, RQ0, gB, gg⟩; refine Hid.out ?_)
    refine hidp ?_
    refine hK.out _ _ (HCx.out _ (GS.up GU gg)) (fun hHeld => ?_)
    clear hK K HCall
    try simp only [List.setIfInBounds_toArray, List.set_cons_zero, List.set_cons_succ]
    have RQ : (z.ownsRow W.heap.size 79 2 (.slice a k9 c) k9 (ecells (orO r).es) ∧ k9 ≤ 100) := And.intro (own_mono RQ0.1 GU.size) RQ0.2
    clear RQ0
    replace GU := GS.up GU gg
    replace RT1 := RT1.below gB
    try clear gB
    clear gg
    replace hHeld := HCx.out _ GU
    refine wpAnyH_take (i := 7) (v := ?_) rfl (by kernel_rfl) (by kernel_rfl) (by kernel_rfl) (fun _ _ _ h => h) (Or.inl ⟨by rfl, ?_⟩) (by assumption) ?_
    rotate_left
    · intro w hSw; (try dsimp only at hSw); go_simp; try with_reducible rfl
    try simp only [Act.put, List.getElem_toArray, List.getElem_cons_succ, List.getElem_cons_zero, List.setIfInBounds_toArray, List.set_cons_zero, List.set_cons_succ]
    refine wpAnyH_take (i := 8) (v := ?_) rfl (by kernel_rfl) (by kernel_rfl) (by kernel_rfl) (fun _ _ _ h => h) (Or.inl ⟨by rfl, ?_⟩) (by assumption) ?_
    rotate_left
    · intro w hSw; (try dsimp only at hSw); go_simp; try with_reducible rfl
    try simp only [Act.put, List.getElem_toArray, List.getElem_cons_succ, List.getElem_cons_zero, List.setIfInBounds_toArray, List.set_cons_zero, List.set_cons_succ]
    refine wpAnyH_take (i := 9) (v := ?_) rfl (by kernel_rfl) (by kernel_rfl) (by kernel_rfl) (fun _ _ _ h => h) (Or.inl ⟨by rfl, ?_⟩) (by assumption) ?_
    rotate_left
    · intro w hSw; (try dsimp only at hSw); go_simp; try with_reducible rfl
    try simp only [Act.put, List.getElem_toArray, List.getElem_cons_succ, List.getElem_cons_zero, List.setIfInBounds_toArray, List.set_cons_zero, List.set_cons_succ]
    clear hHeld
    refine lstH (l' := #[true, true, true, true, true, true, true, true, true, true, false, false, false]) (by kernel_rfl) ?_
    have F := And.intro GU (And.intro RT1 (And.intro RI RQ))
    clear GU RT1 RI RQ
    revert F
    revert c
    revert k9
    revert a
    revert r
    revert z
    exact t1_2_.out
    )
    focus (
    go_simp
    refine hK.out _ _ (HCx.out _ (GU.alloc _)) (fun hHeld => ?_)
    clear hK K
    try simp only [List.setIfInBounds_toArray, List.set_cons_zero, List.set_cons_succ]
    obtain ⟨z, hz⟩ : ∃ z, z = y.alloc (.cells #[.int .i64 0, .int .i64 0, .slice none 0 0, .int .i64 0] 38) := ⟨_, rfl⟩
    have gB : Below y.heap.size y z := by rw [hz]; exact (Below.refl _ _).alloc (Nat.le_refl _) _
    have gg : GS G n y z := GU.below gB
    have BX : BxQ z y.heap.size 38 #[.int .i64 0, .int .i64 0, .slice none 0 0, .int .i64 0] := by rw [hz]; exact BxQ.new _ _ _
    have LX : W.heap.size ≤ y.heap.size := GU.size
    replace GU := GS.up GU gg
    replace RT1 := RT1.below gB
    rw [← hz]
    clear hz gg gB hHeld
    generalize y.heap.size = bX_ at *
    refine lstH (l' := #[true, true, true, true, true, true, false, false, false, false, true, false, false]) (by kernel_rfl) ?_
    have F := And.intro GU (And.intro RT1 (And.intro BX LX))
    clear GU RT1 BX LX
    revert F
    revert bX_
    revert z
    exact t1_100_.out
    )
    )
    focus (
    intro y bX_ F
    obtain ⟨GU, RT1, BX, LX⟩ := F
    have hHeld := HCx.out _ GU
    clear hHeld
    refine wpAnyH_ready (rs := [6]) (by kernel_rfl) (by simp) ?_
    refine AllReadyH.cons rfl (fun K hK => ?_) AllReadyH.nil
    focus (
    rw [if_pos]
    rotate_left
    · kernel_rfl
    have HCall := hideIt (HR.out y GU)
    go_wp2_with (go_at_call 73; refine HCall.out.mono ?_; rintro e z ⟨r, a, k9, c, rfl, RI, RQ0, gB, gg⟩; refine Hid.out ?_)
    refine hidp ?_
    refine hK.out _ _ (HCx.out _ (GS.up GU gg)) (fun hHeld => ?_)
    clear hK K HCall
    try simp only [List.setIfInBounds_toArray, List.set_cons_zero, List.set_cons_succ]
    have RQ : (z.ownsRow W.heap.size 79 2 (.slice a k9 c) k9 (ecells (orO r).es) ∧ k9 ≤ 100) := And.intro (own_mono RQ0.1 GU.size) RQ0.2
    clear RQ0
    replace GU := GS.up GU gg
    replace RT1 := RT1.below gB
    replace BX := BX.gr gg.g (by simp; omega)
    try clear gB
    clear gg
    replace hHeld := HCx.out _ GU
    refine wpAnyH_take (i := 7) (v := ?_) rfl (by kernel_rfl) (by kernel_rfl) (by kernel_rfl) (fun _ _ _ h => h) (Or.inl ⟨by rfl, ?_⟩) (by assumption) ?_
    rotate_left
    · intro w hSw; (try dsimp only at hSw); go_simp; try with_reducible rfl
    try simp only [Act.put, List.getElem_toArray, List.getElem_cons_succ, List.getElem_cons_zero, List.setIfInBounds_toArray, List.set_cons_zero, List.set_cons_succ]
    refine wpAnyH_take (i := 8) (v := ?_) rfl (by kernel_rfl) (by kernel_rfl) (by kernel_rfl) (fun _ _ _ h => h) (Or.inl ⟨by rfl, ?_⟩) (by assumption) ?_
    rotate_left
    · intro w hSw; (try dsimp only at hSw); go_simp; try with_reducible rfl
    try simp only [Act.put, List.getElem_toArray, List.getElem_cons_succ, List.getElem_cons_zero, List.setIfInBounds_toArray, List.set_cons_zero, List.set_cons_succ]
    refine wpAnyH_take (i := 9) (v := ?_) rfl (by kernel_rfl) (by kernel_rfl) (by kernel_rfl) (fun _ _ _ h => h) (Or.inl ⟨by rfl, ?_⟩) (by assumption) ?_
    rotate_left
    · intro w hSw; (try dsimp only at hSw); go_simp; try with_reducible rfl
    try simp only [Act.put, List.getElem_toArray, List.getElem_cons_succ, List.getElem_cons_zero, List.setIfInBounds_toArray, List.set_cons_zero, List.set_cons_succ]
    clear hHeld
    refine lstH (l' := #[true, true, true, true, true, true, true, true, true, true, true, false, false]) (by kernel_rfl) ?_
    have F := And.intro GU (And.intro RT1 (And.intro RI (And.intro RQ (And.intro BX LX))))
    clear GU RT1 RI RQ BX LX
    revert F
    revert bX_
    revert c
    revert k9
    revert a
    revert r
    revert z
    exact t1_2_100_.out
    )
    )
    focus (
    intro y r a k9 c F
    obtain ⟨GU, RT1, RI, RQ⟩ := F
    have hHeld := HCx.out _ GU
    clear hHeld
    refine wpAnyH_ready (rs := [10]) (by kernel_rfl) (by simp) ?_
    refine AllReadyH.cons rfl (fun K hK => ?_) AllReadyH.nil
    focus (
    go_simp
    refine hK.out _ _ (HCx.out _ (GU.alloc _)) (fun hHeld => ?_)
    clear hK K
    try simp only [List.setIfInBounds_toArray, List.set_cons_zero, List.set_cons_succ]
    obtain ⟨z, hz⟩ : ∃ z, z = y.alloc (.cells #[.int .i64 0, .int .i64 0, .slice none 0 0, .int .i64 0] 38) := ⟨_, rfl⟩
    have gB : Below y.heap.size y z := by rw [hz]; exact (Below.refl _ _).alloc (Nat.le_refl _) _
    have gg : GS G n y z := GU.below gB
    have BX : BxQ z y.heap.size 38 #[.int .i64 0, .int .i64 0, .slice none 0 0, .int .i64 0] := by rw [hz]; exact BxQ.new _ _ _
    have LX : W.heap.size ≤ y.heap.size := GU.size
    replace GU := GS.up GU gg
    replace RT1 := RT1.below gB
    replace RQ := And.intro (own_gr RQ.1 gg.g (by omega)) RQ.2
    rw [← hz]
    clear hz gg gB hHeld
    generalize y.heap.size = bX_ at *
    refine lstH (l' := #[true, true, true, true, true, true, true, true, true, true, true, false, false]) (by kernel_rfl) ?_
    have F := And.intro GU (And.intro RT1 (And.intro RI (And.intro RQ (And.intro BX LX))))
    clear GU RT1 RI RQ BX LX
    revert F
    revert bX_
    revert c
    revert k9
    revert a
    revert r
    revert z
    exact t1_2_100_.out
    )
    )
    focus (
    intro y r a k9 c bX_ F
    obtain ⟨GU, RT1, RI, RQ, BX, LX⟩ := F
    have hHeld := HCx.out _ GU
    have bs0 := BX.at 0 rfl
    have bs1 := BX.at 1 rfl
    have bs2 := BX.at 2 rfl
    have bs3 := BX.at 3 rfl
    have fs0 := BX.frozen 0
    have fs1 := BX.frozen 1
    have fs2 := BX.frozen 2
    have fs3 := BX.frozen 3
    refine wpAnyH_ready (rs := [11]) (by kernel_rfl) (by simp) ?_
    refine AllReadyH.cons rfl (fun K hK => ?_) AllReadyH.nil
    go_simp
    obtain ⟨v1, hv1⟩ : ∃ v1, v1 = ((((y.setCell ⟨bX_, 0, none⟩ (.int .i64 (orO r).num)).setCell ⟨bX_, 1, none⟩ (.int .i64 (orO r).op)).setCell ⟨bX_, 2, none⟩ (.slice a k9 c)).setCell ⟨bX_, 3, none⟩ (.int .i64 (orO r).v)) := ⟨_, rfl⟩
    have e1 : v1 = setQ y bX_ 0 [.int .i64 (orO r).num, .int .i64 (orO r).op, .slice a k9 c, .int .i64 (orO r).v] := hv1
    have GV : W.grownBy v1 (some G) := by rw [e1]; exact gr_new GU.g (gr_setQ 0 _) LX
    have RV : RrAt v1 G n s (j + k) := by rw [e1]; exact RT1.grown (gr_setQ 0 _) (by simp; omega)
    have BV : BxQ v1 bX_ 38 #[.int .i64 (orO r).num, .int .i64 (orO r).op, .slice a k9 c, .int .i64 (orO r).v] := by rw [e1]; exact BX.setQ 0 [.int .i64 (orO r).num, .int .i64 (orO r).op, .slice a k9 c, .int .i64 (orO r).v]
    have RW : (v1.ownsRow W.heap.size 79 2 (.slice a k9 c) k9 (ecells (orO r).es) ∧ k9 ≤ 100) := by rw [e1]; exact And.intro (own_kQ RQ.1 BX (by decide) 0 _) RQ.2
    have HF := hideIt RV.c0
    clear e1
    rw [← hv1] at *
    refine hK.out _ _ HF.out (fun hHeld => ?_)
    clear hK K
    try simp only [List.setIfInBounds_toArray, List.set_cons_zero, List.set_cons_succ]
    clear hv1 HF bs0 bs1 bs2 bs3 fs0 fs1 fs2 fs3
    refine wpAnyH_take (i := 12) (v := ?_) rfl (by kernel_rfl) (by kernel_rfl) (by kernel_rfl) (fun _ _ _ h => h) (Or.inl ⟨by rfl, ?_⟩) (by assumption) ?_
    rotate_left
    · intro w hSw; (try dsimp only at hSw); go_simp; try with_reducible rfl
    try simp only [Act.put, List.getElem_toArray, List.getElem_cons_succ, List.getElem_cons_zero, List.setIfInBounds_toArray, List.set_cons_zero, List.set_cons_succ]
    clear hHeld
    refine wpAnyH_done (by kernel_rfl) ?_ _
    have HGV := hideIt GV
    have HRV := hideIt RV
    have HBV := hideIt BV
    have HRW := hideIt RW
    have HRI := hideIt RI
    have HLX := hideIt LX
    clear BX GU RT1 RQ RI GV RV BV RW LX
    go_wp2_with fail
    go_meet
    exact ⟨bX_, r, a, k9, c, rfl, rfl, HRI.out, HGV.out, HRV.out, HBV.out, HRW.out, HLX.out⟩
    )
    )
  case rest =>
    obtain ⟨b, r, a, k9, c, rfl, rfl, RI, GV, RV, BV, RQ, LX⟩ := hcut
    have HRI := hideIt RI
    have HGV := hideIt GV
    have HRV := hideIt RV
    have HBV := hideIt BV
    have HRQ := hideIt RQ
    have hGb : G ≠ b := by omega
    cases r with
    | none =>
      clear RI GV RV BV RQ
      go_wp2_with (go_at_call 64; refine (HNn.out _).mono ?_; rintro e w2 ⟨rfl, hw1⟩; subst hw1)
      exact ⟨rfl, none, HRI.out, rfl, gr_trans HB.out HGV.out⟩
    | some r =>
      have HX2 := hideIt (HX.out.gr GV (by simp; omega))
      have bv0 := BV.at 0 rfl
      have bv1 := BV.at 1 rfl
      have bv2 := BV.at 2 rfl
      have bv3 := BV.at 3 rfl
      have bx0 := HX2.out.at 0 rfl
      have fx0 := HX2.out.frozen 0
      have bx1 := HX2.out.at 1 rfl
      have fx1 := HX2.out.frozen 1
      have bx2 := HX2.out.at 2 rfl
      have fx2 := HX2.out.frozen 2
      have bx3 := HX2.out.at 3 rfl
      have fx3 := HX2.out.frozen 3
      clear RI GV RV BV RQ
      obtain ⟨V, hV⟩ : ∃ V, V = ((((wc.setCell ⟨w.heap.size, 0, none⟩ (.int .i64 (orO (some r)).num)).setCell ⟨w.heap.size, 1, none⟩ (.int .i64 (orO (some r)).op)).setCell ⟨w.heap.size, 2, none⟩ (.slice a k9 c)).setCell ⟨w.heap.size, 3, none⟩ (.int .i64 (orO (some r)).v)) := ⟨_, rfl⟩
      have eV : V = setQ wc w.heap.size 0 [.int .i64 (orO (some r)).num, .int .i64 (orO (some r)).op, .slice a k9 c, .int .i64 (orO (some r)).v] := hV
      have BR : BxQ V w.heap.size 38 #[.int .i64 (orO (some r)).num, .int .i64 (orO (some r)).op, .slice a k9 c, .int .i64 (orO (some r)).v] := by rw [eV]; exact HX2.out.setQ 0 [.int .i64 (orO (some r)).num, .int .i64 (orO (some r)).op, .slice a k9 c, .int .i64 (orO (some r)).v]
      have HRV2 : Hid (RrAt V G n s (j + k)) := by show RrAt _ _ _ _ _; rw [eV]; exact HRV.out.grown (gr_setQ 0 _) (by simp; omega)
      have HRQ2 : Hid ((V.ownsRow w.heap.size 79 2 (.slice a k9 c) k9 (ecells r.es) ∧ k9 ≤ 100)) := by
        show _ ∧ _
        rw [eV]
        exact And.intro (own_mono (own_kQ HRQ.out.1 HX2.out (by decide) 0 _) (by omega)) HRQ.out.2
      have HG2 : Hid (w.grownBy V (some G)) := by show World.grownBy _ _ _; rw [eV]; exact gr_own (gr_trans HB.out HGV.out) (gr_setQ 0 _) (fun q hq => by simp at hq; omega)
      have br0 := BR.at 0 rfl
      have br1 := BR.at 1 rfl
      have br2 := BR.at 2 rfl
      have br3 := BR.at 3 rfl
      clear eV BR
      go_wp2_with (go_at_call 64; refine (HNy.out _).mono ?_; rintro e w2 ⟨rfl, hw1⟩; subst hw1)
      rw [← hV]
      clear hV
      exact bodyPost_ret (v := .agg #[.int .i64 (orO (some r)).num, .int .i64 (orO (some r)).op, .slice a k9 c, .int .i64 (orO (some r)).v]) (by simp [results, Tryz.results63, go_sem, br0, br1, br2, br3]) rfl ⟨some r, HRI.out, a, k9, c, rfl, HRV2.out, HRQ2.out, HG2.out⟩
end Go.Proofs.YtcieanhbipbhgaaGreatDoor
