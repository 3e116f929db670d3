/- The program's readEvent. -/
import Derived.Test.YtgdlpmmbeacejaaDoorKRw18
import Derived.Test.YtgdlpmmbeacejaaDoorKWu17
namespace Go.Proofs.YtgdlpmmbeacejaaDoor
open Go.RowKit C

/-- what readEvent answers -/
def ReOut (ps : List ByteArray) (lo bS M : Nat) (n0 : Int) (sh : Nat) (nE : Nat) (evs : List (EvR × Bool)) (u : World) (e : Ending) (u' : World) : Prop :=
  ((evC (sh : Int) ps = none ∨ nE = 70) ∧ e = .returned (.bool false) ∧ Below u.heap.size u u') ∨
  ∃ v g c, evC (sh : Int) ps = some v ∧ nE ≠ 70 ∧ e = .returned (.bool true) ∧ BxA u' bS 63 #[.map (some M), .int .i64 n0, .int .i64 (sh : Int), .slice (some ⟨g, 0, none⟩) (nE + 1) c] ∧
    u'.ownsRow lo 57 9 (.slice (some ⟨g, 0, none⟩) (nE + 1) c) (nE + 1) (evc (evs ++ [v])) ∧ Below lo u u'
/-- eventOf's answer in one form -/
theorem eo_one {ps : List ByteArray} {w w' : World} {e : Ending} (h : EoOut ps w e w') : ∃ (k0 k1 k2 k3 k4 k5 k6 : Int) (cb fl : Bool), e = .returned (.tuple #[.agg #[.int .i64 k0, .int .i64 k1, .int .i64 k2, .int .i64 k3, .int .i64 k4, .int .i64 k5, .int .i64 k6, .bool cb, .slice none 0 0], .bool fl]) ∧ Below w.heap.size w w' ∧
    ((fl = false ∧ evCut ps = none) ∨ (fl = true ∧ evCut ps = some (⟨k0, k1, k2, k3, k4, k5, k6⟩, cb))) := by
  obtain ⟨hb, ⟨h1, cb, h2⟩ | ⟨v, cb, h1, h2⟩⟩ := h
  · exact ⟨0, 0, 0, 0, 0, 0, 0, cb, false, h2, hb, .inl ⟨rfl, h1⟩⟩
  · exact ⟨v.k, v.nd, v.t, v.i, v.o, v.a, v.b, cb, true, h2, hb, .inr ⟨rfl, h1⟩⟩
set_option maxRecDepth 100000 in
set_option maxHeartbeats 16000000 in
theorem iEvent_any (x : ByteArray) (r : List ByteArray) (m : Nat) (hm : r.length = m) (hm9 : m ≤ 90) (hz : ∀ z ∈ x :: r, z.size ≤ 1000) (g5 c5 : Nat) (hcap : m + 1 ≤ c5) (u : World) (hv : Pv u g5 0 (x :: r))
    (lo bS M : Nat) (D : DataW Unit) (n0 : Int) (sh : Nat) (aE : Option Addr) (nE cE : Nat) (evs : List (EvR × Bool)) (hB : BxA u bS 63 #[.map (some M), .int .i64 n0, .int .i64 (sh : Int), .slice aE nE cE]) (hT : TW u M D 10) (hlo : lo ≤ u.heap.size) (hbS : lo ≤ bS) (hE : evs.length = nE ∧ nE ≤ 70) (ho : u.ownsRow lo 57 9 (.slice aE nE cE) nE (evc evs)) :
    Calls Tryd.prog 31 #[.pointer (some ⟨bS, 0, none⟩), .slice (some ⟨g5, 0, none⟩) (m + 1 : Nat) c5] u (ReOut (x :: r) lo bS M n0 sh nE evs u) := by
  have HEo := hideIt (iEventOf_any (x :: r) (m + 1) (by simp [hm]) (by omega) (by omega) hz g5 0 c5 hcap u hv bS M D hB.lt (hB.cell 0 rfl) hT)
  have HBx := hideIt hB
  have HOw := hideIt ho
  have Hlo := hideIt hlo
  have HbS := hideIt hbS
  have HEv := hideIt hE
  clear hz hm hv hB hT ho hlo hbS hE
  go_enter Tryd.func31, Tryd.ntmps31
  go_wp2_with (go_at_call 48; refine HEo.out.mono ?_; rintro e w6 h6; obtain ⟨k0_, k1_, k2_, k3_, k4_, k5_, k6_, cb, fl, rfl, b6, hfl⟩ := eo_one h6; refine Hid.out ?_)
  refine hidw ?_
  obtain ⟨W7, hW7⟩ : ∃ W7, W7 = w6.alloc (.cells #[.int .i64 k0_, .int .i64 k1_, .int .i64 k2_, .int .i64 k3_, .int .i64 k4_, .int .i64 k5_, .int .i64 k6_, .bool cb, .slice none 0 0] 57) := ⟨_, rfl⟩
  obtain ⟨bE, hbE⟩ : ∃ bE, bE = w6.heap.size := ⟨_, rfl⟩
  have b7 : Below u.heap.size u W7 := by rw [hW7]; exact b6.alloc b6.size _
  have X7 : BxA W7 bE 57 #[.int .i64 k0_, .int .i64 k1_, .int .i64 k2_, .int .i64 k3_, .int .i64 k4_, .int .i64 k5_, .int .i64 k6_, .bool cb, .slice none 0 0] := by rw [hW7, hbE]; exact BxA.new _ _ _
  have HX7 := hideIt X7
  have HBx7 := hideIt (HBx.out.up b7)
  have HB7 := hideIt b7
  have HlE : Hid (u.heap.size ≤ bE) := by show _ ≤ _; rw [hbE]; exact b6.size
  have Hfl := hideIt hfl
  have HOk := hideIt (fun v => iEventOk_any (sh : Int) k0_ k1_ k2_ k3_ k4_ k5_ k6_ cb none 0 0 v)
  clear b6 h6 X7 b7 hfl HEo HBx
  go_upto_region 2 with fail
  rw [← hW7, ← hbE]
  clear hW7 hbE
  cases fl with
  | false =>
    refine wp_region_held_drew (S := fun u => BxA u bE 57 #[.int .i64 k0_, .int .i64 k1_, .int .i64 k2_, .int .i64 k3_, .int .i64 k4_, .int .i64 k5_, .int .i64 k6_, .bool cb, .slice none 0 0] ∧ BxA u bS 63 #[.map (some M), .int .i64 n0, .int .i64 (sh : Int), .slice aE nE cE]) (by kernel_rfl) ⟨HX7.out.up (Below.refl _ _).drew, HBx7.out.up (Below.refl _ _).drew⟩ (fun hHeld => ?_)
    refine wpAnyH_take (i := 0) (v := ?_) rfl (by kernel_rfl) (by kernel_rfl) (by kernel_rfl) (fun _ _ _ h => h) (Or.inl ⟨by rfl, ?_⟩) (by assumption) ?_
    rotate_left
    · intro w hSw; (try dsimp only at hSw); go_simp; try with_reducible rfl
    try simp only [Act.put, List.getElem_toArray, List.getElem_cons_zero, List.setIfInBounds_toArray, List.set_cons_zero, List.set_cons_succ]
    refine wpAnyH_take (i := 1) (v := ?_) rfl (by kernel_rfl) (by kernel_rfl) (by kernel_rfl) (fun _ _ _ h => h) (Or.inl ⟨by rfl, ?_⟩) (by assumption) ?_
    rotate_left
    · intro w hSw; (try dsimp only at hSw); go_simp; try with_reducible rfl
    try simp only [Act.put, List.getElem_toArray, List.getElem_cons_succ, List.getElem_cons_zero, List.setIfInBounds_toArray, List.set_cons_zero, List.set_cons_succ]
    refine wpAnyH_take (i := 2) (v := ?_) rfl (by kernel_rfl) (by kernel_rfl) (by kernel_rfl) (fun _ _ _ h => h) (Or.inl ⟨by rfl, ?_⟩) (by assumption) ?_
    rotate_left
    · intro w hSw; (try dsimp only at hSw); go_simp; try with_reducible rfl
    try simp only [Act.put, List.getElem_toArray, List.getElem_cons_succ, List.getElem_cons_zero, List.setIfInBounds_toArray, List.set_cons_zero, List.set_cons_succ]
    refine wpAnyH_take (i := 3) rfl (by kernel_rfl) (by kernel_rfl) (by kernel_rfl) (fun _ _ _ h => h) (Or.inr ⟨by kernel_rfl, rfl⟩) (by assumption) ?_
    try simp only [Act.put, List.getElem_toArray, List.getElem_cons_succ, List.getElem_cons_zero, List.setIfInBounds_toArray, List.set_cons_zero, List.set_cons_succ]
    refine wpAnyH_take (i := 4) rfl (by kernel_rfl) (by kernel_rfl) (by kernel_rfl) (fun _ _ _ h => h) (Or.inr ⟨by kernel_rfl, rfl⟩) (by assumption) ?_
    try simp only [Act.put, List.getElem_toArray, List.getElem_cons_succ, List.getElem_cons_zero, List.setIfInBounds_toArray, List.set_cons_zero, List.set_cons_succ]
    refine wpAnyH_take (i := 5) rfl (by kernel_rfl) (by kernel_rfl) (by kernel_rfl) (fun _ _ _ h => h) (Or.inr ⟨by kernel_rfl, rfl⟩) (by assumption) ?_
    try simp only [Act.put, List.getElem_toArray, List.getElem_cons_succ, List.getElem_cons_zero, List.setIfInBounds_toArray, List.set_cons_zero, List.set_cons_succ]
    refine wpAnyH_take (i := 6) rfl (by kernel_rfl) (by kernel_rfl) (by kernel_rfl) (fun _ _ _ h => h) (Or.inr ⟨by kernel_rfl, rfl⟩) (by assumption) ?_
    try simp only [Act.put, List.getElem_toArray, List.getElem_cons_succ, List.getElem_cons_zero, List.setIfInBounds_toArray, List.set_cons_zero, List.set_cons_succ]
    refine wpAnyH_take (i := 7) rfl (by kernel_rfl) (by kernel_rfl) (by kernel_rfl) (fun _ _ _ h => h) (Or.inr ⟨by kernel_rfl, rfl⟩) (by assumption) ?_
    try simp only [Act.put, List.getElem_toArray, List.getElem_cons_succ, List.getElem_cons_zero, List.setIfInBounds_toArray, List.set_cons_zero, List.set_cons_succ]
    refine wpAnyH_take (i := 8) rfl (by kernel_rfl) (by kernel_rfl) (by kernel_rfl) (fun _ _ _ h => h) (Or.inr ⟨by kernel_rfl, rfl⟩) (by assumption) ?_
    try simp only [Act.put, List.getElem_toArray, List.getElem_cons_succ, List.getElem_cons_zero, List.setIfInBounds_toArray, List.set_cons_zero, List.set_cons_succ]
    refine wpAnyH_take (i := 9) rfl (by kernel_rfl) (by kernel_rfl) (by kernel_rfl) (fun _ _ _ h => h) (Or.inr ⟨by kernel_rfl, rfl⟩) (by assumption) ?_
    try simp only [Act.put, List.getElem_toArray, List.getElem_cons_succ, List.getElem_cons_zero, List.setIfInBounds_toArray, List.set_cons_zero, List.set_cons_succ]
    refine wpAnyH_take (i := 10) (v := ?_) rfl (by kernel_rfl) (by kernel_rfl) (by kernel_rfl) (fun _ _ _ h => h) (Or.inl ⟨by rfl, ?_⟩) (by assumption) ?_
    rotate_left
    · intro w hSw; (try dsimp only at hSw); go_simp; try with_reducible rfl
    try simp only [Act.put, List.getElem_toArray, List.getElem_cons_succ, List.getElem_cons_zero, List.setIfInBounds_toArray, List.set_cons_zero, List.set_cons_succ]
    refine wpAnyH_take (i := 11) (v := ?_) rfl (by kernel_rfl) (by kernel_rfl) (by kernel_rfl) (fun _ _ _ h => h) (Or.inl ⟨by rfl, ?_⟩) (by assumption) ?_
    rotate_left
    · intro w hSw; (try dsimp only at hSw); go_simp; try with_reducible rfl
    try simp only [Act.put, List.getElem_toArray, List.getElem_cons_succ, List.getElem_cons_zero, List.setIfInBounds_toArray, List.set_cons_zero, List.set_cons_succ]
    refine wpAnyH_take (i := 12) rfl (by kernel_rfl) (by kernel_rfl) (by kernel_rfl) (fun _ _ _ h => h) (Or.inr ⟨by kernel_rfl, rfl⟩) (by assumption) ?_
    try simp only [Act.put, List.getElem_toArray, List.getElem_cons_succ, List.getElem_cons_zero, List.setIfInBounds_toArray, List.set_cons_zero, List.set_cons_succ]
    refine wpAnyH_take (i := 13) rfl (by kernel_rfl) (by kernel_rfl) (by kernel_rfl) (fun _ _ _ h => h) (Or.inr ⟨by kernel_rfl, rfl⟩) (by assumption) ?_
    try simp only [Act.put, List.getElem_toArray, List.getElem_cons_succ, List.getElem_cons_zero, List.setIfInBounds_toArray, List.set_cons_zero, List.set_cons_succ]
    refine wpAnyH_take (i := 14) rfl (by kernel_rfl) (by kernel_rfl) (by kernel_rfl) (fun _ _ _ h => h) (Or.inr ⟨by kernel_rfl, rfl⟩) (by assumption) ?_
    try simp only [Act.put, List.getElem_toArray, List.getElem_cons_succ, List.getElem_cons_zero, List.setIfInBounds_toArray, List.set_cons_zero, List.set_cons_succ]
    refine wpAnyH_take (i := 15) rfl (by kernel_rfl) (by kernel_rfl) (by kernel_rfl) (fun _ _ _ h => h) (Or.inr ⟨by kernel_rfl, rfl⟩) (by assumption) ?_
    try simp only [Act.put, List.getElem_toArray, List.getElem_cons_succ, List.getElem_cons_zero, List.setIfInBounds_toArray, List.set_cons_zero, List.set_cons_succ]
    refine wpAnyH_take (i := 16) rfl (by kernel_rfl) (by kernel_rfl) (by kernel_rfl) (fun _ _ _ h => h) (Or.inr ⟨by kernel_rfl, rfl⟩) (by assumption) ?_
    try simp only [Act.put, List.getElem_toArray, List.getElem_cons_succ, List.getElem_cons_zero, List.setIfInBounds_toArray, List.set_cons_zero, List.set_cons_succ]
    refine wpAnyH_take (i := 17) rfl (by kernel_rfl) (by kernel_rfl) (by kernel_rfl) (fun _ _ _ h => h) (Or.inr ⟨by kernel_rfl, rfl⟩) (by assumption) ?_
    try simp only [Act.put, List.getElem_toArray, List.getElem_cons_succ, List.getElem_cons_zero, List.setIfInBounds_toArray, List.set_cons_zero, List.set_cons_succ]
    refine wpAnyH_take (i := 18) (v := ?_) rfl (by kernel_rfl) (by kernel_rfl) (by kernel_rfl) (fun _ _ _ h => h) (Or.inl ⟨by rfl, ?_⟩) (by assumption) ?_
    rotate_left
    · intro w hSw; (try dsimp only at hSw); go_simp; try with_reducible rfl
    try simp only [Act.put, List.getElem_toArray, List.getElem_cons_succ, List.getElem_cons_zero, List.setIfInBounds_toArray, List.set_cons_zero, List.set_cons_succ]
    refine wpAnyH_done (by kernel_rfl) ?_ _
    clear hHeld
    have hev : evC (sh : Int) (x :: r) = none := by
      rcases Hfl.out with ⟨_, h⟩ | ⟨h, _⟩
      · unfold evC; rw [h]
      · cases h
    have HF := hideIt hev
    have HB9 : Hid (Below u.heap.size u W7.drew) := HB7.out.drew
    clear hev
    go_wp2
    go_ret
    exact .inl ⟨.inl HF.out, rfl, HB9.out⟩
  | true =>
    obtain ⟨fb, hfb⟩ : ∃ fb, fb = evB (sh : Int) k0_ k1_ k2_ k3_ k4_ k5_ k6_ 0 := ⟨_, rfl⟩
    rw [← hfb] at HOk
    have HFb := hideIt hfb
    clear hfb
    refine wp_region_held_drew (S := fun u => BxA u bE 57 #[.int .i64 k0_, .int .i64 k1_, .int .i64 k2_, .int .i64 k3_, .int .i64 k4_, .int .i64 k5_, .int .i64 k6_, .bool cb, .slice none 0 0] ∧ BxA u bS 63 #[.map (some M), .int .i64 n0, .int .i64 (sh : Int), .slice aE nE cE]) (by kernel_rfl) ⟨HX7.out.up (Below.refl _ _).drew, HBx7.out.up (Below.refl _ _).drew⟩ (fun hHeld => ?_)
    refine wpAnyH_take (i := 0) (v := ?_) rfl (by kernel_rfl) (by kernel_rfl) (by kernel_rfl) (fun _ _ _ h => h) (Or.inl ⟨by rfl, ?_⟩) (by assumption) ?_
    rotate_left
    · intro w hSw; (try dsimp only at hSw); go_simp; try with_reducible rfl
    try simp only [Act.put, List.getElem_toArray, List.getElem_cons_zero, List.setIfInBounds_toArray, List.set_cons_zero, List.set_cons_succ]
    refine wpAnyH_take (i := 1) (v := ?_) rfl (by kernel_rfl) (by kernel_rfl) (by kernel_rfl) (fun _ _ _ h => h) (Or.inl ⟨by rfl, ?_⟩) (by assumption) ?_
    rotate_left
    · intro w hSw; (try dsimp only at hSw); go_simp; try with_reducible rfl
    try simp only [Act.put, List.getElem_toArray, List.getElem_cons_succ, List.getElem_cons_zero, List.setIfInBounds_toArray, List.set_cons_zero, List.set_cons_succ]
    refine wpAnyH_take (i := 2) (v := ?_) rfl (by kernel_rfl) (by kernel_rfl) (by kernel_rfl) (fun _ _ _ h => h) (Or.inl ⟨by rfl, ?_⟩) (by assumption) ?_
    rotate_left
    · intro w hSw; (try dsimp only at hSw); go_simp; try with_reducible rfl
    try simp only [Act.put, List.getElem_toArray, List.getElem_cons_succ, List.getElem_cons_zero, List.setIfInBounds_toArray, List.set_cons_zero, List.set_cons_succ]
    refine wpAnyH_take (i := 3) (v := ?_) rfl (by kernel_rfl) (by kernel_rfl) (by kernel_rfl) (fun _ _ _ h => h) (Or.inl ⟨by rfl, ?_⟩) (by assumption) ?_
    rotate_left
    · intro w hSw; (try dsimp only at hSw); go_simp; try with_reducible rfl
    try simp only [Act.put, List.getElem_toArray, List.getElem_cons_succ, List.getElem_cons_zero, List.setIfInBounds_toArray, List.set_cons_zero, List.set_cons_succ]
    refine wpAnyH_take (i := 4) (v := ?_) rfl (by kernel_rfl) (by kernel_rfl) (by kernel_rfl) (fun _ _ _ h => h) (Or.inl ⟨by rfl, ?_⟩) (by assumption) ?_
    rotate_left
    · intro w hSw; (try dsimp only at hSw); go_simp; try with_reducible rfl
    try simp only [Act.put, List.getElem_toArray, List.getElem_cons_succ, List.getElem_cons_zero, List.setIfInBounds_toArray, List.set_cons_zero, List.set_cons_succ]
    refine wpAnyH_take (i := 5) (v := ?_) rfl (by kernel_rfl) (by kernel_rfl) (by kernel_rfl) (fun _ _ _ h => h) (Or.inl ⟨by rfl, ?_⟩) (by assumption) ?_
    rotate_left
    · intro w hSw; (try dsimp only at hSw); go_simp; try with_reducible rfl
    try simp only [Act.put, List.getElem_toArray, List.getElem_cons_succ, List.getElem_cons_zero, List.setIfInBounds_toArray, List.set_cons_zero, List.set_cons_succ]
    refine wpAnyH_take (i := 6) (v := ?_) rfl (by kernel_rfl) (by kernel_rfl) (by kernel_rfl) (fun _ _ _ h => h) (Or.inl ⟨by rfl, ?_⟩) (by assumption) ?_
    rotate_left
    · intro w hSw; have hq := hSw.2.cell 2 rfl; clear hSw; go_simp; try with_reducible rfl
    try simp only [Act.put, List.getElem_toArray, List.getElem_cons_succ, List.getElem_cons_zero, List.setIfInBounds_toArray, List.set_cons_zero, List.set_cons_succ]
    refine wpAnyH_take (i := 7) (v := .agg #[.int .i64 k0_, .int .i64 k1_, .int .i64 k2_, .int .i64 k3_, .int .i64 k4_, .int .i64 k5_, .int .i64 k6_, .bool cb, .slice none 0 0]) rfl (by kernel_rfl) (by kernel_rfl) (by kernel_rfl) (fun _ _ _ h => h) (yieldsIf_load_mid (by kernel_rfl) 57 (.tmp 5) rfl bE 0 rfl [.int .i64 k0_, .int .i64 k1_, .int .i64 k2_, .int .i64 k3_, .int .i64 k4_, .int .i64 k5_, .int .i64 k6_, .bool cb, .slice none 0 0] _ (fun _ h => BxA.range (l := [.int .i64 k0_, .int .i64 k1_, .int .i64 k2_, .int .i64 k3_, .int .i64 k4_, .int .i64 k5_, .int .i64 k6_, .bool cb, .slice none 0 0]) h.1) Tryd.underlying57 rfl (by kernel_rfl)) (by assumption) ?_
    try simp only [Act.put, List.getElem_toArray, List.getElem_cons_succ, List.getElem_cons_zero, List.setIfInBounds_toArray, List.set_cons_zero, List.set_cons_succ]
    refine wpAnyH_ready (rs := [8]) (by kernel_rfl) (by simp) ?_
    refine AllReadyH.cons rfl (fun K hK => ?_) AllReadyH.nil
    rw [if_pos]
    rotate_left
    · kernel_rfl
    go_wp2_with (go_at_call 49; refine (HOk.out W7.drew).mono ?_; rintro e w8 ⟨rfl, b8⟩; refine Hid.out ?_)
    refine hidw ?_
    have b9 : Below W7.heap.size W7 w8 := (Below.refl W7.heap.size W7).drew.trans b8
    have HB9 : Hid (Below u.heap.size u w8) := HB7.out.trans (b9.mono HB7.out.size)
    have HX8 := hideIt (HX7.out.up b9)
    have HBx8 := hideIt (HBx7.out.up b9)
    have Hb9 := hideIt b9
    clear b8 b9
    refine hK.out _ _ ⟨HX8.out, HBx8.out⟩ (fun hHeld => ?_)
    clear hK K
    try simp only [List.setIfInBounds_toArray, List.set_cons_zero, List.set_cons_succ]
    cases fb with
    | false =>
      refine wpAnyH_take (i := 9) (v := ?_) rfl (by kernel_rfl) (by kernel_rfl) (by kernel_rfl) (fun _ _ _ h => h) (Or.inl ⟨by rfl, ?_⟩) (by assumption) ?_
      rotate_left
      · intro w hSw; (try dsimp only at hSw); go_simp; try with_reducible rfl
      try simp only [Act.put, List.getElem_toArray, List.getElem_cons_succ, List.getElem_cons_zero, List.setIfInBounds_toArray, List.set_cons_zero, List.set_cons_succ]
      refine wpAnyH_take (i := 10) (v := ?_) rfl (by kernel_rfl) (by kernel_rfl) (by kernel_rfl) (fun _ _ _ h => h) (Or.inl ⟨by rfl, ?_⟩) (by assumption) ?_
      rotate_left
      · intro w hSw; (try dsimp only at hSw); go_simp; try with_reducible rfl
      try simp only [Act.put, List.getElem_toArray, List.getElem_cons_succ, List.getElem_cons_zero, List.setIfInBounds_toArray, List.set_cons_zero, List.set_cons_succ]
      refine wpAnyH_take (i := 11) (v := ?_) rfl (by kernel_rfl) (by kernel_rfl) (by kernel_rfl) (fun _ _ _ h => h) (Or.inl ⟨by rfl, ?_⟩) (by assumption) ?_
      rotate_left
      · intro w hSw; (try dsimp only at hSw); go_simp; try with_reducible rfl
      try simp only [Act.put, List.getElem_toArray, List.getElem_cons_succ, List.getElem_cons_zero, List.setIfInBounds_toArray, List.set_cons_zero, List.set_cons_succ]
      refine wpAnyH_take (i := 12) rfl (by kernel_rfl) (by kernel_rfl) (by kernel_rfl) (fun _ _ _ h => h) (Or.inr ⟨by kernel_rfl, rfl⟩) (by assumption) ?_
      try simp only [Act.put, List.getElem_toArray, List.getElem_cons_succ, List.getElem_cons_zero, List.setIfInBounds_toArray, List.set_cons_zero, List.set_cons_succ]
      refine wpAnyH_take (i := 13) rfl (by kernel_rfl) (by kernel_rfl) (by kernel_rfl) (fun _ _ _ h => h) (Or.inr ⟨by kernel_rfl, rfl⟩) (by assumption) ?_
      try simp only [Act.put, List.getElem_toArray, List.getElem_cons_succ, List.getElem_cons_zero, List.setIfInBounds_toArray, List.set_cons_zero, List.set_cons_succ]
      refine wpAnyH_take (i := 14) rfl (by kernel_rfl) (by kernel_rfl) (by kernel_rfl) (fun _ _ _ h => h) (Or.inr ⟨by kernel_rfl, rfl⟩) (by assumption) ?_
      try simp only [Act.put, List.getElem_toArray, List.getElem_cons_succ, List.getElem_cons_zero, List.setIfInBounds_toArray, List.set_cons_zero, List.set_cons_succ]
      refine wpAnyH_take (i := 15) rfl (by kernel_rfl) (by kernel_rfl) (by kernel_rfl) (fun _ _ _ h => h) (Or.inr ⟨by kernel_rfl, rfl⟩) (by assumption) ?_
      try simp only [Act.put, List.getElem_toArray, List.getElem_cons_succ, List.getElem_cons_zero, List.setIfInBounds_toArray, List.set_cons_zero, List.set_cons_succ]
      refine wpAnyH_take (i := 16) rfl (by kernel_rfl) (by kernel_rfl) (by kernel_rfl) (fun _ _ _ h => h) (Or.inr ⟨by kernel_rfl, rfl⟩) (by assumption) ?_
      try simp only [Act.put, List.getElem_toArray, List.getElem_cons_succ, List.getElem_cons_zero, List.setIfInBounds_toArray, List.set_cons_zero, List.set_cons_succ]
      refine wpAnyH_take (i := 17) rfl (by kernel_rfl) (by kernel_rfl) (by kernel_rfl) (fun _ _ _ h => h) (Or.inr ⟨by kernel_rfl, rfl⟩) (by assumption) ?_
      try simp only [Act.put, List.getElem_toArray, List.getElem_cons_succ, List.getElem_cons_zero, List.setIfInBounds_toArray, List.set_cons_zero, List.set_cons_succ]
      refine wpAnyH_take (i := 18) (v := ?_) rfl (by kernel_rfl) (by kernel_rfl) (by kernel_rfl) (fun _ _ _ h => h) (Or.inl ⟨by rfl, ?_⟩) (by assumption) ?_
      rotate_left
      · intro w hSw; (try dsimp only at hSw); go_simp; try with_reducible rfl
      try simp only [Act.put, List.getElem_toArray, List.getElem_cons_succ, List.getElem_cons_zero, List.setIfInBounds_toArray, List.set_cons_zero, List.set_cons_succ]
      refine wpAnyH_done (by kernel_rfl) ?_ _
      clear hHeld
      have hv : evCut (x :: r) = some (⟨k0_, k1_, k2_, k3_, k4_, k5_, k6_⟩, cb) := by
        rcases Hfl.out with ⟨h, _⟩ | ⟨_, h⟩
        · cases h
        · exact h
      have hev : evC (sh : Int) (x :: r) = none := by
        unfold evC
        rw [hv]
        simp only [← HFb.out]
        rfl
      have HF := hideIt hev
      clear hev hv
      go_wp2
      go_ret
      exact .inl ⟨.inl HF.out, rfl, HB9.out⟩
    | true =>
      refine wpAnyH_take (i := 9) (v := ?_) rfl (by kernel_rfl) (by kernel_rfl) (by kernel_rfl) (fun _ _ _ h => h) (Or.inl ⟨by rfl, ?_⟩) (by assumption) ?_
      rotate_left
      · intro w hSw; (try dsimp only at hSw); go_simp; try with_reducible rfl
      try simp only [Act.put, List.getElem_toArray, List.getElem_cons_succ, List.getElem_cons_zero, List.setIfInBounds_toArray, List.set_cons_zero, List.set_cons_succ]
      refine wpAnyH_take (i := 10) (v := ?_) rfl (by kernel_rfl) (by kernel_rfl) (by kernel_rfl) (fun _ _ _ h => h) (Or.inl ⟨by rfl, ?_⟩) (by assumption) ?_
      rotate_left
      · intro w hSw; (try dsimp only at hSw); go_simp; try with_reducible rfl
      try simp only [Act.put, List.getElem_toArray, List.getElem_cons_succ, List.getElem_cons_zero, List.setIfInBounds_toArray, List.set_cons_zero, List.set_cons_succ]
      refine wpAnyH_take (i := 11) (v := ?_) rfl (by kernel_rfl) (by kernel_rfl) (by kernel_rfl) (fun _ _ _ h => h) (Or.inl ⟨by rfl, ?_⟩) (by assumption) ?_
      rotate_left
      · intro w hSw; (try dsimp only at hSw); go_simp; try with_reducible rfl
      try simp only [Act.put, List.getElem_toArray, List.getElem_cons_succ, List.getElem_cons_zero, List.setIfInBounds_toArray, List.set_cons_zero, List.set_cons_succ]
      refine wpAnyH_take (i := 12) (v := ?_) rfl (by kernel_rfl) (by kernel_rfl) (by kernel_rfl) (fun _ _ _ h => h) (Or.inl ⟨by rfl, ?_⟩) (by assumption) ?_
      rotate_left
      · intro w hSw; (try dsimp only at hSw); go_simp; try with_reducible rfl
      try simp only [Act.put, List.getElem_toArray, List.getElem_cons_succ, List.getElem_cons_zero, List.setIfInBounds_toArray, List.set_cons_zero, List.set_cons_succ]
      refine wpAnyH_take (i := 13) (v := ?_) rfl (by kernel_rfl) (by kernel_rfl) (by kernel_rfl) (fun _ _ _ h => h) (Or.inl ⟨by rfl, ?_⟩) (by assumption) ?_
      rotate_left
      · intro w hSw; (try dsimp only at hSw); go_simp; try with_reducible rfl
      try simp only [Act.put, List.getElem_toArray, List.getElem_cons_succ, List.getElem_cons_zero, List.setIfInBounds_toArray, List.set_cons_zero, List.set_cons_succ]
      refine wpAnyH_take (i := 14) (v := ?_) rfl (by kernel_rfl) (by kernel_rfl) (by kernel_rfl) (fun _ _ _ h => h) (Or.inl ⟨by rfl, ?_⟩) (by assumption) ?_
      rotate_left
      · intro w hSw; (try dsimp only at hSw); go_simp; try with_reducible rfl
      try simp only [Act.put, List.getElem_toArray, List.getElem_cons_succ, List.getElem_cons_zero, List.setIfInBounds_toArray, List.set_cons_zero, List.set_cons_succ]
      refine wpAnyH_take (i := 15) (v := ?_) rfl (by kernel_rfl) (by kernel_rfl) (by kernel_rfl) (fun _ _ _ h => h) (Or.inl ⟨by rfl, ?_⟩) (by assumption) ?_
      rotate_left
      · intro w hSw; have hq := hSw.2.cell 3 rfl; clear hSw; go_simp; try with_reducible rfl
      try simp only [Act.put, List.getElem_toArray, List.getElem_cons_succ, List.getElem_cons_zero, List.setIfInBounds_toArray, List.set_cons_zero, List.set_cons_succ]
      refine wpAnyH_take (i := 16) (v := ?_) rfl (by kernel_rfl) (by kernel_rfl) (by kernel_rfl) (fun _ _ _ h => h) (Or.inl ⟨by rfl, ?_⟩) (by assumption) ?_
      rotate_left
      · intro w hSw; (try dsimp only at hSw); go_simp; try with_reducible rfl
      try simp only [Act.put, List.getElem_toArray, List.getElem_cons_succ, List.getElem_cons_zero, List.setIfInBounds_toArray, List.set_cons_zero, List.set_cons_succ]
      refine wpAnyH_take (i := 17) (v := ?_) rfl (by kernel_rfl) (by kernel_rfl) (by kernel_rfl) (fun _ _ _ h => h) (Or.inl ⟨by rfl, ?_⟩) (by assumption) ?_
      rotate_left
      · intro w hSw; (try dsimp only at hSw); go_simp; try with_reducible rfl
      try simp only [Act.put, List.getElem_toArray, List.getElem_cons_succ, List.getElem_cons_zero, List.setIfInBounds_toArray, List.set_cons_zero, List.set_cons_succ]
      refine wpAnyH_take (i := 18) (v := ?_) rfl (by kernel_rfl) (by kernel_rfl) (by kernel_rfl) (fun _ _ _ h => h) (Or.inl ⟨by rfl, ?_⟩) (by assumption) ?_
      rotate_left
      · intro w hSw; (try dsimp only at hSw); go_simp; try with_reducible rfl
      try simp only [Act.put, List.getElem_toArray, List.getElem_cons_succ, List.getElem_cons_zero, List.setIfInBounds_toArray, List.set_cons_zero, List.set_cons_succ]
      refine wpAnyH_done (by kernel_rfl) ?_ _
      clear hHeld
      have hv : evCut (x :: r) = some (⟨k0_, k1_, k2_, k3_, k4_, k5_, k6_⟩, cb) := by
        rcases Hfl.out with ⟨h, _⟩ | ⟨_, h⟩
        · cases h
        · exact h
      have hev : evC (sh : Int) (x :: r) = some (⟨k0_, k1_, k2_, k3_, k4_, k5_, k6_⟩, cb) := by
        unfold evC
        rw [hv]
        simp only [← HFb.out, if_true]
      have HF := hideIt hev
      clear hev hv
      by_cases h70 : nE = 70
      · have e70 : ((nE : Int) == 70) = true := by simp; omega
        go_wp2
        go_ret
        exact .inl ⟨.inr h70, rfl, HB9.out⟩
      · have e70 : ((nE : Int) == 70) = false := by simp; omega
        obtain ⟨i0, hi, hz0, hz1, hz2⟩ := info_parts infoEv
        have hl8 : lo ≤ u.heap.size := Hlo.out
        have hn70 : nE ≤ 70 := HEv.out.2
        go_upto_region 4 with fail
        apply viaT
        intro t4_5_6_7_
        apply viaT
        intro t4_5_6_
        apply viaT
        intro t4_5_
        apply viaT
        intro t5_6_
        apply viaT
        intro t4_
        apply viaT
        intro t5_
        focus (
        refine wp_region_held_drew (S := fun _ => True) (by kernel_rfl) trivial (fun _ => ?_)
        refine wpAnyH_take (i := 0) (v := ?_) rfl (by kernel_rfl) (by kernel_rfl) (by kernel_rfl) (fun _ _ _ h => h) (Or.inl ⟨by rfl, ?_⟩) trivial ?_
        rotate_left
        · intro w hSw; (try dsimp only at hSw); go_simp; try with_reducible rfl
        try simp only [Act.put, List.getElem_toArray, List.getElem_cons_zero, List.setIfInBounds_toArray, List.set_cons_zero, List.set_cons_succ]
        refine wpAnyH_take (i := 1) (v := ?_) rfl (by kernel_rfl) (by kernel_rfl) (by kernel_rfl) (fun _ _ _ h => h) (Or.inl ⟨by rfl, ?_⟩) trivial ?_
        rotate_left
        · intro w hSw; (try dsimp only at hSw); go_simp; try with_reducible rfl
        try simp only [Act.put, List.getElem_toArray, List.getElem_cons_succ, List.getElem_cons_zero, List.setIfInBounds_toArray, List.set_cons_zero, List.set_cons_succ]
        refine wpAnyH_take (i := 2) (v := ?_) rfl (by kernel_rfl) (by kernel_rfl) (by kernel_rfl) (fun _ _ _ h => h) (Or.inl ⟨by rfl, ?_⟩) trivial ?_
        rotate_left
        · intro w hSw; (try dsimp only at hSw); go_simp; try with_reducible rfl
        try simp only [Act.put, List.getElem_toArray, List.getElem_cons_succ, List.getElem_cons_zero, List.setIfInBounds_toArray, List.set_cons_zero, List.set_cons_succ]
        refine wpAnyH_take (i := 3) (v := ?_) rfl (by kernel_rfl) (by kernel_rfl) (by kernel_rfl) (fun _ _ _ h => h) (Or.inl ⟨by rfl, ?_⟩) trivial ?_
        rotate_left
        · intro w hSw; (try dsimp only at hSw); go_simp; try with_reducible rfl
        try simp only [Act.put, List.getElem_toArray, List.getElem_cons_succ, List.getElem_cons_zero, List.setIfInBounds_toArray, List.set_cons_zero, List.set_cons_succ]
        obtain ⟨y, hy⟩ : ∃ y, y = w8.drew := ⟨_, rfl⟩
        have FO := own_up HOw.out HB9.out
        have FO := own_up FO (Below.refl _ w8).drew
        have FB : Below lo u w8.drew := (HB9.out.drew).mono Hlo.out
        have FS := HBx8.out.up (Below.refl w8.heap.size w8).drew
        have FX := HX8.out.up (Below.refl w8.heap.size w8).drew
        rw [← hy] at FO FB FS FX
        rw [← hy]
        clear hy
        refine wpAnyH_ready (rs := [4, 5]) (by kernel_rfl) (by simp) ?_
        refine AllReadyH.cons rfl (fun K hK => ?_) (AllReadyH.cons rfl (fun K hK => ?_) AllReadyH.nil)
        focus (
        have q3 := FS.cell 3 rfl
        go_simp
        refine hK.out _ _ trivial (fun _ => ?_)
        clear hK K
        try simp only [Act.put, List.getElem_toArray, List.getElem_cons_succ, List.getElem_cons_zero, List.setIfInBounds_toArray, List.set_cons_zero, List.set_cons_succ]
        clear q3
        refine lstH (l' := #[true, true, true, true, true, false, false, false, false, false, false]) (by kernel_rfl) ?_
        have F := And.intro FO (And.intro FB (And.intro FS FX))
        clear FO FB FS FX
        revert F
        revert y
        exact t4_.out
        )
        focus (
        have q0 := FX.cell 0 rfl
        have q1 := FX.cell 1 rfl
        have q2 := FX.cell 2 rfl
        have q3 := FX.cell 3 rfl
        have q4 := FX.cell 4 rfl
        have q5 := FX.cell 5 rfl
        have q6 := FX.cell 6 rfl
        have q7 := FX.cell 7 rfl
        have q8 := FX.cell 8 rfl
        go_simp
        refine hK.out _ _ trivial (fun _ => ?_)
        clear hK K
        try simp only [Act.put, List.getElem_toArray, List.getElem_cons_succ, List.getElem_cons_zero, List.setIfInBounds_toArray, List.set_cons_zero, List.set_cons_succ]
        clear q0 q1 q2 q3 q4 q5 q6 q7 q8
        refine lstH (l' := #[true, true, true, true, false, true, false, false, false, false, false]) (by kernel_rfl) ?_
        have F := And.intro FO (And.intro FB FS)
        clear FO FB FS FX
        revert F
        revert y
        exact t5_.out
        )
        )
        focus (
        intro y F
        obtain ⟨FO, FB, FS⟩ := F
        refine wpAnyH_ready (rs := [4, 6]) (by kernel_rfl) (by simp) ?_
        refine AllReadyH.cons rfl (fun K hK => ?_) (AllReadyH.cons rfl (fun K hK => ?_) AllReadyH.nil)
        focus (
        have q3 := FS.cell 3 rfl
        go_simp
        refine hK.out _ _ trivial (fun _ => ?_)
        clear hK K
        try simp only [List.setIfInBounds_toArray, List.set_cons_zero, List.set_cons_succ]
        clear q3
        refine lstH (l' := #[true, true, true, true, true, true, false, false, false, false, false]) (by kernel_rfl) ?_
        have F := And.intro FO (And.intro FB FS)
        clear FO FB FS
        revert F
        revert y
        exact t4_5_.out
        )
        focus (
        go_simp
        refine hK.out _ _ trivial (fun _ => ?_)
        clear hK K
        try simp only [List.setIfInBounds_toArray, List.set_cons_zero, List.set_cons_succ]
        obtain ⟨z, hz⟩ : ∃ z, z = y.alloc (.cells #[.int .i64 k0_, .int .i64 k1_, .int .i64 k2_, .int .i64 k3_, .int .i64 k4_, .int .i64 k5_, .int .i64 k6_, .bool cb, .slice none 0 0] 57) := ⟨_, rfl⟩
        have gg : Below y.heap.size y z := by rw [hz]; exact (Below.refl _ _).alloc (Nat.le_refl _) _
        have FA : BxA z y.heap.size 57 #[.int .i64 k0_, .int .i64 k1_, .int .i64 k2_, .int .i64 k3_, .int .i64 k4_, .int .i64 k5_, .int .i64 k6_, .bool cb, .slice none 0 0] ∧ ∀ g, (Value.slice aE nE cE).ownBlock = some g → g < y.heap.size := ⟨by rw [hz]; exact BxA.new _ _ _, fun g hg => (FO.lt g hg).2⟩
        replace FO := own_up FO gg
        replace FB := FB.trans (gg.mono (Nat.le_trans hl8 FB.size))
        replace FS := FS.up gg
        rw [← hz]
        clear hz gg
        generalize y.heap.size = vA at *
        refine lstH (l' := #[true, true, true, true, false, true, true, false, false, false, false]) (by kernel_rfl) ?_
        have F := And.intro FO (And.intro FB (And.intro FS FA))
        clear FO FB FS FA
        revert F
        revert vA
        revert z
        exact t5_6_.out
        )
        )
        focus (
        intro y F
        obtain ⟨FO, FB, FS, FX⟩ := F
        refine wpAnyH_ready (rs := [5]) (by kernel_rfl) (by simp) ?_
        refine AllReadyH.cons rfl (fun K hK => ?_) AllReadyH.nil
        focus (
        have q0 := FX.cell 0 rfl
        have q1 := FX.cell 1 rfl
        have q2 := FX.cell 2 rfl
        have q3 := FX.cell 3 rfl
        have q4 := FX.cell 4 rfl
        have q5 := FX.cell 5 rfl
        have q6 := FX.cell 6 rfl
        have q7 := FX.cell 7 rfl
        have q8 := FX.cell 8 rfl
        go_simp
        refine hK.out _ _ trivial (fun _ => ?_)
        clear hK K
        try simp only [List.setIfInBounds_toArray, List.set_cons_zero, List.set_cons_succ]
        clear q0 q1 q2 q3 q4 q5 q6 q7 q8
        refine lstH (l' := #[true, true, true, true, true, true, false, false, false, false, false]) (by kernel_rfl) ?_
        have F := And.intro FO (And.intro FB FS)
        clear FO FB FS FX
        revert F
        revert y
        exact t4_5_.out
        )
        )
        focus (
        intro y vA F
        obtain ⟨FO, FB, FS, FA⟩ := F
        refine wpAnyH_ready (rs := [4]) (by kernel_rfl) (by simp) ?_
        refine AllReadyH.cons rfl (fun K hK => ?_) AllReadyH.nil
        focus (
        have q3 := FS.cell 3 rfl
        go_simp
        refine hK.out _ _ trivial (fun _ => ?_)
        clear hK K
        try simp only [List.setIfInBounds_toArray, List.set_cons_zero, List.set_cons_succ]
        clear q3
        refine lstH (l' := #[true, true, true, true, true, true, true, false, false, false, false]) (by kernel_rfl) ?_
        have F := And.intro FO (And.intro FB (And.intro FS FA))
        clear FO FB FS FA
        revert F
        revert vA
        revert y
        exact t4_5_6_.out
        )
        )
        focus (
        intro y F
        obtain ⟨FO, FB, FS⟩ := F
        refine wpAnyH_ready (rs := [6]) (by kernel_rfl) (by simp) ?_
        refine AllReadyH.cons rfl (fun K hK => ?_) AllReadyH.nil
        focus (
        go_simp
        refine hK.out _ _ trivial (fun _ => ?_)
        clear hK K
        try simp only [List.setIfInBounds_toArray, List.set_cons_zero, List.set_cons_succ]
        obtain ⟨z, hz⟩ : ∃ z, z = y.alloc (.cells #[.int .i64 k0_, .int .i64 k1_, .int .i64 k2_, .int .i64 k3_, .int .i64 k4_, .int .i64 k5_, .int .i64 k6_, .bool cb, .slice none 0 0] 57) := ⟨_, rfl⟩
        have gg : Below y.heap.size y z := by rw [hz]; exact (Below.refl _ _).alloc (Nat.le_refl _) _
        have FA : BxA z y.heap.size 57 #[.int .i64 k0_, .int .i64 k1_, .int .i64 k2_, .int .i64 k3_, .int .i64 k4_, .int .i64 k5_, .int .i64 k6_, .bool cb, .slice none 0 0] ∧ ∀ g, (Value.slice aE nE cE).ownBlock = some g → g < y.heap.size := ⟨by rw [hz]; exact BxA.new _ _ _, fun g hg => (FO.lt g hg).2⟩
        replace FO := own_up FO gg
        replace FB := FB.trans (gg.mono (Nat.le_trans hl8 FB.size))
        replace FS := FS.up gg
        rw [← hz]
        clear hz gg
        generalize y.heap.size = vA at *
        refine lstH (l' := #[true, true, true, true, true, true, true, false, false, false, false]) (by kernel_rfl) ?_
        have F := And.intro FO (And.intro FB (And.intro FS FA))
        clear FO FB FS FA
        revert F
        revert vA
        revert z
        exact t4_5_6_.out
        )
        )
        focus (
        intro y vA F
        obtain ⟨FO, FB, FS, FA⟩ := F
        refine wpAnyH_ready (rs := [7]) (by kernel_rfl) (by simp) ?_
        refine AllReadyH.cons rfl (fun K hK => ?_) AllReadyH.nil
        focus (
        refine step_append_lies _ rfl _ _ 22 rfl lo 57 i0 _ 9 88 Tryd.underlying22 hi hz0 hz1 hz2 rfl (by decide) _ nE _ rfl FO ⟨vA, 0, none⟩ 1 1 [.int .i64 k0_, .int .i64 k1_, .int .i64 k2_, .int .i64 k3_, .int .i64 k4_, .int .i64 k5_, .int .i64 k6_, .bool cb, .slice none 0 0] rfl rfl (BxA.news (l := [.int .i64 k0_, .int .i64 k1_, .int .i64 k2_, .int .i64 k3_, .int .i64 k4_, .int .i64 k5_, .int .i64 k6_, .bool cb, .slice none 0 0]) FA.1) (by intro u hu; simp only [List.mem_cons, List.not_mem_nil, or_false] at hu; rcases hu with rfl | rfl | rfl | rfl | rfl | rfl | rfl | rfl | rfl <;> rfl) (by omega) (by unfold maxLen; omega) (by omega) (Nat.le_trans hl8 FB.size) y.heap.size rfl ?_
        intro g8 c8 z ho8 hg8 hx8 hy8
        clear hx8 hy8
        refine hK.out _ _ trivial (fun _ => ?_)
        clear hK K
        try simp only [List.setIfInBounds_toArray, List.set_cons_zero, List.set_cons_succ]
        have FP : z.ownsRow lo 57 9 (.slice (some ⟨g8, 0, none⟩) (nE + 1) c8) (nE + 1) (evc (evs ++ [((⟨k0_, k1_, k2_, k3_, k4_, k5_, k6_⟩ : EvR), cb)])) := by rw [evc_snoc]; exact ho8
        replace FS := FS.grown hg8 (rowBx FO FS (by decide))
        replace FB := FB.grown hg8 (Nat.le_trans hl8 FB.size) (fun j hj => (FO.lt j hj).1)
        clear ho8 hg8
        refine lstH (l' := #[true, true, true, true, true, true, true, true, false, false, false]) (by kernel_rfl) ?_
        have F := And.intro FP (And.intro FB FS)
        clear FP FB FS FO FA
        revert F
        revert c8
        revert g8
        revert vA
        revert z
        exact t4_5_6_7_.out
        )
        )
        focus (
        intro y vA g8 c8 F
        obtain ⟨FP, FB, FS⟩ := F
        refine wpAnyH_ready (rs := [8]) (by kernel_rfl) (by simp) ?_
        refine AllReadyH.cons rfl (fun K hK => ?_) AllReadyH.nil
        go_simp
        refine hK.out _ _ trivial (fun _ => ?_)
        clear hK K
        try simp only [List.setIfInBounds_toArray, List.set_cons_zero, List.set_cons_succ]
        refine wpAnyH_ready (rs := [9]) (by kernel_rfl) (by simp) ?_
        refine AllReadyH.cons rfl (fun K hK => ?_) AllReadyH.nil
        go_simp
        refine hK.out _ _ trivial (fun _ => ?_)
        clear hK K
        try simp only [List.setIfInBounds_toArray, List.set_cons_zero, List.set_cons_succ]
        have q3 := FS.cell 3 rfl
        have f3 := FS.frozen 3
        refine wpAnyH_ready (rs := [10]) (by kernel_rfl) (by simp) ?_
        refine AllReadyH.cons rfl (fun K hK => ?_) AllReadyH.nil
        go_simp
        refine hK.out _ _ trivial (fun _ => ?_)
        clear hK K
        try simp only [List.setIfInBounds_toArray, List.set_cons_zero, List.set_cons_succ]
        obtain ⟨x1, hx1⟩ : ∃ x1, x1 = y.setCell ⟨bS, 3, none⟩ (.slice (some ⟨g8, 0, none⟩) (nE + 1) c8) := ⟨_, rfl⟩
        have S1 : Hid (BxA x1 bS 63 #[.map (some M), .int .i64 n0, .int .i64 (sh : Int), .slice (some ⟨g8, 0, none⟩) (nE + 1) c8]) := by rw [hx1]; exact FS.set 3 _
        have P1 : Hid (x1.ownsRow lo 57 9 (.slice (some ⟨g8, 0, none⟩) (nE + 1) c8) (nE + 1) (evc (evs ++ [((⟨k0_, k1_, k2_, k3_, k4_, k5_, k6_⟩ : EvR), cb)]))) := by rw [hx1]; exact own_setBx FP FS (by decide) 3 _
        have B1 : Hid (Below lo u x1) := by rw [hx1]; exact Below.setCell FB (p := ⟨bS, 3, none⟩) HbS.out _
        rw [← hx1]
        clear hx1 q3 f3 FS FB FP
        refine wpAnyH_done (by kernel_rfl) ?_ _
        go_wp2
        go_ret
        exact .inr ⟨_, g8, c8, HF.out, h70, rfl, S1.out, P1.out, B1.out⟩
        )
end Go.Proofs.YtgdlpmmbeacejaaDoor
