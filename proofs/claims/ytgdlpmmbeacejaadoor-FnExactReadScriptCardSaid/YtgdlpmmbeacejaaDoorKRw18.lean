/- The program's readWeb. -/
import Derived.Test.YtgdlpmmbeacejaaDoorKSr18
namespace Go.Proofs.YtgdlpmmbeacejaaDoor
open Go.RowKit C

/-- what readWeb answers -/
def RwOut (ps : List ByteArray) (bS M : Nat) (aE : Option Addr) (nE cE : Nat) (u : World) (e : Ending) (u' : World) : Prop :=
  (webR ps = none ∧ e = .returned (.bool false) ∧ Below u.heap.size u u') ∨
  ∃ a b : Nat, webR ps = some (a, b) ∧ e = .returned (.bool true) ∧ BxA u' bS 63 #[.map (some M), .int .i64 (a : Int), .int .i64 (b : Int), .slice aE nE cE] ∧ u.grownBy u' (some bS)
set_option maxRecDepth 100000 in
set_option maxHeartbeats 16000000 in
theorem iWeb_any (x : ByteArray) (r : List ByteArray) (m : Nat) (hm : r.length = m) (hm9 : m ≤ 100) (hz : ∀ z ∈ x :: r, z.size ≤ 1000) (g5 c5 : Nat) (hcap : m + 1 ≤ c5) (u : World) (hv : Pv u g5 0 (x :: r))
    (bS M : Nat) (n0 s0 : Int) (aE : Option Addr) (nE cE : Nat) (hB : BxA u bS 63 #[.map (some M), .int .i64 n0, .int .i64 s0, .slice aE nE cE]) :
    Calls Tryd.prog 30 #[.pointer (some ⟨bS, 0, none⟩), .slice (some ⟨g5, 0, none⟩) (m + 1 : Nat) c5] u (RwOut (x :: r) bS M aE nE cE u) := by
  obtain ⟨a2, c2, hs2, ha2, hl2, hu2⟩ := slice1 g5 0 (m + 1) c5 m rfl hcap
  have HNm : Hid (Calls Tryd.prog 46 #[.slice a2 m c2] u (NmOut r u)) := iNums_any r m hm (by omega) (fun z hz' => hz z (by simp [hz'])) a2 c2 u (by
    by_cases h0 : 0 < m
    · rw [ha2 h0]
      exact .inr ⟨g5, _, rfl, hv.1, hv.tail.2⟩
    · exact .inl (List.eq_nil_of_length_eq_zero (by omega)))
  have x0 := hv.at0
  have lg5 : g5 < u.heap.size := hv.1
  have HBx := hideIt hB
  clear ha2 hv hz hm hB
  go_enter Tryd.func30, Tryd.ntmps30
  by_cases hxw_ : x = webW
  · have hxw : Hid (x = webW) := hxw_
    have hxe : (x.toList == [119, 101, 98]) = true := by rw [hxw_, Lib.toList_data]; rfl
    clear hxw_
    go_wp2_with (go_at_call 46; refine HNm.out.mono ?_; rintro e w6 hN; rcases hN with ⟨hn, a3, c3, rfl, b7⟩ | ⟨ns, hn, a3, n3, c3, rfl, hl3, o3, b7⟩ <;> refine Hid.out ?_)
    · refine hidw ?_
      have b8 : Hid (Below u.heap.size u w6) := b7
      have x6 : w6.cell? ⟨g5, 0, none⟩ = some (.string x) := by rw [b7.cell lg5]; exact x0
      have HF : Hid (webR (x :: r) = none) := by show _ = _; simp only [webR, hn]
      clear b7 x0 
      go_wp2
      go_ret
      exact .inl ⟨HF.out, rfl, b8.out⟩
    · refine hidw ?_
      have b8 : Hid (Below u.heap.size u w6) := b7
      have x6 : w6.cell? ⟨g5, 0, none⟩ = some (.string x) := by rw [b7.cell lg5]; exact x0
      by_cases h3 : n3 = 2
      · subst h3
        match ns, hl3 with
        | [xa, xb], _ =>
          rcases Vi.of_own o3 with hnil | ⟨bn, offn, rfl, hbn, hcn⟩
          · cases hnil
          have m5 : w6.cell? ⟨bn, offn, none⟩ = some (.int .i64 (xa : Int)) := by have := hcn 0 xa rfl; rwa [Nat.add_zero] at this
          have m6 : w6.cell? ⟨bn, offn + 1, none⟩ = some (.int .i64 (xb : Int)) := hcn 1 xb rfl
          have lbn : bn < w6.heap.size := hbn
          have Hbn := hideIt hbn
          obtain ⟨fb, hfb⟩ : ∃ fb, fb = hnB (xa : Int) (xb : Int) := ⟨_, rfl⟩
          have HWl : Hid (∀ u, Calls Tryd.prog 47 #[.int .i64 (xa : Int), .int .i64 (xb : Int)] u fun e u' => ∃ l : List Value, e = .returned (.tuple #[.agg l.toArray, .bool fb]) ∧ l.length = 22 ∧ l.toArray.all (·.oneCell') = true ∧ Below u.heap.size u u') := fun u => by
            rw [hfb]
            exact iWl_any _ _ u
          have Hfb := hideIt hfb
          have hS6 : w6.drew.cell? ⟨bn, offn, none⟩ = some (.int .i64 (xa : Int)) ∧ w6.drew.cell? ⟨bn, offn + 1, none⟩ = some (.int .i64 (xb : Int)) := ⟨by simpa using m5, by simpa using m6⟩
          have HC : Hid (∀ u, Good w6 u → u.cell? ⟨bn, offn, none⟩ = some (.int .i64 (xa : Int)) ∧ u.cell? ⟨bn, offn + 1, none⟩ = some (.int .i64 (xb : Int))) := fun u hu => ⟨by rw [Below.cell hu lbn]; exact m5, by rw [Below.cell hu lbn]; exact m6⟩
          clear hfb hcn hbn o3 b7 x0
          go_upto_region 4 with fail
          apply viaT
          intro t6_10_
          apply viaT
          intro t6_
          apply viaT
          intro t10_
          focus (
          refine wp_region_held_drew (S := (fun u => u.cell? ⟨bn, offn, none⟩ = some (.int .i64 (xa : Int)) ∧ u.cell? ⟨bn, offn + 1, none⟩ = some (.int .i64 (xb : Int)))) (by kernel_rfl) hS6 (fun hHeld => ?_)
          refine wpAnyH_take (i := 0) (v := ?_) rfl (by kernel_rfl) (by kernel_rfl) (by kernel_rfl) (fun _ _ _ h => h) (Or.inl ⟨by rfl, ?_⟩) (by assumption) ?_
          rotate_left
          · intro w hSw; (try dsimp only at hSw); go_simp; try with_reducible rfl
          try simp only [Act.put, List.getElem_toArray, List.getElem_cons_zero, List.setIfInBounds_toArray, List.set_cons_zero, List.set_cons_succ]
          refine wpAnyH_take (i := 1) (v := ?_) rfl (by kernel_rfl) (by kernel_rfl) (by kernel_rfl) (fun _ _ _ h => h) (Or.inl ⟨by rfl, ?_⟩) (by assumption) ?_
          rotate_left
          · intro w hSw; (try dsimp only at hSw); go_simp; try with_reducible rfl
          try simp only [Act.put, List.getElem_toArray, List.getElem_cons_succ, List.getElem_cons_zero, List.setIfInBounds_toArray, List.set_cons_zero, List.set_cons_succ]
          refine wpAnyH_take (i := 2) (v := ?_) rfl (by kernel_rfl) (by kernel_rfl) (by kernel_rfl) (fun _ _ _ h => h) (Or.inl ⟨by rfl, ?_⟩) (by assumption) ?_
          rotate_left
          · intro w hSw; (try dsimp only at hSw); go_simp; try with_reducible rfl
          try simp only [Act.put, List.getElem_toArray, List.getElem_cons_succ, List.getElem_cons_zero, List.setIfInBounds_toArray, List.set_cons_zero, List.set_cons_succ]
          refine wpAnyH_take (i := 3) (v := ?_) rfl (by kernel_rfl) (by kernel_rfl) (by kernel_rfl) (fun _ _ _ h => h) (Or.inl ⟨by rfl, ?_⟩) (by assumption) ?_
          rotate_left
          · intro w hSw; (try dsimp only at hSw); go_simp; try with_reducible rfl
          try simp only [Act.put, List.getElem_toArray, List.getElem_cons_succ, List.getElem_cons_zero, List.setIfInBounds_toArray, List.set_cons_zero, List.set_cons_succ]
          refine wpAnyH_take (i := 4) (v := ?_) rfl (by kernel_rfl) (by kernel_rfl) (by kernel_rfl) (fun _ _ _ h => h) (Or.inl ⟨by rfl, ?_⟩) (by assumption) ?_
          rotate_left
          · intro w hSw; (try dsimp only at hSw); go_simp; try with_reducible rfl
          try simp only [Act.put, List.getElem_toArray, List.getElem_cons_succ, List.getElem_cons_zero, List.setIfInBounds_toArray, List.set_cons_zero, List.set_cons_succ]
          refine wpAnyH_take (i := 5) (v := ?_) rfl (by kernel_rfl) (by kernel_rfl) (by kernel_rfl) (fun _ _ _ h => h) (Or.inl ⟨by rfl, ?_⟩) (by assumption) ?_
          rotate_left
          · intro w hSw; (try dsimp only at hSw); go_simp; try with_reducible rfl
          try simp only [Act.put, List.getElem_toArray, List.getElem_cons_succ, List.getElem_cons_zero, List.setIfInBounds_toArray, List.set_cons_zero, List.set_cons_succ]
          obtain ⟨y, hy⟩ : ∃ y, y = w6.drew := ⟨_, rfl⟩
          have GU : Good w6 y := by rw [hy]; exact (Good.refl _).drew
          rw [← hy]
          clear hy hHeld
          refine wpAnyH_ready (rs := [6, 10]) (by kernel_rfl) (by simp) ?_
          refine AllReadyH.cons rfl (fun K hK => ?_) (AllReadyH.cons rfl (fun K hK => ?_) AllReadyH.nil)
          focus (
          rw [if_pos]
          rotate_left
          · kernel_rfl
          have HCall := hideIt (HWl.out y)
          go_wp2_with (go_at_call 47; refine HCall.out.mono ?_; rintro e z ⟨l22, rfl, hl1, hl2, gg⟩; refine Hid.out ?_)
          refine hidp ?_
          refine hK.out _ _ (HC.out _ (Good.up GU gg)) (fun hHeld => ?_)
          clear hK K HCall
          try simp only [Act.put, List.getElem_toArray, List.getElem_cons_succ, List.getElem_cons_zero, List.setIfInBounds_toArray, List.set_cons_zero, List.set_cons_succ]
          have FL := And.intro hl1 hl2
          clear hl1 hl2
          replace GU := Good.up GU gg
          clear gg
          replace hHeld := HC.out _ GU
          refine wpAnyH_take (i := 7) (v := ?_) rfl (by kernel_rfl) (by kernel_rfl) (by kernel_rfl) (fun _ _ _ h => h) (Or.inl ⟨by rfl, ?_⟩) (by assumption) ?_
          rotate_left
          · intro w hSw; (try dsimp only at hSw); go_simp; try with_reducible rfl
          try simp only [Act.put, List.getElem_toArray, List.getElem_cons_succ, List.getElem_cons_zero, List.setIfInBounds_toArray, List.set_cons_zero, List.set_cons_succ]
          refine wpAnyH_take (i := 8) (v := ?_) rfl (by kernel_rfl) (by kernel_rfl) (by kernel_rfl) (fun _ _ _ h => h) (Or.inl ⟨by rfl, ?_⟩) (by assumption) ?_
          rotate_left
          · intro w hSw; (try dsimp only at hSw); go_simp; try with_reducible rfl
          try simp only [Act.put, List.getElem_toArray, List.getElem_cons_succ, List.getElem_cons_zero, List.setIfInBounds_toArray, List.set_cons_zero, List.set_cons_succ]
          refine wpAnyH_take (i := 9) (v := ?_) rfl (by kernel_rfl) (by kernel_rfl) (by kernel_rfl) (fun _ _ _ h => h) (Or.inl ⟨by rfl, ?_⟩) (by assumption) ?_
          rotate_left
          · intro w hSw; (try dsimp only at hSw); go_simp; try with_reducible rfl
          try simp only [Act.put, List.getElem_toArray, List.getElem_cons_succ, List.getElem_cons_zero, List.setIfInBounds_toArray, List.set_cons_zero, List.set_cons_succ]
          clear hHeld
          refine lstH (l' := #[true, true, true, true, true, true, true, true, true, true, false, false, false]) (by kernel_rfl) ?_
          have F := And.intro GU FL
          clear GU FL
          revert F
          revert l22
          revert z
          exact t6_.out
          )
          focus (
          go_simp
          refine hK.out _ _ (HC.out _ (GU.alloc _)) (fun hHeld => ?_)
          clear hK K
          try simp only [Act.put, List.getElem_toArray, List.getElem_cons_succ, List.getElem_cons_zero, List.setIfInBounds_toArray, List.set_cons_zero, List.set_cons_succ]
          obtain ⟨z, hz⟩ : ∃ z, z = y.alloc (.cells #[.int .i64 0, .int .i64 0, .slice none 0 0, .slice none 0 0, .slice none 0 0, .slice none 0 0, .int .i64 0, .int .i64 0, .int .i64 0, .int .i64 0, .int .i64 0, .int .i64 0, .int .i64 0, .slice none 0 0, .int .i64 0, .slice none 0 0, .slice none 0 0, .slice none 0 0, .slice none 0 0, .slice none 0 0, .slice none 0 0, .slice none 0 0] 53) := ⟨_, rfl⟩
          have gg : Below y.heap.size y z := by rw [hz]; exact (Below.refl _ _).alloc (Nat.le_refl _) _
          have FW : BxA z y.heap.size 53 #[.int .i64 0, .int .i64 0, .slice none 0 0, .slice none 0 0, .slice none 0 0, .slice none 0 0, .int .i64 0, .int .i64 0, .int .i64 0, .int .i64 0, .int .i64 0, .int .i64 0, .int .i64 0, .slice none 0 0, .int .i64 0, .slice none 0 0, .slice none 0 0, .slice none 0 0, .slice none 0 0, .slice none 0 0, .slice none 0 0, .slice none 0 0] ∧ w6.heap.size ≤ y.heap.size := ⟨by rw [hz]; exact BxA.new _ _ _, GU.size⟩
          replace GU := Good.up GU gg
          rw [← hz]
          clear hz gg hHeld
          generalize y.heap.size = bW at *
          refine lstH (l' := #[true, true, true, true, true, true, false, false, false, false, true, false, false]) (by kernel_rfl) ?_
          have F := And.intro GU FW
          clear GU FW
          revert F
          revert bW
          revert z
          exact t10_.out
          )
          )
          focus (
          intro y bW F
          obtain ⟨GU, FW⟩ := F
          have hHeld := HC.out _ GU
          clear hHeld
          refine wpAnyH_ready (rs := [6]) (by kernel_rfl) (by simp) ?_
          refine AllReadyH.cons rfl (fun K hK => ?_) AllReadyH.nil
          focus (
          rw [if_pos]
          rotate_left
          · kernel_rfl
          have HCall := hideIt (HWl.out y)
          go_wp2_with (go_at_call 47; refine HCall.out.mono ?_; rintro e z ⟨l22, rfl, hl1, hl2, gg⟩; refine Hid.out ?_)
          refine hidp ?_
          refine hK.out _ _ (HC.out _ (Good.up GU gg)) (fun hHeld => ?_)
          clear hK K HCall
          try simp only [List.setIfInBounds_toArray, List.set_cons_zero, List.set_cons_succ]
          have FL := And.intro hl1 hl2
          clear hl1 hl2
          replace GU := Good.up GU gg
          replace FW := And.intro (FW.1.up gg) FW.2
          clear gg
          replace hHeld := HC.out _ GU
          refine wpAnyH_take (i := 7) (v := ?_) rfl (by kernel_rfl) (by kernel_rfl) (by kernel_rfl) (fun _ _ _ h => h) (Or.inl ⟨by rfl, ?_⟩) (by assumption) ?_
          rotate_left
          · intro w hSw; (try dsimp only at hSw); go_simp; try with_reducible rfl
          try simp only [Act.put, List.getElem_toArray, List.getElem_cons_succ, List.getElem_cons_zero, List.setIfInBounds_toArray, List.set_cons_zero, List.set_cons_succ]
          refine wpAnyH_take (i := 8) (v := ?_) rfl (by kernel_rfl) (by kernel_rfl) (by kernel_rfl) (fun _ _ _ h => h) (Or.inl ⟨by rfl, ?_⟩) (by assumption) ?_
          rotate_left
          · intro w hSw; (try dsimp only at hSw); go_simp; try with_reducible rfl
          try simp only [Act.put, List.getElem_toArray, List.getElem_cons_succ, List.getElem_cons_zero, List.setIfInBounds_toArray, List.set_cons_zero, List.set_cons_succ]
          refine wpAnyH_take (i := 9) (v := ?_) rfl (by kernel_rfl) (by kernel_rfl) (by kernel_rfl) (fun _ _ _ h => h) (Or.inl ⟨by rfl, ?_⟩) (by assumption) ?_
          rotate_left
          · intro w hSw; (try dsimp only at hSw); go_simp; try with_reducible rfl
          try simp only [Act.put, List.getElem_toArray, List.getElem_cons_succ, List.getElem_cons_zero, List.setIfInBounds_toArray, List.set_cons_zero, List.set_cons_succ]
          clear hHeld
          refine lstH (l' := #[true, true, true, true, true, true, true, true, true, true, true, false, false]) (by kernel_rfl) ?_
          have F := And.intro GU (And.intro FL FW)
          clear GU FL FW
          revert F
          revert bW
          revert l22
          revert z
          exact t6_10_.out
          )
          )
          focus (
          intro y l22 F
          obtain ⟨GU, FL⟩ := F
          have hHeld := HC.out _ GU
          clear hHeld
          refine wpAnyH_ready (rs := [10]) (by kernel_rfl) (by simp) ?_
          refine AllReadyH.cons rfl (fun K hK => ?_) AllReadyH.nil
          focus (
          go_simp
          refine hK.out _ _ (HC.out _ (GU.alloc _)) (fun hHeld => ?_)
          clear hK K
          try simp only [List.setIfInBounds_toArray, List.set_cons_zero, List.set_cons_succ]
          obtain ⟨z, hz⟩ : ∃ z, z = y.alloc (.cells #[.int .i64 0, .int .i64 0, .slice none 0 0, .slice none 0 0, .slice none 0 0, .slice none 0 0, .int .i64 0, .int .i64 0, .int .i64 0, .int .i64 0, .int .i64 0, .int .i64 0, .int .i64 0, .slice none 0 0, .int .i64 0, .slice none 0 0, .slice none 0 0, .slice none 0 0, .slice none 0 0, .slice none 0 0, .slice none 0 0, .slice none 0 0] 53) := ⟨_, rfl⟩
          have gg : Below y.heap.size y z := by rw [hz]; exact (Below.refl _ _).alloc (Nat.le_refl _) _
          have FW : BxA z y.heap.size 53 #[.int .i64 0, .int .i64 0, .slice none 0 0, .slice none 0 0, .slice none 0 0, .slice none 0 0, .int .i64 0, .int .i64 0, .int .i64 0, .int .i64 0, .int .i64 0, .int .i64 0, .int .i64 0, .slice none 0 0, .int .i64 0, .slice none 0 0, .slice none 0 0, .slice none 0 0, .slice none 0 0, .slice none 0 0, .slice none 0 0, .slice none 0 0] ∧ w6.heap.size ≤ y.heap.size := ⟨by rw [hz]; exact BxA.new _ _ _, GU.size⟩
          replace GU := Good.up GU gg
          replace FL := FL
          rw [← hz]
          clear hz gg hHeld
          generalize y.heap.size = bW at *
          refine lstH (l' := #[true, true, true, true, true, true, true, true, true, true, true, false, false]) (by kernel_rfl) ?_
          have F := And.intro GU (And.intro FL FW)
          clear GU FL FW
          revert F
          revert bW
          revert l22
          revert z
          exact t6_10_.out
          )
          )
          focus (
          intro y l22 bW F
          obtain ⟨GU, FL, FW⟩ := F
          have hHeld := HC.out _ GU
          refine wpAnyH_ready (rs := [11]) (by kernel_rfl) (by simp) ?_
          refine AllReadyH.cons rfl (fun K hK => ?_) AllReadyH.nil
          rw [if_pos]
          rotate_left
          · kernel_rfl
          have HT := BxA.there (l := [.int .i64 0, .int .i64 0, .slice none 0 0, .slice none 0 0, .slice none 0 0, .slice none 0 0, .int .i64 0, .int .i64 0, .int .i64 0, .int .i64 0, .int .i64 0, .int .i64 0, .int .i64 0, .slice none 0 0, .int .i64 0, .slice none 0 0, .slice none 0 0, .slice none 0 0, .slice none 0 0, .slice none 0 0, .slice none 0 0, .slice none 0 0]) FW.1 (Nat.le_refl _)
          obtain ⟨x9, hx9⟩ : ∃ x9, x9 = setA y bW 0 l22 := ⟨_, rfl⟩
          have G9 : Good w6 x9 := by rw [hx9]; exact below_setA GU FW.2 0 _
          refine wp_store_mid 53 (.tmp 7) (.tmp 36) ?_ bW 0 l22.toArray ?_ ?_ ?_ ?_ ?_ ?_
          · rfl
          · rfl
          · rfl
          · rw [List.size_toArray, FL.1]; exact HT
          · rw [List.size_toArray, FL.1]; kernel_rfl
          · exact FL.2
          rw [setCells_setA]
          rw [show setA y bW 0 l22.toArray.toList = x9 from hx9.symm]
          refine hK.out _ _ (HC.out _ G9) (fun hHeld => ?_)
          clear hK K hx9 HT FL FW GU
          try simp only [List.setIfInBounds_toArray, List.set_cons_zero, List.set_cons_succ]
          refine wpAnyH_ready (rs := [12]) (by kernel_rfl) (by simp) ?_
          refine AllReadyH.cons rfl (fun K hK => ?_) AllReadyH.nil
          go_simp
          refine hK.out _ _ hHeld (fun hHeld => ?_)
          clear hK K
          try simp only [List.setIfInBounds_toArray, List.set_cons_zero, List.set_cons_succ]
          refine wpAnyH_done (by kernel_rfl) ?_ _
          clear hHeld
          have HG9 := hideIt G9
          clear G9 m5 m6 lbn
          have b9 : Hid (Below u.heap.size u x9) := b8.out.trans (HG9.out.mono b8.out.size)
          have n5 : x9.cell? ⟨bn, offn, none⟩ = some (.int .i64 (xa : Int)) := (HC.out _ HG9.out).1
          have n6 : x9.cell? ⟨bn, offn + 1, none⟩ = some (.int .i64 (xb : Int)) := (HC.out _ HG9.out).2
          have hwr : webR (x :: r) = if fb = true then some (xa, xb) else none := by
            simp only [webR, hn, hxw.out, true_and, ← Hfb.out]
          cases fb with
          | false =>
            have hwr2 : webR (x :: r) = none := by rw [hwr]; rfl
            have HF := hideIt hwr2
            clear hwr hwr2 n5 n6
            go_wp2
            go_ret
            exact .inl ⟨HF.out, rfl, b9.out⟩
          | true =>
            have hwr2 : webR (x :: r) = some (xa, xb) := by rw [hwr]; rfl
            have HF := hideIt hwr2
            have X9 := HBx.out.up b9.out
            have q1 := X9.cell 1 rfl
            have f1 := X9.frozen 1
            have q2 := X9.cell 2 rfl
            have f2 := X9.frozen 2
            have lbS := X9.lt
            have lbn2 : bn < x9.heap.size := Nat.lt_of_lt_of_le Hbn.out HG9.out.size
            obtain ⟨xf, hxf⟩ : ∃ xf, xf = ((x9.setCell ⟨bS, 1, none⟩ (.int .i64 (xa : Int))).setCell ⟨bS, 2, none⟩ (.int .i64 (xb : Int))).drew := ⟨_, rfl⟩
            have HXf : Hid (BxA xf bS 63 #[.map (some M), .int .i64 (xa : Int), .int .i64 (xb : Int), .slice aE nE cE]) := by
              show BxA _ _ _ _
              rw [hxf]
              exact (((X9.set 1 _).set 2 _)).up (Below.refl _ _).drew
            have HGf : Hid (u.grownBy xf (some bS)) := by
              show World.grownBy _ _ _
              rw [hxf]
              exact grown_trans (grown_trans (grown_of_below b9.out _) (grown_trans (grownSet x9 bS 1 _) (grownSet _ bS 2 _))) (grown_of_below (Below.refl _ _).drew _)
            clear hwr hwr2 X9
            go_upto_region 7 with fail
            go_region
            rw [← hxf]
            clear hxf q1 f1 q2 f2 n5 n6
            go_wp2
            go_ret
            exact .inr ⟨xa, xb, HF.out, rfl, HXf.out, HGf.out⟩
          )
      · have d3 : ((n3 : Int) != 2) = true := by simp; omega
        have HF : Hid (webR (x :: r) = none) := webR_cnt hn (by rw [hl3]; exact h3)
        clear b7 x0 o3
        go_wp2
        go_ret
        exact .inl ⟨HF.out, rfl, b8.out⟩
  · have hxe : (x.toList == [119, 101, 98]) = false := by
      have : x.toList ≠ [119, 101, 98] := fun e => hxw_ (kB_ext (by rw [Lib.toList_data] at e; exact e))
      simpa using this
    have Hwn := hideIt (webR_no (r := r) hxw_)
    clear hxw_
    go_wp2_with (go_at_call 46; refine HNm.out.mono ?_; rintro e w6 hN; rcases hN with ⟨hn, a3, c3, rfl, b7⟩ | ⟨ns, hn, a3, n3, c3, rfl, hl3, o3, b7⟩ <;> refine Hid.out ?_)
    · refine hidw ?_
      have b8 : Hid (Below u.heap.size u w6) := b7
      have x6 : w6.cell? ⟨g5, 0, none⟩ = some (.string x) := by rw [b7.cell lg5]; exact x0
      have HF : Hid (webR (x :: r) = none) := Hwn.out
      clear b7 x0 
      go_wp2
      go_ret
      exact .inl ⟨HF.out, rfl, b8.out⟩
    · refine hidw ?_
      have b8 : Hid (Below u.heap.size u w6) := b7
      have x6 : w6.cell? ⟨g5, 0, none⟩ = some (.string x) := by rw [b7.cell lg5]; exact x0
      have HF : Hid (webR (x :: r) = none) := Hwn.out
      clear b7 x0 o3
      go_wp2
      go_ret
      exact .inl ⟨HF.out, rfl, b8.out⟩
end Go.Proofs.YtgdlpmmbeacejaaDoor
