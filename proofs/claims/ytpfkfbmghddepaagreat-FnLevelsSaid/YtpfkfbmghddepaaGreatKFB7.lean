/- The library's Min over ints; the program's compareTrees and treesAscend. All vertices of right tours, sorted: pure. slices.Values over ints, and slices.Collect of it: each number, in order, in a list of its own. The library's contracts at this program, by the shelf's own laying in plain words: each body is held against the body of which its contract was proved. The program's VertsOf. A list of tours in memory, each in a block of its own. -/
import Derived.Test.YtpfkfbmghddepaaGreatKLk7
import Derived.Test.YtpfkfbmghddepaaGreatKSplit
import Derived.Test.YtpfkfbmghddepaaGreatKMem6
import Derived.Test.YtpfkfbmghddepaaGreatKWb9
import Derived.RangeFuncNested
import Derived.RangeFuncBound
import Derived.RangeFuncCalls
import Derived.RangeFuncLeaves
import Derived.RangeFuncBox
import Derived.Shelf.Abstract
import Derived.Shelf.RegionOpen
import Derived.WalkKit
import Derived.OwnWalkIn
import Derived.TacticsInMore
import Derived.LoopNIn
import Derived.LoopIn
import Derived.Maps.AppendAt
import Derived.Test.YtpfkfbmghddepaaGreatKLd9
import Derived.Shelf.SlicesE.Compact
import Derived.Shelf.SlicesE.DeleteFunc
import Derived.Shelf.SlicesE.IndexFunc
import Derived.Shelf.SortM.Plain
import Derived.Shelf.SortM.SortNone
import Derived.Test.YtpfkfbmghddepaaGreatProg
import Derived.Sort.OwnSortedInts
namespace Go.Proofs.YtpfkfbmghddepaaGreat
open Go.RowKit

set_option maxHeartbeats 1000000 in
theorem minI_any (t : List Int) (n : Nat) (a : Option Addr) (c : Nat) (hn : n ≤ 3000000) (h0 : 0 < n) (w : World) (h : Is w w.heap.size a n t) :
    Calls Tryz.prog 244 #[.slice a n c] w fun e w' => ∃ x, e = .returned (.int .i64 x) ∧ (x ∈ t ∧ ∀ y ∈ t, x ≤ y) ∧ w' = w := by
  obtain ⟨hlen, hrow⟩ := h
  rcases hrow with hz | ⟨b, off, rfl, hbl, hc⟩
  · omega
  · obtain ⟨f0, hf0⟩ : ∃ f, t[0]? = some f := ⟨t[0]'(by omega), List.getElem?_eq_getElem (by omega)⟩
    have d0 : decide ((n : Int) < 1) = false := decide_eq_false (by omega)
    have e0 := hc 0 f0 hf0
    rw [Nat.add_zero] at e0
    have q1 : (0 : Int) < (n : Int) := by omega
    have HC := hideIt hc
    have HS : Hid (f0 ∈ t ∧ ∀ (j : Nat) (y : Int), j < 1 → t[j]? = some y → f0 ≤ y) := ⟨List.mem_of_getElem? hf0, fun j y hj hy => by
      obtain rfl : j = 0 := by omega
      rw [hf0] at hy
      cases hy
      exact Int.le_refl _⟩
    clear hc hf0
    go_enter Tryz.func244, Tryz.ntmps244
    go_wp2
    go_loopw [3, 4] (fun m i wr => ∃ (k : Nat) (x : Int), 1 ≤ k ∧ k ≤ n ∧ i = .int .i64 (k : Int) ∧ m = .int .i64 x ∧ Hid (x ∈ t ∧ ∀ (j : Nat) (y : Int), j < k → t[j]? = some y → x ≤ y) ∧ wr = w) (fun _ i _ => n - (intOf i).toNat)
    case atStart => exact ⟨1, f0, by omega, by omega, rfl, rfl, HS, rfl⟩
    case round =>
      obtain ⟨k, x, hk1, hk, rfl, rfl, HX, hw⟩ := hrel
      have hw' := hw.symm
      subst hw'
      clear hw HS e0
      by_cases hlt : k < n
      · obtain ⟨f, hf⟩ : ∃ f, t[k]? = some f := ⟨t[k]'(by omega), List.getElem?_eq_getElem (by omega)⟩
        have e1 := HC.out k f hf
        have b1 : (0 : Int) ≤ (k : Int) := by omega
        have b2 : (k : Int) < (n : Int) := by omega
        have HX2 : Hid (min x f ∈ t ∧ ∀ (j : Nat) (y : Int), j < k + 1 → t[j]? = some y → min x f ≤ y) := by
          obtain ⟨p1, p2⟩ := HX.out
          refine ⟨?_, fun j y hj hy => ?_⟩
          · by_cases hxf : x ≤ f
            · rw [Int.min_eq_left hxf]; exact p1
            · rw [Int.min_eq_right (by omega)]; exact List.mem_of_getElem? hf
          · by_cases hjk : j = k
            · rw [hjk, hf] at hy
              cases hy
              omega
            · have := p2 j y (by omega) hy
              omega
        clear hf HX
        go_wp2
        refine ⟨⟨k + 1, min x f, by omega, by omega, by go_num, ?_, HX2, by first | trivial | rfl⟩, by simp [intOf]; omega⟩
        first | rfl | (congr 1; split <;> omega)
      · obtain rfl : k = n := by omega
        have HX2 : Hid (x ∈ t ∧ ∀ y ∈ t, x ≤ y) := ⟨HX.out.1, fun y hy => by
          obtain ⟨j, hj⟩ := List.mem_iff_getElem?.1 hy
          exact HX.out.2 j y (by have := (List.getElem?_eq_some_iff.1 hj).1; omega) hj⟩
        clear HX
        go_wp2
        go_ret
        exact ⟨x, rfl, HX2.out, rfl⟩

theorem mn_le {t : List Int} (hB : tB t = true) {y : Int} (hy : y ∈ t) : mnV t ≤ y := by
  have hp := vs_pos hB
  have hx : (vsL t)[0]? = some ((vsL t)[0]'hp) := List.getElem?_eq_getElem hp
  rw [mn_first hx]
  obtain ⟨p, hp2⟩ := List.mem_iff_getElem?.1 ((vs_mem_of hB).2 hy)
  obtain ⟨p0, p1⟩ := List.getElem?_eq_some_iff.1 hp2
  by_cases e : p = 0
  · subst e
    rw [← p1]
    exact Int.le_refl _
  · have := List.pairwise_iff_getElem.1 (vsK_asc t 12) 0 p hp p0 (by omega)
    rw [show (vsK t 12)[p]'p0 = y from p1] at this
    exact Int.le_of_lt this
theorem mn_is {t : List Int} (hB : tB t = true) {x : Int} (h : x ∈ t ∧ ∀ y ∈ t, x ≤ y) : x = mnV t := Int.le_antisymm (h.2 _ (mn_mem hB)) (mn_le hB h.1)

theorem compareTrees_any (s t : List Int) (hs : tB s = true) (ht : tB t = true) (a a' : Option Addr) (c c' : Nat) (w : World) (h : Is w w.heap.size a s.length s) (h' : Is w w.heap.size a' t.length t) :
    Calls Tryz.prog 220 #[.slice a s.length c, .slice a' t.length c'] w fun e w' => e = .returned (.int .i64 (cmpI (mnV s) (mnV t))) ∧ w' = w := by
  have l1 := tB_len hs
  have l2 := tB_len ht
  have H1 := hideIt ((minI_any s s.length a c (by omega) (tB_pos hs) w h).mono fun e v ⟨x, he, hx, hv⟩ => (show e = Ending.returned (.int .i64 (mnV s)) ∧ v = w from ⟨by rw [he, mn_is hs hx], hv⟩))
  have H2 := hideIt ((minI_any t t.length a' c' (by omega) (tB_pos ht) w h').mono fun e v ⟨x, he, hx, hv⟩ => (show e = Ending.returned (.int .i64 (mnV t)) ∧ v = w from ⟨by rw [he, mn_is ht hx], hv⟩))
  have HC := hideIt (cmpCompare_any (mnV s) (mnV t) w)
  clear h h'
  go_enter Tryz.func220, Tryz.ntmps220
  go_wp2_with (first | (go_at_call 244; refine H1.out.mono ?_; rintro e w1 ⟨rfl, hw⟩; have hw' := hw.symm; subst hw'; clear hw H1) | (go_at_call 244; refine H2.out.mono ?_; rintro e w1 ⟨rfl, hw⟩; have hw' := hw.symm; subst hw'; clear hw H2) | (go_at_call 176; refine HC.out.mono ?_; rintro e w1 ⟨rfl, hw⟩; have hw' := hw.symm; subst hw'; clear hw))
  go_ret
  exact ⟨rfl, rfl⟩

/-- the tour at i is right, and its least vertex is above that of the one before it -/
def AsAt (ts : List (List Int)) (i : Nat) : Prop := ∀ t, ts[i]? = some t → tB t = true ∧ ∀ j s, j + 1 = i → ts[j]? = some s → mnV s < mnV t
def asP (ts : List (List Int)) : Prop := ∀ i, AsAt ts i
theorem cmpI_ge (x y : Int) : decide (0 ≤ cmpI x y) = !decide (x < y) := by
  by_cases h : x < y
  · have := (cmpI_neg x y).2 h
    rw [decide_eq_true h]
    exact decide_eq_false (by omega)
  · have := mt (cmpI_neg x y).1 h
    rw [decide_eq_false h]
    exact decide_eq_true (by omega)

set_option maxRecDepth 100000 in
set_option maxHeartbeats 4000000 in
theorem treesAscend_any (ts : List (List Int)) (n : Nat) (a : Option Addr) (c : Nat) (hn : n ≤ 3000000) (hm : ∀ t ∈ ts, t.length ≤ 3000000) (w : World) (h : Ts w w.heap.size a n ts) :
    Calls Tryz.prog 191 #[.slice a n c] w fun e w' => ∃ b, e = .returned (.bool b) ∧ (b = true ↔ asP ts) ∧ Below w.heap.size w w' := by
  have hlen := h.1
  have HA := hideIt h
  clear h
  go_enter Tryz.func191, Tryz.ntmps191
  go_wp2
  go_loopw [6] (fun i wr => ∃ k : Nat, k ≤ n ∧ i = .int .i64 (k : Int) ∧ Hid (∀ j, j < k → AsAt ts j) ∧ Good w wr) (fun i _ => n - (intOf i).toNat)
  case atStart => exact ⟨0, by omega, rfl, fun j hj => by omega, Good.refl _⟩
  case round =>
    obtain ⟨k, hk, rfl, HK, hg⟩ := hrel
    by_cases hlt : k < n
    · rcases (HA.out.up hg).2 with hz | ⟨b, off, rfl, hbl, hc⟩
      · omega
      · obtain ⟨t, ht⟩ : ∃ t, ts[k]? = some t := ⟨ts[k]'(by omega), List.getElem?_eq_getElem (by omega)⟩
        obtain ⟨x, cx, e0, i0, _⟩ := hc k t ht
        have b1 : (0 : Int) ≤ (k : Int) := by omega
        have b2 : (k : Int) < (n : Int) := by omega
        have HG := hideIt (fun u (hu : Good wr u) => hg.up hu)
        have hbd := (Good.refl wr).drew
        have HE := hideIt (fun W (hW : Good wr W) => (iTourOk_any t t.length x cx (hm t (List.mem_of_getElem? ht)) W (i0.up hW)).mono fun e v ⟨he, hb⟩ => (show e = Ending.returned (.bool (tB t)) ∧ Good wr v from ⟨he, hW.up hb⟩))
        cases hB : tB t with
        | false =>
          rw [hB] at HE
          have HN : Hid (¬ asP ts) := fun hp => by have := (hp k t ht).1; rw [hB] at this; cases this
          clear hc ht i0 hB HK
          go_wp2
          refine wp_region_any (by kernel_rfl) ?_
          change wpAny _ _ _ _ _ _ _ (World.drew _)
          refine takeOp (i := 0) (v := ?_) rfl (by kernel_rfl) (by kernel_rfl) (by kernel_rfl) (fun _ _ _ h => h) (by kernel_rfl) ?_ ?_
          rotate_left
          · intro w; go_simp; try with_reducible rfl
          refine wpAny_ready (rs := [1]) (by kernel_rfl) (by simp) ?_
          refine AllReady.cons rfl (fun K hK => ?_) AllReady.nil
          go_simp
          refine hK _ _ ?_
          clear hK K
          refine wpAny_ready (rs := [2]) (by kernel_rfl) (by simp) ?_
          refine AllReady.cons rfl (fun K hK => ?_) AllReady.nil
          go_simp
          refine hK _ _ ?_
          clear hK K
          refine wpAny_ready (rs := [3]) (by kernel_rfl) (by simp) ?_
          refine AllReady.cons rfl (fun K hK => ?_) AllReady.nil
          go_simp
          refine hK _ _ ?_
          clear hK K
          refine wpAny_ready (rs := [4]) (by kernel_rfl) (by simp) ?_
          refine AllReady.cons rfl (fun K hK => ?_) AllReady.nil
          go_wp2_with (go_at_call 219; refine (HE.out _ hbd).mono ?_; rintro e w1 ⟨rfl, hg1⟩; refine Hid.out ?_)
          refine (show ∀ {p : Prop}, p → Hid p from fun h => h) ?_
          try refine hK _ _ ?_
          clear hK K
          refine wpAny_ready (rs := [5]) (by kernel_rfl) (by simp) ?_
          refine AllReady.cons rfl (fun K hK => ?_) AllReady.nil
          go_simp
          refine hK _ _ ?_
          clear hK K
          refine wpAny_ready (rs := [6]) (by kernel_rfl) (by simp) ?_
          refine AllReady.cons rfl (fun K hK => ?_) AllReady.nil
          go_simp
          refine hK _ _ ?_
          clear hK K
          refine skipOp (i := 7) rfl (by kernel_rfl) (by kernel_rfl) (by kernel_rfl) (fun _ _ _ h => h) (by kernel_rfl) ?_
          refine skipOp (i := 8) rfl (by kernel_rfl) (by kernel_rfl) (by kernel_rfl) (fun _ _ _ h => h) (by kernel_rfl) ?_
          refine skipOp (i := 9) rfl (by kernel_rfl) (by kernel_rfl) (by kernel_rfl) (fun _ _ _ h => h) (by kernel_rfl) ?_
          refine skipOp (i := 10) rfl (by kernel_rfl) (by kernel_rfl) (by kernel_rfl) (fun _ _ _ h => h) (by kernel_rfl) ?_
          refine skipOp (i := 11) rfl (by kernel_rfl) (by kernel_rfl) (by kernel_rfl) (fun _ _ _ h => h) (by kernel_rfl) ?_
          refine skipOp (i := 12) rfl (by kernel_rfl) (by kernel_rfl) (by kernel_rfl) (fun _ _ _ h => h) (by kernel_rfl) ?_
          refine skipOp (i := 13) rfl (by kernel_rfl) (by kernel_rfl) (by kernel_rfl) (fun _ _ _ h => h) (by kernel_rfl) ?_
          refine skipOp (i := 14) rfl (by kernel_rfl) (by kernel_rfl) (by kernel_rfl) (fun _ _ _ h => h) (by kernel_rfl) ?_
          refine skipOp (i := 15) rfl (by kernel_rfl) (by kernel_rfl) (by kernel_rfl) (fun _ _ _ h => h) (by kernel_rfl) ?_
          refine skipOp (i := 16) rfl (by kernel_rfl) (by kernel_rfl) (by kernel_rfl) (fun _ _ _ h => h) (by kernel_rfl) ?_
          refine skipOp (i := 17) rfl (by kernel_rfl) (by kernel_rfl) (by kernel_rfl) (fun _ _ _ h => h) (by kernel_rfl) ?_
          refine skipOp (i := 18) rfl (by kernel_rfl) (by kernel_rfl) (by kernel_rfl) (fun _ _ _ h => h) (by kernel_rfl) ?_
          refine skipOp (i := 19) rfl (by kernel_rfl) (by kernel_rfl) (by kernel_rfl) (fun _ _ _ h => h) (by kernel_rfl) ?_
          refine skipOp (i := 20) rfl (by kernel_rfl) (by kernel_rfl) (by kernel_rfl) (fun _ _ _ h => h) (by kernel_rfl) ?_
          refine skipOp (i := 21) rfl (by kernel_rfl) (by kernel_rfl) (by kernel_rfl) (fun _ _ _ h => h) (by kernel_rfl) ?_
          refine wpAny_ready (rs := [22]) (by kernel_rfl) (by simp) ?_
          refine AllReady.cons rfl (fun K hK => ?_) AllReady.nil
          go_simp
          refine hK _ _ ?_
          clear hK K
          refine wpAny_done (by kernel_rfl) ?_ _
          go_wp2
          go_ret
          exact ⟨false, rfl, ⟨fun h => (by cases h), fun h => absurd h HN.out⟩, HG.out _ hg1⟩
        | true =>
          rw [hB] at HE
          rcases k with _ | i
          · have HY : Hid (AsAt ts 0) := fun t' ht' => by
              rw [ht] at ht'
              cases ht'
              exact ⟨hB, fun j s hj => by omega⟩
            rw [Nat.add_zero] at e0
            clear hc ht i0 hB
            go_wp2
            refine wp_region_any (by kernel_rfl) ?_
            change wpAny _ _ _ _ _ _ _ (World.drew _)
            refine takeOp (i := 0) (v := ?_) rfl (by kernel_rfl) (by kernel_rfl) (by kernel_rfl) (fun _ _ _ h => h) (by kernel_rfl) ?_ ?_
            rotate_left
            · intro w; go_simp; try with_reducible rfl
            refine wpAny_ready (rs := [1]) (by kernel_rfl) (by simp) ?_
            refine AllReady.cons rfl (fun K hK => ?_) AllReady.nil
            go_simp
            refine hK _ _ ?_
            clear hK K
            refine wpAny_ready (rs := [2]) (by kernel_rfl) (by simp) ?_
            refine AllReady.cons rfl (fun K hK => ?_) AllReady.nil
            go_simp
            refine hK _ _ ?_
            clear hK K
            refine wpAny_ready (rs := [3]) (by kernel_rfl) (by simp) ?_
            refine AllReady.cons rfl (fun K hK => ?_) AllReady.nil
            go_simp
            refine hK _ _ ?_
            clear hK K
            refine wpAny_ready (rs := [4]) (by kernel_rfl) (by simp) ?_
            refine AllReady.cons rfl (fun K hK => ?_) AllReady.nil
            go_wp2_with (go_at_call 219; refine (HE.out _ hbd).mono ?_; rintro e w1 ⟨rfl, hg1⟩; refine Hid.out ?_)
            refine (show ∀ {p : Prop}, p → Hid p from fun h => h) ?_
            try refine hK _ _ ?_
            clear hK K
            refine wpAny_ready (rs := [5]) (by kernel_rfl) (by simp) ?_
            refine AllReady.cons rfl (fun K hK => ?_) AllReady.nil
            go_simp
            refine hK _ _ ?_
            clear hK K
            refine wpAny_ready (rs := [6]) (by kernel_rfl) (by simp) ?_
            refine AllReady.cons rfl (fun K hK => ?_) AllReady.nil
            go_simp
            refine hK _ _ ?_
            clear hK K
            refine wpAny_ready (rs := [7]) (by kernel_rfl) (by simp) ?_
            refine AllReady.cons rfl (fun K hK => ?_) AllReady.nil
            go_simp
            refine hK _ _ ?_
            clear hK K
            refine wpAny_ready (rs := [8]) (by kernel_rfl) (by simp) ?_
            refine AllReady.cons rfl (fun K hK => ?_) AllReady.nil
            go_simp
            refine hK _ _ ?_
            clear hK K
            refine wpAny_ready (rs := [9]) (by kernel_rfl) (by simp) ?_
            refine AllReady.cons rfl (fun K hK => ?_) AllReady.nil
            go_simp
            refine hK _ _ ?_
            clear hK K
            refine skipOp (i := 10) rfl (by kernel_rfl) (by kernel_rfl) (by kernel_rfl) (fun _ _ _ h => h) (by kernel_rfl) ?_
            refine skipOp (i := 11) rfl (by kernel_rfl) (by kernel_rfl) (by kernel_rfl) (fun _ _ _ h => h) (by kernel_rfl) ?_
            refine skipOp (i := 12) rfl (by kernel_rfl) (by kernel_rfl) (by kernel_rfl) (fun _ _ _ h => h) (by kernel_rfl) ?_
            refine skipOp (i := 13) rfl (by kernel_rfl) (by kernel_rfl) (by kernel_rfl) (fun _ _ _ h => h) (by kernel_rfl) ?_
            refine skipOp (i := 14) rfl (by kernel_rfl) (by kernel_rfl) (by kernel_rfl) (fun _ _ _ h => h) (by kernel_rfl) ?_
            refine skipOp (i := 15) rfl (by kernel_rfl) (by kernel_rfl) (by kernel_rfl) (fun _ _ _ h => h) (by kernel_rfl) ?_
            refine skipOp (i := 16) rfl (by kernel_rfl) (by kernel_rfl) (by kernel_rfl) (fun _ _ _ h => h) (by kernel_rfl) ?_
            refine skipOp (i := 17) rfl (by kernel_rfl) (by kernel_rfl) (by kernel_rfl) (fun _ _ _ h => h) (by kernel_rfl) ?_
            refine skipOp (i := 18) rfl (by kernel_rfl) (by kernel_rfl) (by kernel_rfl) (fun _ _ _ h => h) (by kernel_rfl) ?_
            refine skipOp (i := 19) rfl (by kernel_rfl) (by kernel_rfl) (by kernel_rfl) (fun _ _ _ h => h) (by kernel_rfl) ?_
            refine skipOp (i := 20) rfl (by kernel_rfl) (by kernel_rfl) (by kernel_rfl) (fun _ _ _ h => h) (by kernel_rfl) ?_
            refine wpAny_ready (rs := [21]) (by kernel_rfl) (by simp) ?_
            refine AllReady.cons rfl (fun K hK => ?_) AllReady.nil
            go_simp
            refine hK _ _ ?_
            clear hK K
            refine wpAny_ready (rs := [22]) (by kernel_rfl) (by simp) ?_
            refine AllReady.cons rfl (fun K hK => ?_) AllReady.nil
            go_simp
            refine hK _ _ ?_
            clear hK K
            refine wpAny_done (by kernel_rfl) ?_ _
            go_wp2
            exact ⟨⟨1, by omega, by go_num, fun j hj => by
              obtain rfl : j = 0 := by omega
              exact HY.out, HG.out _ hg1⟩, by simp [intOf]; omega⟩
          · obtain ⟨s, hs⟩ : ∃ s, ts[i]? = some s := ⟨ts[i]'(by omega), List.getElem?_eq_getElem (by omega)⟩
            obtain ⟨y, cy, e1, i1, _⟩ := hc i s hs
            have hBs := (HK.out i (by omega) s hs).1
            have HL := hideIt (fun W (hW : Good wr W) => (compareTrees_any s t hBs hB y x cy cx W (i1.up hW) (i0.up hW)).mono fun e v ⟨he, hb⟩ => (show e = Ending.returned (.int .i64 (cmpI (mnV s) (mnV t))) ∧ Good wr v from ⟨he, by rw [hb]; exact hW⟩))
            have HC : Hid (∀ u, Good wr u → u.cell? ⟨b, off + (i + 1), none⟩ = some (.slice x t.length cx) ∧ u.cell? ⟨b, off + i, none⟩ = some (.slice y s.length cy)) := fun u hu => ⟨by rw [hu.cell hbl]; exact e0, by rw [hu.cell hbl]; exact e1⟩
            have hS0 := HC.out _ hbd
            have ek : ((i + 1 : Nat) : Int) = (i : Int) + 1 := by omega
            rw [ek] at b1 b2
            have b3 : (0 : Int) ≤ (i : Int) := by omega
            have b4 : (i : Int) < (n : Int) := by omega
            have tn : ((i : Int) + 1).toNat = i + 1 := by omega
            have d0 : decide ((0 : Int) < (i : Int) + 1) = true := decide_eq_true (by omega)
            have hw1 : IntKind.i64.wrap (i : Int) = (i : Int) := by rw [IntKind.wrap_i64]; omega
            rw [ek]
            have dc := cmpI_ge (mnV s) (mnV t)
            by_cases hL : mnV s < mnV t
            · rw [decide_eq_true hL] at dc
              have HY : Hid (AsAt ts (i + 1)) := fun t' ht' => by
                rw [ht] at ht'
                cases ht'
                exact ⟨hB, fun j s' hj hs' => by
                  obtain rfl : j = i := by omega
                  rw [hs] at hs'
                  cases hs'
                  exact hL⟩
              clear ek hc ht hs i0 i1 hB hBs hL e0 e1
              generalize cmpI (mnV s) (mnV t) = cv at HL dc
              go_wp2
              go_region_held3 (fun u => u.cell? ⟨b, off + (i + 1), none⟩ = some (.slice x t.length cx) ∧ u.cell? ⟨b, off + i, none⟩ = some (.slice y s.length cy))
                (first | assumption)
                (first
                | (go_at_call 219; refine (HE.out _ hbd).mono ?_; rintro e w1 ⟨rfl, hg1⟩; have hS1 := HC.out _ hg1)
                | (go_at_call 220; refine (HL.out _ hg1).mono ?_; rintro e w2 ⟨rfl, hg2⟩; have hS2 := HC.out _ hg2))
              all_goals
                go_wp2
                exact ⟨⟨i + 2, by omega, by go_num, fun j hj => by
                  by_cases hji : j = i + 1
                  · subst hji; exact HY.out
                  · exact HK.out j (by omega), HG.out _ hg2⟩, by simp [intOf]; omega⟩
            · rw [decide_eq_false hL] at dc
              have HN : Hid (¬ asP ts) := fun hp => hL ((hp (i + 1) t ht).2 i s rfl hs)
              clear ek hc ht hs i0 i1 hB hBs hL e0 e1
              generalize cmpI (mnV s) (mnV t) = cv at HL dc
              go_wp2
              go_region_held3 (fun u => u.cell? ⟨b, off + (i + 1), none⟩ = some (.slice x t.length cx) ∧ u.cell? ⟨b, off + i, none⟩ = some (.slice y s.length cy))
                (first | assumption)
                (first
                | (go_at_call 219; refine (HE.out _ hbd).mono ?_; rintro e w1 ⟨rfl, hg1⟩; have hS1 := HC.out _ hg1)
                | (go_at_call 220; refine (HL.out _ hg1).mono ?_; rintro e w2 ⟨rfl, hg2⟩; have hS2 := HC.out _ hg2))
              all_goals
                go_wp2
                go_ret
                exact ⟨false, rfl, ⟨fun h => (by cases h), fun h => absurd h HN.out⟩, HG.out _ hg2⟩
    · obtain rfl : k = n := by omega
      have HY : Hid (asP ts) := fun i t ht => HK.out i (by have := (List.getElem?_eq_some_iff.1 ht).1; omega) t ht
      clear HK
      go_wp2
      go_ret
      exact ⟨true, rfl, ⟨fun _ => HY.out, fun _ => rfl⟩, hg⟩
end Go.Proofs.YtpfkfbmghddepaaGreat
namespace Go.Proofs.YtpfkfbmghddepaaGreat
open Go.RowKit

def rangeI (n : Nat) : List Int := (List.range n).map fun j : Nat => (j : Int)
theorem rangeI_len (n : Nat) : (rangeI n).length = n := by simp [rangeI]
theorem rangeI_at {n k : Nat} (h : k < n) : (rangeI n)[k]? = some (k : Int) := by simp [rangeI, h]
theorem rangeI_mem (n : Nat) (x : Int) : x ∈ rangeI n ↔ 0 ≤ x ∧ x < (n : Int) := by
  simp only [rangeI, List.mem_map, List.mem_range]
  constructor
  · rintro ⟨j, hj, rfl⟩
    omega
  · rintro ⟨h1, h2⟩
    exact ⟨x.toNat, by omega, by omega⟩
theorem rangeI_asc (n : Nat) : (rangeI n).Pairwise (· < ·) := by
  unfold rangeI
  rw [List.pairwise_map]
  exact List.Pairwise.imp (fun h => by omega) (List.pairwise_lt_range (n := n))
/-- all vertices -/
def allV (ts : List (List Int)) : List Int := ts.flatMap vsL
theorem allV_cons (t : List Int) (r : List (List Int)) : allV (t :: r) = vsL t ++ allV r := by simp [allV]
theorem allV_snoc (ts : List (List Int)) (t : List Int) : allV (ts ++ [t]) = allV ts ++ vsL t := by simp [allV]
theorem allV_len (ts : List (List Int)) : (allV ts).length = cnt ts := by
  induction ts with
  | nil => simp [cnt, allV]
  | cons t r ih =>
    rw [allV_cons, List.length_append, ih]
    simp [cnt]
theorem allV_nodup {ts : List (List Int)} (h : ts.Pairwise Apart) : (allV ts).Nodup := by
  induction ts with
  | nil => simp [allV]
  | cons t r ih =>
    rw [List.pairwise_cons] at h
    rw [allV_cons, List.nodup_append]
    refine ⟨vs_nodup t, ih h.2, fun y hy z hz e => ?_⟩
    subst e
    obtain ⟨s, hs, hys⟩ := List.mem_flatMap.1 hz
    exact h.1 s hs y ((vsL_mem t y).1 hy).2 ((vsL_mem s y).1 hys).2
theorem apart_of_nodup {ts : List (List Int)} (hB : ∀ t ∈ ts, tB t = true) (h : (allV ts).Nodup) : ts.Pairwise Apart := by
  induction ts with
  | nil => exact List.Pairwise.nil
  | cons t r ih =>
    rw [allV_cons, List.nodup_append] at h
    rw [List.pairwise_cons]
    refine ⟨fun s hs x hx hxs => ?_, ih (fun s hs => hB s (by simp [hs])) h.2.1⟩
    exact h.2.2 x ((vs_mem_of (hB t (by simp))).2 hx) x (List.mem_flatMap.2 ⟨s, hs, (vs_mem_of (hB s (by simp [hs]))).2 hxs⟩) rfl
/-- sorted -/
def srtI (l : List Int) : List Int := l.mergeSort fun x y => decide (x ≤ y)
theorem srtI_perm (l : List Int) : (srtI l).Perm l := List.mergeSort_perm _ _
theorem srtI_le (l : List Int) : (srtI l).Pairwise fun x y => x ≤ y := by
  have h := List.pairwise_mergeSort (le := fun x y : Int => decide (x ≤ y)) (fun a b c h1 h2 => by simp at *; omega) (fun a b => by simp; omega) l
  exact h.imp fun h => by simpa using h
theorem sh_iff {N : Nat} {ts : List (List Int)} (hB : ∀ t ∈ ts, tB t = true) : FQ (N : Int) ts ↔ srtI (allV ts) = rangeI N := by
  have hp := srtI_perm (allV ts)
  constructor
  · intro h
    have hn : (srtI (allV ts)).Nodup := hp.nodup_iff.2 (allV_nodup h.2.1)
    have hlt : (srtI (allV ts)).Pairwise (· < ·) := by
      have h2 := (srtI_le (allV ts)).and hn
      exact h2.imp fun ⟨h3, h4⟩ => by omega
    refine asc_ext hlt (rangeI_asc N) fun x => ?_
    rw [hp.mem_iff, rangeI_mem]
    constructor
    · intro hx
      obtain ⟨t, ht, hxt⟩ := List.mem_flatMap.1 hx
      obtain ⟨v1, v2⟩ := (vsL_mem t x).1 hxt
      have v1 := of_decide_eq_true (show decide (0 ≤ x ∧ x < 12) = true from v1)
      exact ⟨v1.1, (h.1 t ht).2 x v2⟩
    · rintro ⟨h1, h2⟩
      obtain ⟨t, ht, hx⟩ := h.cover h1 h2
      exact List.mem_flatMap.2 ⟨t, ht, (vs_mem_of (hB t ht)).2 hx⟩
  · intro h
    rw [h] at hp
    have hn : (allV ts).Nodup := hp.nodup_iff.1 ((rangeI_asc N).imp fun h => by omega)
    refine ⟨fun t ht => ⟨hB t ht, fun x hx => ?_⟩, apart_of_nodup hB hn, ?_⟩
    · exact ((rangeI_mem N x).1 (hp.mem_iff.2 (List.mem_flatMap.2 ⟨t, ht, (vs_mem_of (hB t ht)).2 hx⟩))).2
    · rw [← allV_len, ← hp.length_eq, rangeI_len]
theorem asP_B {ts : List (List Int)} (h : asP ts) : ∀ t ∈ ts, tB t = true := fun t ht => by
  obtain ⟨i, hi⟩ := List.mem_iff_getElem?.1 ht
  exact (h i t hi).1
theorem asP_asc {ts : List (List Int)} (h : asP ts) : ts.Pairwise fun s t => mnV s < mnV t := asc_all fun i t j s ht hj hs => (h i t ht).2 j s hj hs
theorem asP_of {ts : List (List Int)} (hB : ∀ t ∈ ts, tB t = true) (h : ts.Pairwise fun s t => mnV s < mnV t) : asP ts := fun i t ht => by
  refine ⟨hB t (List.mem_of_getElem? ht), fun j s hj hs => ?_⟩
  obtain ⟨hi, e⟩ := List.getElem?_eq_some_iff.1 ht
  obtain ⟨hj2, e2⟩ := List.getElem?_eq_some_iff.1 hs
  have := List.pairwise_iff_getElem.1 h j i hj2 hi (by omega)
  rw [e, e2] at this
  exact this
theorem asP_len {ts : List (List Int)} (h : asP ts) : ts.length ≤ 12 := by
  have h1 : (ts.map mnV).Nodup := by
    refine (List.pairwise_map.2 ((asP_asc h).imp fun h => ?_) : (ts.map mnV).Pairwise (· ≠ ·))
    omega
  have h2 := nd_sub (b := rangeI 12) h1 fun x hx => by
    obtain ⟨t, ht, rfl⟩ := List.mem_map.1 hx
    have h3 := ((tB_iff t).1 (asP_B h t ht)).1 _ (mn_mem (asP_B h t ht))
    have h3 := of_decide_eq_true (show decide (0 ≤ mnV t ∧ mnV t < 12) = true from h3)
    exact (rangeI_mem 12 _).2 h3
  rw [List.length_map, rangeI_len] at h2
  exact h2
/-- a right forest, as the program looks -/
theorem FP_prog (N : Int) (ts : List (List Int)) : FP N ts ↔ (1 ≤ N ∧ N ≤ 12) ∧ asP ts ∧ (srtI (allV ts) = rangeI (srtI (allV ts)).length ∧ ((srtI (allV ts)).length : Int) = N) := by
  rw [FP_iff]
  constructor
  · rintro ⟨h1, h2, h3, h4⟩
    have hA := asP_of (fun t ht => (h3.1 t ht).1) h4
    obtain ⟨M, rfl⟩ : ∃ M : Nat, N = (M : Int) := ⟨N.toNat, by omega⟩
    have h5 := (sh_iff (asP_B hA)).1 h3
    exact ⟨⟨h1, h2⟩, hA, by rw [h5, rangeI_len], by rw [h5, rangeI_len]⟩
  · rintro ⟨⟨h1, h2⟩, hA, h3, h4⟩
    refine ⟨h1, h2, ?_, asP_asc hA⟩
    rw [← h4]
    exact (sh_iff (asP_B hA)).2 h3
theorem allV_bound {ts : List (List Int)} (k : Nat) : (allV (ts.take k)).length ≤ 12 * k := by
  rw [allV_len, ← cntV_all]
  have h1 := cntV_le (ts.take k) (ts.take k).length
  have h2 := List.length_take_le k ts
  omega
end Go.Proofs.YtpfkfbmghddepaaGreat
namespace Go.Proofs.YtpfkfbmghddepaaGreat
open Go.RowKit Go.Shelf
attribute [local go_sem] Oper.semAt_some

/-- a number, as yield takes it -/
abbrev numV (x : Int) : Array Value := #[.int .i64 x]

set_option maxRecDepth 100000 in
set_option maxHeartbeats 2000000 in
theorem valIt_in (n l B n0 : Nat) (hn : 1 ≤ n) (ls : List Int) (m : Nat) (a : Option Addr) (c : Nat) (hm : m ≤ 3000000) (J Jx : List Int → World → Prop)
    (hY : ∀ pre x W1, J pre W1 → pre.length < m → YieldAt Fence.wide (n - 1) Tryz.prog l (numV x) W1 fun e W' =>
      (e = .returned (.bool true) ∧ J (pre ++ [x]) W' ∧ Below n0 W1 W') ∨ (e = .returned (.bool false) ∧ Jx (pre ++ [x]) W'))
    (W : World) (hBc : W.cell? ⟨B, 0, none⟩ = some (.slice a m c)) (hI : Is W n0 a m ls) (h0 : J [] W) :
    CallsIn Fence.wide n Tryz.prog 203 #[.func (.yield l) #[] #[], .pointer (some ⟨B, 0, none⟩)] W fun e W' => (∃ v, e = .returned v) ∧
      ((∃ ys, ys = ls ∧ J ys W') ∨ (∃ pre, True ∧ Jx pre W')) := by
  obtain ⟨hlen, hrow⟩ := hI
  have HR := hideIt hrow
  clear hrow
  refine callsIn_of_wp Tryz.func203 rfl trivial ?_ rfl
  simp only [Tryz.ntmps203, List.size_toArray, List.length_cons, List.length_nil, Nat.reduceAdd, Nat.reduceSub, Array.replicate_succ, Array.replicate_zero, List.push_toArray, List.append_toArray, List.nil_append, List.cons_append]
  gi_wp2
  gi_loopw [7] (fun i wr => ∃ (k : Nat) (pre : List Int), k ≤ m ∧ i = .int .i64 (k : Int) ∧ pre.length = k ∧ Hid (pre = ls.take k) ∧ Below n0 W wr ∧ J pre wr)
    (fun i _ => m - (intOf i).toNat)
  case atStart => exact ⟨0, [], by omega, rfl, rfl, by show _ = _; simp, Below.refl _ _, h0⟩
  case round =>
    obtain ⟨k, pre, hk, rfl, hpk, HP, hb, hJ⟩ := hrel
    by_cases hlt : k < m
    · rcases HR.out with hz | ⟨b, off, rfl, hbl, hc⟩
      · omega
      · obtain ⟨f, hf⟩ : ∃ f, ls[k]? = some f := ⟨ls[k]'(by omega), List.getElem?_eq_getElem (by omega)⟩
        have e0 : wr.cell? ⟨b, off + k, none⟩ = some (.int .i64 f) := by rw [hb.cell hbl]; exact hc k f hf
        have b1 : (0 : Int) ≤ (k : Int) := by omega
        have b2 : (k : Int) < (m : Int) := by omega
        have HP2 : Hid (pre ++ [f] = ls.take (k + 1)) := by show _ = _; rw [take_snocF ls k f hf, HP.out]
        obtain ⟨fn, tmps, assign, body, hy, hR⟩ := hY pre f wr hJ (by omega)
        dsimp only [numV] at hy
        clear hc hf HP
        gi_wp2
        refine hR.mono ?_
        rintro e W3 (⟨rfl, hJ3, hk3⟩ | ⟨rfl, hJx3⟩)
        · gi_wp2
          exact ⟨⟨k + 1, pre ++ [f], by omega, by go_num, by simp; omega, HP2, hb.trans hk3, hJ3⟩, by simp [intOf]; omega⟩
        · gi_wp2
          (try simp only [Exit.inBlock, Exit.then])
          refine bodyPost_ret (v := .tuple #[]) (results_none rfl _ _ _) rfl ?_
          exact ⟨⟨_, rfl⟩, .inr ⟨_, trivial, hJx3⟩⟩
    · obtain rfl : k = m := by omega
      have HP2 : Hid (pre = ls) := by show _ = _; rw [HP.out, List.take_of_length_le (by omega)]
      clear HP
      gi_wp2
      go_end0
      exact ⟨⟨_, rfl⟩, .inl ⟨pre, HP2.out, hJ⟩⟩

theorem val_stops (n B n0 : Nat) (hn : 1 ≤ n) (ls : List Int) (m : Nat) (a : Option Addr) (c : Nat) (hm : m ≤ 3000000) (w1 : World) (hB : B < w1.heap.size) (hn0 : n0 ≤ w1.heap.size) (hBc : w1.cell? ⟨B, 0, none⟩ = some (.slice a m c)) (hI : Is w1 n0 a m ls) :
    SeqStopsK Fence.wide n Tryz.prog 203 #[.pointer (some ⟨B, 0, none⟩)] numV (Below n0) (fun ys => ys = ls) (fun _ => True) m w1 := fun l J Jx W hW _ _ hY h0 =>
  valIt_in n l B n0 hn ls m a c hm J Jx hY W ((hW.cell (p := ⟨B, 0, none⟩) hB).trans hBc) (hI.below hW hn0) h0

theorem valuesI_any (a : Option Addr) (m c : Nat) (w : World) :
    Calls Tryz.prog 156 #[.slice a m c] w fun e w' => e = .returned (.func (.func 203) #[] #[.pointer (some ⟨w.heap.size, 0, none⟩)]) ∧ w' = w.alloc (.cells #[.slice a m c] 44) := by
  go_enter Tryz.func156, Tryz.ntmps156
  go_wp2
  go_ret
  exact ⟨rfl, rfl⟩

set_option maxRecDepth 100000 in
set_option maxHeartbeats 2000000 in
theorem appSeq_any (ls : List Int) (m : Nat) (a : Option Addr) (c B : Nat) (hm : m ≤ 3000000) (w : World) (hB : B < w.heap.size) (hBc : w.cell? ⟨B, 0, none⟩ = some (.slice a m c)) (h : Is w w.heap.size a m ls) :
    Calls Tryz.prog 221 #[.slice none 0 0, .func (.func 203) #[] #[.pointer (some ⟨B, 0, none⟩)]] w fun e w' => ∃ v, e = .returned v ∧ w'.ownsRow w.heap.size 3 1 v m (ic ls) ∧ Below w.heap.size w w' := by
  obtain ⟨i0, hi, hz0, hz1, hz2⟩ := info_parts info3i
  refine (callsIn_wide (n := 6)).1 ?_
  refine callsIn_of_wp_marks Tryz.func221 rfl trivial ?_ rfl
  simp only [Tryz.ntmps221, List.size_toArray, List.length_cons, List.length_nil, Nat.reduceAdd, Nat.reduceSub, Array.replicate_succ, Array.replicate_zero, List.push_toArray, List.append_toArray, List.nil_append, List.cons_append]
  gi_wp2
  have bS := Boxed.new w 44 (.slice none 0 0)
  have hB0 : Below w.heap.size w (w.alloc (.cells #[.slice none 0 0] 44)) := (Below.refl _ w).alloc (Nat.le_refl _) _
  have hlen := h.1
  have hc0 : (w.alloc (.cells #[.slice none 0 0] 44)).cell? ⟨B, 0, none⟩ = some (.slice a m c) := by rw [hB0.cell (p := ⟨B, 0, none⟩) hB]; exact hBc
  refine wpIn_rangeFunc_ownF rfl (by omega) (gf := 203) (lb := #[.pointer (some ⟨B, 0, none⟩)]) rfl trivial (enters_of Tryz.func203 (by kernel_rfl) rfl)
    (val_stops 5 B w.heap.size (by omega) ls m a c hm _ (by simp; omega) (by simp) hc0 (h.below hB0 (Nat.le_refl _))) belowK_t (belowK_b (by simp)) (Below.refl _ _) (fun _ => rfl)
    (fun pre W => (∃ v, Boxed W w.heap.size 44 v ∧ W.ownsRow w.heap.size 3 1 v pre.length (ic pre) ∧ (v = .slice none 0 0 ↔ pre = [])) ∧ Below w.heap.size w W)
    (fun _ _ _ => False)
    (OwnFrom.and (Own.from (holdsRow_own w.heap.size w.heap.size 44 3 1 (fun pre => pre.length) (fun pre => ic pre) (fun pre v => v = .slice none 0 0 ↔ pre = [])) _) (ownFrom_below (Nat.le_refl _) (by simp)))
    (fun _ _ _ _ _ hs _ _ => hs)
    ⟨⟨_, bS, World.ownsRow_nil _ _ _ _, by simp⟩, hB0⟩
    (fun x => { tmps := #[.slice none 0 0, .func (.func 203) #[] #[.pointer (some ⟨B, 0, none⟩)], .pointer (some ⟨w.heap.size, 0, none⟩), undef, .slice none 0 0, .int .i64 x, .func (.func 203) #[] #[.pointer (some ⟨B, 0, none⟩)], .int .i64 x, undef, undef, undef, undef, undef], defers := [] }) ?assign ?body ?done ?stop
  case assign =>
    intro l x W K hK
    gi_wp2
    exact hK
  case body =>
    rintro l pre x W ⟨⟨v, hv, hrow, hnil⟩, hB1⟩ hlt
    have hc := hv.cell
    have HB := hideIt hB1
    have z1 := hB1.size
    gi_wp2_with (gi_at_builtin; refine wpListIn_append_own _ rfl _ _ 44 rfl w.heap.size 3 i0 _ 1 8 Tryz.underlying44 hi hz0 hz1 hz2 rfl (by decide) _ _ _ rfl (hrow.alloc _) ⟨W.heap.size, 0, none⟩ 1 1 [.int .i64 x] rfl rfl (cell_one_new _ _ _) (by simp [Value.oneCell']) (by unfold maxLen; omega) (by omega) (by simp; omega) ?_; intro v' w1 hown' hgrow _; obtain ⟨g', cap', rfl⟩ := ownsRow_succ hown'; obtain ⟨hv1, hv2, hr2, hk2, hb2⟩ := hv.appended (by decide) hrow z1 (Nat.le_refl _) hown' hgrow; have hc1 := hv1.cell; have hf1 := hv1.frozen)
    exact ⟨hk2, hb2, ⟨_, hv2, by rw [ic_snoc]; simpa using hr2, by simp⟩, HB.out.trans hb2⟩
  case done =>
    rintro D ys W hD rfl ⟨⟨v, hv, hrow, hnil⟩, hB1⟩ hK
    have hc := hv.cell
    have HB := hideIt hB1
    gi_wp2
    refine ⟨by simp, .inl ⟨_, _, rfl, run_takeDeferred hK, ?_⟩⟩
    refine ⟨v, by simp [results, Tryz.results221, go_sem], v, rfl, ?_, ?_⟩
    · rw [← hlen]; exact ownsRow_putObj hrow _ hK rfl
    · exact HB.out.trans (belowK_b (w := w) (Nat.le_refl _) W D _ _ (by simp at hD; omega) hK rfl rfl)
  case stop =>
    rintro D cc pre W _ _ hh _
    exact hh.elim

set_option maxHeartbeats 1000000 in
theorem collect_any (ls : List Int) (m : Nat) (a : Option Addr) (c B : Nat) (hm : m ≤ 3000000) (w : World) (hB : B < w.heap.size) (hBc : w.cell? ⟨B, 0, none⟩ = some (.slice a m c)) (h : Is w w.heap.size a m ls) :
    Calls Tryz.prog 201 #[.func (.func 203) #[] #[.pointer (some ⟨B, 0, none⟩)]] w fun e w' => ∃ v, e = .returned v ∧ w'.ownsRow w.heap.size 3 1 v m (ic ls) ∧ Below w.heap.size w w' := by
  have HA := hideIt (appSeq_any ls m a c B hm w hB hBc h)
  clear h hBc
  go_enter Tryz.func201, Tryz.ntmps201
  go_wp2_with (go_at_call 221; refine HA.out.mono ?_; rintro e w1 ⟨v, rfl, ho, hb⟩)
  go_ret
  exact ⟨v, rfl, ho, hb⟩
end Go.Proofs.YtpfkfbmghddepaaGreat
namespace Go.Proofs
open Go.Shelf
def Tryz.laysSlE43_f154_ren : Go.Shelf.Ren := ⟨fun | 43 => 154 | n => n, fun | 22 => 44 | 23 => 3 | 3 => 3 | 4 => 4 | 0 => 0 | n => n, fun | n => n⟩
theorem Tryz.laysSlE43_f154 : Go.Proofs.SlLaysE.n43 Tryz.prog Tryz.laysSlE43_f154_ren := {
  mixed := by kernel_rfl
  f43 := ⟨Tryz.f154.name, by decide, Tryz.func154.trans (congrArg some (by kernel_rfl))⟩
  t0 := Tryz.underlying0
  a0 := Tryz.isAgg0
  z0 := Tryz.sizeOf0
  v0 := Tryz.zeroValue0
  t3 := Tryz.underlying3
  a3 := Tryz.isAgg3
  z3 := Tryz.sizeOf3
  v3 := Tryz.zeroValue3
  t4 := Tryz.underlying4
  a4 := Tryz.isAgg4
  z4 := Tryz.sizeOf4
  v4 := Tryz.zeroValue4
  t22 := Tryz.underlying44
  a22 := Tryz.isAgg44
  z22 := Tryz.sizeOf44
  v22 := Tryz.zeroValue44
  a23 := Tryz.isAgg3
  z23 := Tryz.sizeOf3 }
open Go.RowKit Go.Lib Go.Sort in
theorem Tryz.slices_Compact {α : Type} [Inhabited α] [DecidableEq α] (enc : α → Value) (hO : OneCell enc) (heq : EqlAt Tryz.prog 3 enc (fun x y => decide (x = y))) (hne : NeqAt Tryz.prog 3 enc (fun x y => decide (x = y))) (zr : α) (v23 : ∀ w, (zeroValue 3).run Tryz.prog w = .ok (enc zr) w) (blk off cap : Nat) (d : Array α) (w : World) (hH : Holds enc w blk off d) (hsz : d.size ≤ 9223372036854775807) (hcap : d.size ≤ cap) :
    Calls Tryz.prog 154 #[.slice (some ⟨blk, off, none⟩) d.size cap] w fun e w' => e = .returned (.slice (some ⟨blk, off, none⟩) (compactUpTo d d.size).length cap) ∧ ∃ q, w' = putRow enc (Sort.ahead w q) blk off (compactUpTo d d.size ++ List.replicate (d.size - (compactUpTo d d.size).length) zr).toArray := AnyE.slices_Compact Tryz.laysSlE43_f154 enc hO heq hne zr v23 blk off cap d w hH hsz hcap
def Tryz.laysSlH6_f200_ren : Go.Shelf.Ren := ⟨fun | 6 => 200 | n => n, fun | 22 => 44 | 23 => 3 | 25 => 131 | 3 => 3 | 0 => 0 | 4 => 4 | n => n, fun | n => n⟩
theorem Tryz.laysSlH6_f200 : Go.Proofs.SlLaysH.n6 Tryz.prog Tryz.laysSlH6_f200_ren := {
  mixed := by kernel_rfl
  f6 := ⟨Tryz.f200.name, by decide, Tryz.func200.trans (congrArg some (by kernel_rfl))⟩
  t0 := Tryz.underlying0
  a0 := Tryz.isAgg0
  z0 := Tryz.sizeOf0
  v0 := Tryz.zeroValue0
  t3 := Tryz.underlying3
  a3 := Tryz.isAgg3
  z3 := Tryz.sizeOf3
  v3 := Tryz.zeroValue3
  t4 := Tryz.underlying4
  a4 := Tryz.isAgg4
  z4 := Tryz.sizeOf4
  v4 := Tryz.zeroValue4
  t22 := Tryz.underlying44
  a22 := Tryz.isAgg44
  z22 := Tryz.sizeOf44
  v22 := Tryz.zeroValue44
  a23 := Tryz.isAgg3
  z23 := Tryz.sizeOf3
  t25 := Tryz.underlying131
  a25 := Tryz.isAgg131
  z25 := Tryz.sizeOf131
  v25 := Tryz.zeroValue131 }
open Go.RowKit Go.Lib in
theorem Tryz.slices_IndexFunc_empty {α : Type} [Inhabited α] (a : Option Addr) (c : Nat) (fv : Value) (w : World) :
    Calls Tryz.prog 200 #[.slice a 0 c, fv] w fun e w' => e = .returned (.int .i64 (-1)) ∧ w' = w := AnyE.slices_IndexFunc_empty Tryz.laysSlH6_f200 a c fv w
def Tryz.laysSlH10_f153_ren : Go.Shelf.Ren := ⟨fun | 10 => 153 | 6 => 200 | n => n, fun | 22 => 44 | 23 => 3 | 25 => 131 | 3 => 3 | 4 => 4 | 0 => 0 | n => n, fun | n => n⟩
theorem Tryz.laysSlH10_f153 : Go.Proofs.SlLaysH.n10 Tryz.prog Tryz.laysSlH10_f153_ren := {
  mixed := by kernel_rfl
  f6 := ⟨Tryz.f200.name, by decide, Tryz.func200.trans (congrArg some (by kernel_rfl))⟩
  f10 := ⟨Tryz.f153.name, by decide, Tryz.func153.trans (congrArg some (by kernel_rfl))⟩
  t0 := Tryz.underlying0
  a0 := Tryz.isAgg0
  z0 := Tryz.sizeOf0
  v0 := Tryz.zeroValue0
  t3 := Tryz.underlying3
  a3 := Tryz.isAgg3
  z3 := Tryz.sizeOf3
  v3 := Tryz.zeroValue3
  t4 := Tryz.underlying4
  a4 := Tryz.isAgg4
  z4 := Tryz.sizeOf4
  v4 := Tryz.zeroValue4
  t22 := Tryz.underlying44
  a22 := Tryz.isAgg44
  z22 := Tryz.sizeOf44
  v22 := Tryz.zeroValue44
  a23 := Tryz.isAgg3
  z23 := Tryz.sizeOf3
  t25 := Tryz.underlying131
  a25 := Tryz.isAgg131
  z25 := Tryz.sizeOf131
  v25 := Tryz.zeroValue131 }
open Go.RowKit Go.Lib Go.Sort in
theorem Tryz.slices_DeleteFunc {α : Type} [Inhabited α] (enc : α → Value) (hO : OneCell enc) (p : α → Bool) (g : Nat) (lb : Array Value) (eg : ∀ args w, (callFunc g args).run Tryz.prog w = .ok (.enter g args) w) (zr : α) (v23 : ∀ w, (zeroValue 3).run Tryz.prog w = .ok (enc zr) w) (blk off cap : Nat) (d : Array α) (w : World) (hp : PredAt Tryz.prog g lb enc p w) (hpo : PredOver Tryz.prog g lb enc p blk off d.size w) (hH : Holds enc w blk off d) (hsz : d.size ≤ 9223372036854775807) (hcap : d.size ≤ cap) :
    Calls Tryz.prog 153 #[.slice (some ⟨blk, off, none⟩) d.size cap, .func (.func g) #[] lb] w fun e w' => e = .returned (.slice (some ⟨blk, off, none⟩) (d.toList.filter fun x => !p x).length cap) ∧ ∃ q, w' = putRow enc (Sort.ahead w q) blk off ((d.toList.filter fun x => !p x) ++ List.replicate (d.size - (d.toList.filter fun x => !p x).length) zr).toArray := AnyE.slices_DeleteFunc Tryz.laysSlH10_f153 enc hO p g lb eg zr v23 blk off cap d w hp hpo hH hsz hcap
def Tryz.laysSlM5_f202_ren : Go.Shelf.Ren := ⟨fun | 5 => 202 | 8 => 213 | 7 => 222 | 19 => 242 | 20 => 243 | 10 => 245 | 11 => 246 | 12 => 247 | 13 => 248 | 14 => 249 | 15 => 250 | 16 => 251 | 17 => 252 | 18 => 253 | 30 => 267 | 31 => 263 | 32 => 264 | 33 => 268 | 34 => 269 | 35 => 214 | 40 => 271 | n => n, fun | 23 => 44 | 25 => 3 | 3 => 3 | 32 => 201 | 22 => 44 | 0 => 0 | 44 => 139 | 46 => 267 | 4 => 4 | 36 => 260 | 35 => 259 | 41 => 180 | 5 => 5 | 9 => 9 | 53 => 281 | 57 => 285 | 63 => 289 | 64 => 78 | n => n, fun | n => n⟩
theorem Tryz.laysSlM5_f202 : Go.Proofs.SlLaysM.n5 Tryz.prog Tryz.laysSlM5_f202_ren := {
  mixed := by kernel_rfl
  f5 := ⟨Tryz.f202.name, by decide, Tryz.func202.trans (congrArg some (by kernel_rfl))⟩
  f7 := ⟨Tryz.f222.name, by decide, Tryz.func222.trans (congrArg some (by kernel_rfl))⟩
  f8 := Tryz.func213.trans (congrArg some (by kernel_rfl))
  f10 := ⟨Tryz.f245.name, by decide, Tryz.func245.trans (congrArg some (by kernel_rfl))⟩
  f11 := ⟨Tryz.f246.name, by decide, Tryz.func246.trans (congrArg some (by kernel_rfl))⟩
  f12 := ⟨Tryz.f247.name, by decide, Tryz.func247.trans (congrArg some (by kernel_rfl))⟩
  f13 := ⟨Tryz.f248.name, by decide, Tryz.func248.trans (congrArg some (by kernel_rfl))⟩
  f14 := ⟨Tryz.f249.name, by decide, Tryz.func249.trans (congrArg some (by kernel_rfl))⟩
  f15 := ⟨Tryz.f250.name, by decide, Tryz.func250.trans (congrArg some (by kernel_rfl))⟩
  f16 := ⟨Tryz.f251.name, by decide, Tryz.func251.trans (congrArg some (by kernel_rfl))⟩
  f17 := ⟨Tryz.f252.name, by decide, Tryz.func252.trans (congrArg some (by kernel_rfl))⟩
  f18 := ⟨Tryz.f253.name, by decide, Tryz.func253.trans (congrArg some (by kernel_rfl))⟩
  f19 := Tryz.func242.trans (congrArg some (by kernel_rfl))
  f20 := Tryz.func243.trans (congrArg some (by kernel_rfl))
  f30 := ⟨Tryz.f267.name, by decide, Tryz.func267.trans (congrArg some (by kernel_rfl))⟩
  f31 := Tryz.func263.trans (congrArg some (by kernel_rfl))
  f32 := Tryz.func264.trans (congrArg some (by kernel_rfl))
  f33 := ⟨Tryz.f268.name, by decide, Tryz.func268.trans (congrArg some (by kernel_rfl))⟩
  f34 := ⟨Tryz.f269.name, by decide, Tryz.func269.trans (congrArg some (by kernel_rfl))⟩
  f35 := ⟨Tryz.f214.name, by decide, Tryz.func214.trans (congrArg some (by kernel_rfl))⟩
  f40 := ⟨Tryz.f271.name, by decide, Tryz.func271.trans (congrArg some (by kernel_rfl))⟩
  t0 := Tryz.underlying0
  a0 := Tryz.isAgg0
  z0 := Tryz.sizeOf0
  v0 := Tryz.zeroValue0
  t3 := Tryz.underlying3
  a3 := Tryz.isAgg3
  z3 := Tryz.sizeOf3
  v3 := Tryz.zeroValue3
  t4 := Tryz.underlying4
  a4 := Tryz.isAgg4
  z4 := Tryz.sizeOf4
  v4 := Tryz.zeroValue4
  t5 := Tryz.underlying5
  a5 := Tryz.isAgg5
  z5 := Tryz.sizeOf5
  v5 := Tryz.zeroValue5
  t9 := Tryz.underlying9
  a9 := Tryz.isAgg9
  z9 := Tryz.sizeOf9
  v9 := Tryz.zeroValue9
  t22 := Tryz.underlying44
  a22 := Tryz.isAgg44
  z22 := Tryz.sizeOf44
  v22 := Tryz.zeroValue44
  t23 := Tryz.underlying44
  a23 := Tryz.isAgg44
  z23 := Tryz.sizeOf44
  v23 := Tryz.zeroValue44
  t25 := Tryz.underlying3
  a25 := Tryz.isAgg3
  z25 := Tryz.sizeOf3
  v25 := Tryz.zeroValue3
  t32 := Tryz.underlying201
  a32 := Tryz.isAgg201
  z32 := Tryz.sizeOf201
  v32 := Tryz.zeroValue201
  t35 := Tryz.underlying259
  a35 := Tryz.isAgg259
  z35 := Tryz.sizeOf259
  v35 := Tryz.zeroValue259
  t36 := Tryz.underlying260
  a36 := Tryz.isAgg260
  z36 := Tryz.sizeOf260
  v36 := Tryz.zeroValue260
  t41 := Tryz.underlying180
  a41 := Tryz.isAgg180
  z41 := Tryz.sizeOf180
  v41 := Tryz.zeroValue180
  t44 := Tryz.underlying139
  a44 := Tryz.isAgg139
  z44 := Tryz.sizeOf139
  v44 := Tryz.zeroValue139
  t46 := Tryz.underlying267
  a46 := Tryz.isAgg267
  z46 := Tryz.sizeOf267
  v46 := Tryz.zeroValue267
  t53 := Tryz.underlying281
  a53 := Tryz.isAgg281
  z53 := Tryz.sizeOf281
  v53 := Tryz.zeroValue281
  t57 := Tryz.underlying285
  a57 := Tryz.isAgg285
  z57 := Tryz.sizeOf285
  v57 := Tryz.zeroValue285
  t63 := Tryz.underlying289
  a63 := Tryz.isAgg289
  z63 := Tryz.sizeOf289
  v63 := Tryz.zeroValue289
  t64 := Tryz.underlying78
  a64 := Tryz.isAgg78
  z64 := Tryz.sizeOf78
  v64 := Tryz.zeroValue78 }
open Go.Sort Go.RowKit in
theorem Tryz.slices_Sort_int (blk off cap : Nat) (zs : List Int) (w : World) (hH : Holds (Value.int .i64) w blk off zs.toArray) (hblk : blk < w.heap.size) (hsz : zs.length < 4611686018427387904) :
    Calls Tryz.prog 202 #[.slice (some ⟨blk, off, none⟩) zs.length cap] w fun e w' =>
      e = .returned (.tuple #[]) ∧ ∃ n os, w' = grow (putRow (Value.int .i64) (Sort.ahead w n) blk off (zs.mergeSort fun x y => decide (x ≤ y)).toArray) os := AnyM.slices_Sort_int Tryz.laysSlM5_f202 blk off cap zs w hH hblk hsz
open Go.RowKit Go.Sort in
theorem Tryz.slices_Sort_int_none (p : Option Addr) (cap : Nat) (w : World) :
    Calls Tryz.prog 202 #[.slice p 0 cap] w fun e w' => e = .returned (.tuple #[]) ∧ w' = w := AnyM.slices_Sort_int_none Tryz.laysSlM5_f202 p cap w
end Go.Proofs
namespace Go.Proofs.YtpfkfbmghddepaaGreat
open Go.RowKit Go.Sort Go.Lib

/-- a row of ints over which another list is laid, and which is cut -/
theorem own_put {w : World} {base g cap n k : Nat} {os : Array Obj} {cur : Array Value} {ts : List Int} (hbase : base ≤ g) (hb : w.heap[g]? = some (.cells cur 3 (0, 0))) (hl : ts.length ≤ cap) (hcap : cap ≤ maxLen) (hcur : cur.size = cap * 1) (hk : k ≤ ts.length) :
    (grow (putRow (Value.int .i64) (Sort.ahead w n) g 0 ts.toArray) os).ownsRow base 3 1 (.slice (some ⟨g, 0, none⟩) k cap) k (ic (ts.take k)) := by
  refine ⟨by rw [ic_len, List.length_take]; omega, .inr ⟨g, cap, _, rfl, hbase, heap_sortedI _ hb, by omega, hcap, by simp [putCells, hcur], ?_⟩⟩
  have h := take_putCellsI cur ts (by omega)
  have h2 := congrArg (List.take k) h
  rw [List.take_take, Nat.min_eq_left hk] at h2
  rw [Nat.mul_one, h2, ic, List.map_take]
theorem own_put0 {w : World} {base g cap n k : Nat} {cur : Array Value} {ts : List Int} (hbase : base ≤ g) (hb : w.heap[g]? = some (.cells cur 3 (0, 0))) (hl : ts.length ≤ cap) (hcap : cap ≤ maxLen) (hcur : cur.size = cap * 1) (hk : k ≤ ts.length) :
    (putRow (Value.int .i64) (Sort.ahead w n) g 0 ts.toArray).ownsRow base 3 1 (.slice (some ⟨g, 0, none⟩) k cap) k (ic (ts.take k)) := by
  have h := own_put (n := n) (os := #[]) hbase hb hl hcap hcur hk
  rw [grow_empty] at h
  exact h
theorem put_grown {w : World} {g n : Nat} (d : Array Int) : w.grownBy (putRow (Value.int .i64) (Sort.ahead w n) g 0 d) (some g) := by
  have h := grownBy_sortedI (w := w) (g := g) (n := n) (os := #[]) d
  rw [grow_empty] at h
  exact h

set_option maxHeartbeats 1000000 in
theorem sorted_any (ls : List Int) (m : Nat) (a : Option Addr) (c B : Nat) (hm : m ≤ 3000000) (w : World) (hB : B < w.heap.size) (hBc : w.cell? ⟨B, 0, none⟩ = some (.slice a m c)) (h : Is w w.heap.size a m ls) :
    Calls Tryz.prog 155 #[.func (.func 203) #[] #[.pointer (some ⟨B, 0, none⟩)]] w fun e w' => ∃ v, e = .returned v ∧ w'.ownsRow w.heap.size 3 1 v m (ic (ls.mergeSort fun x y => decide (x ≤ y))) ∧ Below w.heap.size w w' := by
  have HA := hideIt (collect_any ls m a c B hm w hB hBc h)
  have HL := hideIt h.1
  clear h hBc
  go_enter Tryz.func155, Tryz.ntmps155
  go_wp2_with (go_at_call 201; refine HA.out.mono ?_; rintro e w1 ⟨v, rfl, ho, hb⟩; refine Hid.out ?_)
  refine (show ∀ {p : Prop}, p → Hid p from fun h => h) ?_
  rcases ho.2 with ⟨rfl, h0⟩ | ⟨g, cap, cur, rfl, hg, hgb, r1, r2, r3, r4⟩
  · have HS := hideIt (Tryz.slices_Sort_int_none none 0 w1)
    have HO : Hid (w1.ownsRow w.heap.size 3 1 (.slice none 0 0) m (ic (ls.mergeSort fun x y => decide (x ≤ y)))) := by
      have e : ls = [] := List.eq_nil_of_length_eq_zero (by rw [HL.out, h0])
      subst e
      rw [List.mergeSort_nil]
      exact ho
    clear ho HA
    go_wp2_with (go_at_call 202; refine HS.out.mono ?_; rintro e w2 ⟨rfl, hw⟩; have hw' := hw.symm; subst hw'; clear hw)
    go_ret
    exact ⟨_, rfl, HO.out, hb⟩
  · have hgl : g < w1.heap.size := (Array.getElem?_eq_some_iff.1 hgb).1
    have HS := Tryz.slices_Sort_int g 0 cap ls w1 (holds_of_blockI hgb (by have := HL.out; rw [this]; rw [Nat.mul_one] at r4; exact r4)) hgl (by have := HL.out; omega)
    rw [HL.out] at HS
    have HS := hideIt HS
    have HO : Hid (∀ n os, (grow (putRow (Value.int .i64) (Sort.ahead w1 n) g 0 (ls.mergeSort fun x y => decide (x ≤ y)).toArray) os).ownsRow w.heap.size 3 1 (.slice (some ⟨g, 0, none⟩) m cap) m (ic (ls.mergeSort fun x y => decide (x ≤ y)))) := fun n os => by
      have := ownsRow_sortedI (n := n) (os := os) (ss := ls) (ts := ls.mergeSort fun x y => decide (x ≤ y)) (by rw [List.length_mergeSort]) hg hgb (by rw [HL.out]; exact r1) r2 r3
      rw [HL.out] at this
      exact this
    have HB : Hid (∀ n os, Below w.heap.size w (grow (putRow (Value.int .i64) (Sort.ahead w1 n) g 0 (ls.mergeSort fun x y => decide (x ≤ y)).toArray) os)) := fun n os => hb.grown (grownBy_sortedI _) hb.size (fun j e => by cases e; exact hg)
    obtain ⟨ss, hss⟩ : ∃ ss, (ls.mergeSort fun x y => decide (x ≤ y)) = ss := ⟨_, rfl⟩
    rw [hss] at HS HO HB
    have HSS := hideIt hss
    clear hss
    clear ho HA hgb r1 r2 r3 r4
    go_wp2_with (go_at_call 202; refine HS.out.mono ?_; rintro e w2 ⟨rfl, n, os, rfl⟩)
    go_ret
    exact ⟨_, rfl, by rw [HSS.out]; exact HO.out n os, HB.out n os⟩

theorem comp_nil (w : World) : Calls Tryz.prog 154 #[.slice none 0 0] w fun e w' => e = .returned (.slice none 0 0) ∧ w' = w := by
  go_enter Tryz.func154, Tryz.ntmps154
  go_wp2
  go_ret
  exact ⟨rfl, rfl⟩
set_option maxHeartbeats 1000000 in
theorem comp_any (ls : List Int) (m : Nat) (v : Value) (B : Nat) (hm : m ≤ 3000000) (w : World) (h : w.ownsRow B 3 1 v m (ic ls)) :
    Calls Tryz.prog 154 #[v] w fun e w' => ∃ v' k, e = .returned v' ∧ w'.ownsRow B 3 1 v' k (ic (compactUpTo ls.toArray ls.toArray.size)) ∧ k ≤ m ∧ (B ≤ w.heap.size → Below B w w') := by
  have hl := h.1
  rw [ic_len, Nat.mul_one] at hl
  rcases h.2 with ⟨rfl, h0⟩ | ⟨g, cap, cur, rfl, hg, hgb, r1, r2, r3, r4⟩
  · refine (comp_nil w).mono ?_
    rintro e w' ⟨rfl, rfl⟩
    have e : ls = [] := List.eq_nil_of_length_eq_zero (by omega)
    subst e
    exact ⟨_, 0, rfl, by simpa [compactUpTo, ic] using World.ownsRow_nil _ _ _ _, by omega, fun _ => Below.refl _ _⟩
  · have hc := Tryz.slices_Compact (Value.int .i64) (fun _ => rfl) (EqlAt.intD _ _ _) (NeqAt.intD _ _ _) (0 : Int) Tryz.zeroValue3 g 0 cap ls.toArray w (holds_of_blockI hgb (by rw [hl]; rw [Nat.mul_one] at r4; exact r4)) (by simp; omega) (by simp; omega)
    rw [show ls.toArray.size = m by simpa using hl] at hc ⊢
    refine hc.mono ?_
    rintro e w' ⟨rfl, q, rfl⟩
    have hle : (compactUpTo ls.toArray m).length ≤ m := by
      have := List.length_filter_le (keeps ls.toArray) (List.range m)
      simpa [compactUpTo] using this
    refine ⟨_, _, rfl, ?_, hle, fun hB => (Below.refl _ w).grown (put_grown _) hB (fun j e => by cases e; exact hg)⟩
    have := own_put0 (n := q) (k := (compactUpTo ls.toArray m).length) (ts := compactUpTo ls.toArray m ++ List.replicate (m - (compactUpTo ls.toArray m).length) 0) hg hgb (by simp; omega) r2 r3 (by simp)
    rw [List.take_left' rfl] at this
    exact this

theorem by_gives (x : Int) (W : World) : FnGives Tryz.prog 157 #[] #[.int .i64 x] (.bool (!vB x)) W := by
  show Calls Tryz.prog 157 #[.int .i64 x] W _
  cases h : vB x with
  | true => exact (beyond_no x h W).mono fun e w' ⟨h1, h2⟩ => ⟨h1, 0, h2⟩
  | false => exact (beyond_yes x h W).mono fun e w' ⟨h1, h2⟩ => ⟨h1, 0, h2⟩
theorem del_nil (w : World) : Calls Tryz.prog 153 #[.slice none 0 0, .func (.func 157) #[] #[]] w fun e w' => e = .returned (.slice none 0 0) ∧ w' = w := by
  have H := hideIt (Tryz.slices_IndexFunc_empty (α := Int) none 0 (.func (.func 157) #[] #[]) w)
  go_enter Tryz.func153, Tryz.ntmps153
  go_wp2_with (go_at_call 200; refine H.out.mono ?_; rintro e w' ⟨rfl, hw⟩; have hw' := hw.symm; subst hw'; clear hw)
  go_ret
  exact ⟨rfl, rfl⟩
set_option maxHeartbeats 1000000 in
theorem del_any (ls : List Int) (m : Nat) (v : Value) (B : Nat) (hm : m ≤ 3000000) (w : World) (h : w.ownsRow B 3 1 v m (ic ls)) :
    Calls Tryz.prog 153 #[v, .func (.func 157) #[] #[]] w fun e w' => ∃ v' k, e = .returned v' ∧ w'.ownsRow B 3 1 v' k (ic (ls.filter fun x => !(!vB x))) ∧ k ≤ m ∧ (B ≤ w.heap.size → Below B w w') := by
  have hl := h.1
  rw [ic_len, Nat.mul_one] at hl
  rcases h.2 with ⟨rfl, h0⟩ | ⟨g, cap, cur, rfl, hg, hgb, r1, r2, r3, r4⟩
  · refine (del_nil w).mono ?_
    rintro e w' ⟨rfl, rfl⟩
    have e : ls = [] := List.eq_nil_of_length_eq_zero (by omega)
    subst e
    exact ⟨_, 0, rfl, by simpa [ic] using World.ownsRow_nil _ _ _ _, by omega, fun _ => Below.refl _ _⟩
  · have hc := Tryz.slices_DeleteFunc (Value.int .i64) (fun _ => rfl) (fun x => !vB x) 157 #[] (enters_of Tryz.func157 (by kernel_rfl) rfl) (0 : Int) Tryz.zeroValue3 g 0 cap ls.toArray w
      (fun W x _ => by_gives x W) (fun n os dk x _ => by_gives x _) (holds_of_blockI hgb (by rw [hl]; rw [Nat.mul_one] at r4; exact r4)) (by simp; omega) (by simp; omega)
    rw [show ls.toArray.size = m by simpa using hl] at hc
    refine hc.mono ?_
    rintro e w' ⟨rfl, q, rfl⟩
    have hle : (ls.filter fun x => !(!vB x)).length ≤ m := by
      have := List.length_filter_le (fun x => !(!vB x)) ls
      omega
    refine ⟨_, _, rfl, ?_, hle, fun hB => (Below.refl _ w).grown (put_grown _) hB (fun j e => by cases e; exact hg)⟩
    have := own_put0 (n := q) (k := (ls.filter fun x => !(!vB x)).length) (ts := (ls.filter fun x => !(!vB x)) ++ List.replicate (m - (ls.filter fun x => !(!vB x)).length) 0) hg hgb (by simp; simp at hle; omega) r2 r3 (by simp)
    rw [List.take_left' rfl] at this
    exact this

set_option maxHeartbeats 2000000 in
theorem iVertsOf_any (t : List Int) (n : Nat) (a : Option Addr) (c : Nat) (hn : n ≤ 3000000) (w : World) (h : Is w w.heap.size a n t) :
    Calls Tryz.prog 94 #[.slice a n c] w fun e w' => ∃ a' m c', e = .returned (.slice a' m c') ∧ w'.ownsRow w.heap.size 3 1 (.slice a' m c') m (ic (vsL t)) ∧ Below w.heap.size w w' := by
  have b0 : Below w.heap.size w (w.alloc (.cells #[.slice a n c] 44)) := (Below.refl _ w).alloc (Nat.le_refl _) _
  have HV := hideIt (valuesI_any a n c w)
  have HS := hideIt (sorted_any t n a c w.heap.size hn (w.alloc (.cells #[.slice a n c] 44)) (by simp) (by simp) (h.up b0))
  have HB0 := hideIt b0
  have HE := hideIt (vsI_eq t)
  unfold vsI at HE
  clear h b0
  generalize (t.mergeSort fun x y => decide (x ≤ y)) = ss at HS HE
  go_enter Tryz.func94, Tryz.ntmps94
  go_wp2_with (first | (go_at_call 156; refine HV.out.mono ?_; rintro e w1 ⟨rfl, rfl⟩) | (go_at_call 155; refine HS.out.mono ?_; rintro e w2 ⟨v, rfl, ho, hb⟩; refine Hid.out ?_))
  refine (show ∀ {p : Prop}, p → Hid p from fun h => h) ?_
  have HC := hideIt (comp_any ss n v w.heap.size hn w2 (own_mono ho (by simp)))
  have B2 := HB0.out.trans (hb.mono (by simp))
  clear HV HS ho hb
  go_wp2_with (go_at_call 154; refine HC.out.mono ?_; rintro e w3 ⟨v3, k3, rfl, ho3, hk3, hb3⟩; refine Hid.out ?_)
  refine (show ∀ {p : Prop}, p → Hid p from fun h => h) ?_
  have HD := hideIt (del_any _ k3 v3 w.heap.size (by omega) w3 ho3)
  have B3 := B2.trans (hb3 B2.size)
  rw [HE.out] at HD
  clear HC ho3 hb3
  go_wp2_with (go_at_call 153; refine HD.out.mono ?_; rintro e w4 ⟨v4, k4, rfl, ho4, hk4, hb4⟩)
  have B4 := B3.trans (hb4 B3.size)
  obtain ⟨a4, c4, rfl⟩ := own_form ho4
  go_ret
  exact ⟨a4, k4, c4, rfl, ho4, B4⟩
end Go.Proofs.YtpfkfbmghddepaaGreat
namespace Go.Proofs.YtpfkfbmghddepaaGreat
open Go.RowKit

/-- a row: its block, its room, its numbers -/
structure Rw where
  g : Nat
  cp : Nat
  t : List Int
def Rw.hdr (r : Rw) : Value := .slice (some ⟨r.g, 0, none⟩) r.t.length r.cp
def rts (R : List Rw) : List (List Int) := R.map Rw.t
def rhs (R : List Rw) : List Value := R.map Rw.hdr
theorem rts_len (R : List Rw) : (rts R).length = R.length := by simp [rts]
theorem rhs_len (R : List Rw) : (rhs R).length = R.length := by simp [rhs]
theorem rts_at {R : List Rw} {j : Nat} {r : Rw} (h : R[j]? = some r) : (rts R)[j]? = some r.t := by simp [rts, h]
theorem rhs_at {R : List Rw} {j : Nat} {r : Rw} (h : R[j]? = some r) : (rhs R)[j]? = some r.hdr := by simp [rhs, h]
theorem rhs_snoc (R : List Rw) (r : Rw) : rhs (R ++ [r]) = rhs R ++ [r.hdr] := by simp [rhs]
theorem rts_snoc (R : List Rw) (r : Rw) : rts (R ++ [r]) = rts R ++ [r.t] := by simp [rts]

/-- a row that is ours -/
abbrev RwB (u : World) (r : Rw) : Prop := RBox u r.g (r.g + 1) (some ⟨r.g, 0, none⟩) r.t.length r.cp r.t
theorem RwB.of_own {u : World} {B g m c : Nat} {t : List Int} (h : u.ownsRow B 3 1 (.slice (some ⟨g, 0, none⟩) m c) m (ic t)) : RwB u ⟨g, c, t⟩ := by
  have hl := h.1
  rw [ic_len] at hl
  have hm : m = t.length := by omega
  subst hm
  have hlt := h.lt g rfl
  refine ⟨⟨h.1, ?_⟩, fun x hx => by simp [Value.ownBlock] at hx; show x < g + 1; omega, by show g + 1 ≤ _; omega⟩
  rcases h.2 with ⟨hv, _⟩ | ⟨g2, cap, cur, hv, hb, hrest⟩
  · simp at hv
  · simp at hv
    obtain ⟨rfl, rfl⟩ := hv
    exact .inr ⟨g, c, cur, rfl, Nat.le_refl _, hrest⟩
theorem RwB.cap {u : World} {r : Rw} (h : RwB u r) : r.t.length ≤ r.cp := by
  rcases h.own.2 with ⟨hv, _⟩ | ⟨g2, cap, cur, hv, hb, hg, hnc, _⟩
  · simp at hv
  · simp only [Value.slice.injEq, Option.some.injEq, Addr.mk.injEq, and_true, true_and] at hv
    obtain ⟨rfl, rfl⟩ := hv
    exact hnc
theorem RwB.lt {u : World} {r : Rw} (h : RwB u r) : r.g < u.heap.size := (h.own.lt r.g rfl).2
theorem RwB.blk {u : World} {r : Rw} (h : RwB u r) : ∃ cur, u.heap[r.g]? = some (.cells cur 3 (0, 0)) := by
  rcases h.own.2 with ⟨hv, _⟩ | ⟨g2, cap, cur, hv, hb, hg, hnc, _⟩
  · simp at hv
  · simp only [Value.slice.injEq, Option.some.injEq, Addr.mk.injEq, and_true, true_and] at hv
    obtain ⟨rfl, rfl⟩ := hv
    exact ⟨cur, hg⟩
theorem RwB.grown {u v : World} {r : Rw} {row : Option Nat} (h : RwB u r) (hg : u.grownBy v row) (hr : row ≠ some r.g) : RwB v r :=
  ⟨h.own.kept hg (.inr (by simp [Value.ownBlock]; exact fun e => hr e.symm)), h.row, Nat.le_trans h.there hg.size⟩

/-- rows that are ours, in blocks lo .. hi, each in a block of its own -/
structure FB (u : World) (lo hi : Nat) (a : Option Addr) (n c : Nat) (R : List Rw) : Prop where
  len : R.length = n
  own : u.ownsRow lo 44 1 (.slice a n c) n (rhs R)
  row : ∀ g, (Value.slice a n c).ownBlock = some g → g < hi
  there : hi ≤ u.heap.size
  ins : ∀ r ∈ R, RwB u r ∧ lo ≤ r.g ∧ r.g < hi
  nod : R.Pairwise fun r s => r.g ≠ s.g

theorem own_blk {u : World} {lo e s g n c : Nat} {xs : List Value} (h : u.ownsRow lo e s (.slice (some ⟨g, 0, none⟩) n c) n xs) : ∃ cur, u.heap[g]? = some (.cells cur e (0, 0)) := by
  rcases h.2 with ⟨hv, _⟩ | ⟨g2, cap, cur, hv, hb, hg, hnc, _⟩
  · simp at hv
  · simp only [Value.slice.injEq, Option.some.injEq, Addr.mk.injEq, and_true, true_and] at hv
    obtain ⟨rfl, rfl⟩ := hv
    exact ⟨cur, hg⟩
/-- a row of rows is no row of numbers -/
theorem own_ne {u : World} {lo s g n c : Nat} {xs : List Value} {r : Rw} (h : u.ownsRow lo 44 s (.slice (some ⟨g, 0, none⟩) n c) n xs) (hr : RwB u r) : g ≠ r.g := by
  obtain ⟨c1, h1⟩ := own_blk h
  obtain ⟨c2, h2⟩ := hr.blk
  intro e
  rw [e, h2] at h1
  simp at h1
theorem own_ne' {u : World} {lo s n : Nat} {v : Value} {xs : List Value} {r : Rw} (h : u.ownsRow lo 44 s v n xs) (hr : RwB u r) : v.ownBlock ≠ some r.g := by
  rcases h.2 with ⟨rfl, _⟩ | ⟨g, cap, cur, rfl, _⟩
  · simp [Value.ownBlock]
  · intro e
    simp [Value.ownBlock] at e
    exact own_ne h hr e
theorem own_rng {u v : World} {lo e s l2 h2 n : Nat} {x : Value} {xs : List Value} (h : u.ownsRow lo e s x n xs) (hr : Rng l2 h2 u v) (ho : ∀ g, x.ownBlock = some g → g < l2 ∨ h2 ≤ g) : v.ownsRow lo e s x n xs := by
  refine ⟨h.1, ?_⟩
  rcases h.2 with h3 | ⟨g, cap, cur, hv, hg, hcur, hrest⟩
  · exact .inl h3
  · have hgl := h.lt g (by rw [hv]; rfl)
    refine .inr ⟨g, cap, cur, hv, hg, ?_, hrest⟩
    rw [hr.block g (by omega) (ho g (by rw [hv]; rfl))]
    exact hcur
theorem FB.rng {u v : World} {lo hi l2 h2 : Nat} {a : Option Addr} {n c : Nat} {R : List Rw} (h : FB u lo hi a n c R) (hr : Rng l2 h2 u v) (ho : hi ≤ l2 ∨ h2 ≤ lo) : FB v lo hi a n c R := by
  refine ⟨h.len, own_rng h.own hr (fun g hg => by have := h.row g hg; have := (h.own.lt g hg).1; omega), h.row, Nat.le_trans h.there hr.size, fun r hr2 => ?_, h.nod⟩
  have hb := h.ins r hr2
  exact ⟨hb.1.rng hr (by omega), hb.2⟩
theorem FB.up {u v : World} {lo hi : Nat} {a : Option Addr} {n c : Nat} {R : List Rw} (h : FB u lo hi a n c R) (hb : Below u.heap.size u v) : FB v lo hi a n c R :=
  h.rng (l2 := hi) (h2 := hi) (Rng.of_below hb) (.inl (Nat.le_refl _))
theorem FB.hi {u : World} {lo hi hi' : Nat} {a : Option Addr} {n c : Nat} {R : List Rw} (h : FB u lo hi a n c R) (h1 : hi ≤ hi') (h2 : hi' ≤ u.heap.size) : FB u lo hi' a n c R :=
  ⟨h.len, h.own, fun g hg => Nat.lt_of_lt_of_le (h.row g hg) h1, h2, fun r hr => ⟨(h.ins r hr).1, (h.ins r hr).2.1, Nat.lt_of_lt_of_le (h.ins r hr).2.2 h1⟩, h.nod⟩
theorem FB.lo {u : World} {lo lo' hi : Nat} {a : Option Addr} {n c : Nat} {R : List Rw} (h : FB u lo hi a n c R) (h1 : lo' ≤ lo) : FB u lo' hi a n c R :=
  ⟨h.len, own_mono h.own h1, h.row, h.there, fun r hr => ⟨(h.ins r hr).1, Nat.le_trans h1 (h.ins r hr).2.1, (h.ins r hr).2.2⟩, h.nod⟩
theorem FB.ts {u : World} {lo hi : Nat} {a : Option Addr} {n c : Nat} {R : List Rw} (h : FB u lo hi a n c R) : Ts u u.heap.size a n (rts R) := by
  refine ⟨by rw [rts_len]; exact h.len, ?_⟩
  rcases h.own.2 with ⟨_, h0⟩ | ⟨g, cap, cur, hv, hg, hcur, hrest⟩
  · exact .inl h0
  · simp at hv
    obtain ⟨rfl, rfl⟩ := hv
    refine .inr ⟨g, 0, rfl, (h.own.lt g rfl).2, fun j t ht => ?_⟩
    have hj : j < R.length := by rw [← rts_len]; exact (List.getElem?_eq_some_iff.1 ht).1
    have hr : R[j]? = some R[j] := List.getElem?_eq_getElem hj
    have e := rts_at hr
    rw [ht] at e
    obtain rfl := Option.some.inj e
    have hi2 := h.ins _ (List.mem_of_getElem? hr)
    refine ⟨some ⟨R[j].g, 0, none⟩, R[j].cp, ?_, hi2.1.is, hi2.1.cap⟩
    rw [Nat.zero_add, h.own.cellAt j (by have := h.len; omega)]
    exact rhs_at hr
/-- one row turned -/
theorem FB.turn {u v : World} {lo hi : Nat} {a : Option Addr} {n c : Nat} {P S : List Rw} {r : Rw} (h : FB u lo hi a n c (P ++ r :: S)) {s : List Int} (hl : s.length = r.t.length)
    (hr : Rng r.g (r.g + 1) u v) (hs : RBox v r.g (r.g + 1) (some ⟨r.g, 0, none⟩) r.t.length r.cp s) : FB v lo hi a n c (P ++ ⟨r.g, r.cp, s⟩ :: S) := by
  have hn := List.pairwise_append.1 h.nod
  have hn2 := List.pairwise_cons.1 hn.2.1
  have hri := h.ins r (by simp)
  refine ⟨by have := h.len; simp at this ⊢; omega, ?_, h.row, Nat.le_trans h.there hr.size, fun x hx => ?_, ?_⟩
  · have e : rhs (P ++ ⟨r.g, r.cp, s⟩ :: S) = rhs (P ++ r :: S) := by simp [rhs, Rw.hdr, hl]
    rw [e]
    exact own_rng h.own hr (fun g hg => by have := own_ne' h.own hri.1; rw [hg] at this; simp at this; omega)
  · rcases List.mem_append.1 hx with hx | hx
    · have hne := hn.2.2 x hx r (by simp)
      have hi2 := h.ins x (by simp [hx])
      exact ⟨hi2.1.rng hr (by omega), hi2.2⟩
    · rcases List.mem_cons.1 hx with rfl | hx
      · refine ⟨?_, hri.2⟩
        show RBox v r.g (r.g + 1) _ s.length r.cp s
        rw [hl]
        exact hs
      · have hne := hn2.1 x hx
        have hi2 := h.ins x (by simp [hx])
        exact ⟨hi2.1.rng hr (by omega), hi2.2⟩
  · rw [List.pairwise_append, List.pairwise_cons]
    refine ⟨hn.1, ⟨fun x hx => hn2.1 x hx, hn2.2⟩, fun x hx y hy => ?_⟩
    rcases List.mem_cons.1 hy with rfl | hy
    · exact hn.2.2 x hx r (by simp)
    · exact hn.2.2 x hx y (by simp [hy])
/-- one row more behind them -/
theorem FB.app {u u' : World} {lo : Nat} {a : Option Addr} {n c : Nat} {R : List Rw} (h : FB u lo u.heap.size a n c R) {r : Rw} (hr : RwB u r) (hl : lo ≤ r.g) (hne : ∀ x ∈ R, x.g ≠ r.g) {o : Obj} {v : Value}
    (ho : u'.ownsRow lo 44 1 v (n + 1) (rhs R ++ [r.hdr])) (hg : (u.alloc o).grownBy u' (Value.slice a n c).ownBlock) : ∃ a' c', v = .slice a' (n + 1) c' ∧ FB u' lo u'.heap.size a' (n + 1) c' (R ++ [r]) := by
  obtain ⟨a', c', rfl⟩ := own_form ho
  have hsz := hg.size
  have hkeep : ∀ x, RwB u x → RwB u' x := fun x hx => by
    have hx2 : RwB (u.alloc o) x := hx.rng (l2 := x.g + 1) (h2 := x.g + 1) (Rng.of_below ((Below.refl _ _).alloc (Nat.le_refl _) _)) (.inl (Nat.le_refl _))
    exact hx2.grown hg (own_ne' h.own hx)
  refine ⟨a', c', rfl, by simp [h.len], by rw [rhs_snoc]; exact ho, fun g hg2 => (ho.lt g hg2).2, Nat.le_refl _, fun x hx => ?_, ?_⟩
  · rcases List.mem_append.1 hx with hx | hx
    · have := h.ins x hx
      have h2 := hkeep x this.1
      exact ⟨h2, this.2.1, h2.lt⟩
    · simp at hx
      subst hx
      have h2 := hkeep x hr
      exact ⟨h2, hl, h2.lt⟩
  · rw [List.pairwise_append]
    refine ⟨h.nod, by simp, fun x hx y hy => ?_⟩
    simp at hy
    subst hy
    exact hne x hx
theorem FB.setLow {u : World} {lo hi : Nat} {a : Option Addr} {n c : Nat} {R : List Rw} (h : FB u lo hi a n c R) {x : Nat} (hx : x < lo) (j : Nat) (v : Value) : FB (u.setCell ⟨x, j, none⟩ v) lo hi a n c R :=
  h.rng (l2 := x) (h2 := x + 1) ⟨rfl, rfl, rfl, by simp [World.setCell], fun k _ hk => heap_setCell_other u ⟨x, j, none⟩ k v (by show k ≠ x; omega)⟩ (.inr hx)
theorem FB.nil (u : World) (lo : Nat) : FB u lo u.heap.size none 0 0 [] := ⟨rfl, World.ownsRow_nil _ _ _ _, fun g hg => by simp [Value.ownBlock] at hg, Nat.le_refl _, by simp, List.Pairwise.nil⟩
theorem FB.start (wb : World) : FB (wb.alloc (.cells #[] 44)) wb.heap.size (wb.alloc (.cells #[] 44)).heap.size (some ⟨wb.heap.size, 0, none⟩) 0 0 [] := by
  have h0 := World.ownsRow_lit (base := wb.heap.size) (e := 44) (size := 1) wb #[] 0 (Nat.le_refl _) (by unfold maxLen; omega) (by simp)
  exact ⟨rfl, by simpa [rhs] using h0, fun g hg => (h0.lt g hg).2, Nat.le_refl _, by simp, List.Pairwise.nil⟩
theorem FB.keep {u v : World} {lo : Nat} {a : Option Addr} {n c : Nat} {R : List Rw} (h : FB u lo u.heap.size a n c R) (hb : Below u.heap.size u v) : FB v lo v.heap.size a n c R :=
  (h.up hb).hi hb.size (Nat.le_refl _)
end Go.Proofs.YtpfkfbmghddepaaGreat
