/- The library's Min over ints; the program's compareTrees and treesAscend. The library's sorting by a comparison, at this program, by the shelf's own laying in plain words. slices.SortFunc of a list of tours by compareTrees: the same rows, by their least vertices. All vertices of right tours, sorted: pure. The program's EdgeOk. The program's shareOut and ForestOk. -/
import Derived.Test.YtcpffonenhhfoaaKRer
import Derived.Test.YtcpffonenhhfoaaKCmp6
import Derived.Shelf.SlSortCmp.NoneTotal
import Derived.Test.YtcpffonenhhfoaaProg
import Derived.Test.YtcpffonenhhfoaaKHd7
import Derived.Test.YtcpffonenhhfoaaKTourE
import Derived.Test.YtcpffonenhhfoaaKSVerts
namespace Go.Proofs.Ytcpffonenhhfoaa
open Go.RowKit

set_option maxHeartbeats 1000000 in
theorem minI_any (t : List Int) (n : Nat) (a : Option Addr) (c : Nat) (hn : n ≤ 3000000) (h0 : 0 < n) (w : World) (h : Is w w.heap.size a n t) :
    Calls Try.prog 99 #[.slice a n c] w fun e w' => ∃ x, e = .returned (.int .i64 x) ∧ (x ∈ t ∧ ∀ y ∈ t, x ≤ y) ∧ w' = w := by
  obtain ⟨hlen, hrow⟩ := h
  rcases hrow with hz | ⟨b, off, rfl, hbl, hc⟩
  · omega
  · obtain ⟨f0, hf0⟩ : ∃ f, t[0]? = some f := ⟨t[0]'(by omega), List.getElem?_eq_getElem (by omega)⟩
    have d0 : decide ((n : Int) < 1) = false := decide_eq_false (by omega)
    have e0 := hc 0 f0 hf0
    rw [Nat.add_zero] at e0
    have q1 : (0 : Int) < (n : Int) := by omega
    have HC := hideIt hc
    have HS : Hid (f0 ∈ t ∧ ∀ (j : Nat) (y : Int), j < 1 → t[j]? = some y → f0 ≤ y) := ⟨List.mem_of_getElem? hf0, fun j y hj hy => by
      obtain rfl : j = 0 := by omega
      rw [hf0] at hy
      cases hy
      exact Int.le_refl _⟩
    clear hc hf0
    go_enter Try.func99, Try.ntmps99
    go_wp2
    go_loopw [3, 4] (fun m i wr => ∃ (k : Nat) (x : Int), 1 ≤ k ∧ k ≤ n ∧ i = .int .i64 (k : Int) ∧ m = .int .i64 x ∧ Hid (x ∈ t ∧ ∀ (j : Nat) (y : Int), j < k → t[j]? = some y → x ≤ y) ∧ wr = w) (fun _ i _ => n - (intOf i).toNat)
    case atStart => exact ⟨1, f0, by omega, by omega, rfl, rfl, HS, rfl⟩
    case round =>
      obtain ⟨k, x, hk1, hk, rfl, rfl, HX, hw⟩ := hrel
      have hw' := hw.symm
      subst hw'
      clear hw HS e0
      by_cases hlt : k < n
      · obtain ⟨f, hf⟩ : ∃ f, t[k]? = some f := ⟨t[k]'(by omega), List.getElem?_eq_getElem (by omega)⟩
        have e1 := HC.out k f hf
        have b1 : (0 : Int) ≤ (k : Int) := by omega
        have b2 : (k : Int) < (n : Int) := by omega
        have HX2 : Hid (min x f ∈ t ∧ ∀ (j : Nat) (y : Int), j < k + 1 → t[j]? = some y → min x f ≤ y) := by
          obtain ⟨p1, p2⟩ := HX.out
          refine ⟨?_, fun j y hj hy => ?_⟩
          · by_cases hxf : x ≤ f
            · rw [Int.min_eq_left hxf]; exact p1
            · rw [Int.min_eq_right (by omega)]; exact List.mem_of_getElem? hf
          · by_cases hjk : j = k
            · rw [hjk, hf] at hy
              cases hy
              omega
            · have := p2 j y (by omega) hy
              omega
        clear hf HX
        go_wp2
        refine ⟨⟨k + 1, min x f, by omega, by omega, by go_num, ?_, HX2, by first | trivial | rfl⟩, by simp [intOf]; omega⟩
        first | rfl | (congr 1; split <;> omega)
      · obtain rfl : k = n := by omega
        have HX2 : Hid (x ∈ t ∧ ∀ y ∈ t, x ≤ y) := ⟨HX.out.1, fun y hy => by
          obtain ⟨j, hj⟩ := List.mem_iff_getElem?.1 hy
          exact HX.out.2 j y (by have := (List.getElem?_eq_some_iff.1 hj).1; omega) hj⟩
        clear HX
        go_wp2
        go_ret
        exact ⟨x, rfl, HX2.out, rfl⟩

theorem mn_le {t : List Int} (hB : tB t = true) {y : Int} (hy : y ∈ t) : mnV t ≤ y := by
  have hp := vs_pos hB
  have hx : (vsL t)[0]? = some ((vsL t)[0]'hp) := List.getElem?_eq_getElem hp
  rw [mn_first hx]
  obtain ⟨p, hp2⟩ := List.mem_iff_getElem?.1 ((vs_mem_of hB).2 hy)
  obtain ⟨p0, p1⟩ := List.getElem?_eq_some_iff.1 hp2
  by_cases e : p = 0
  · subst e
    rw [← p1]
    exact Int.le_refl _
  · have := List.pairwise_iff_getElem.1 (vsK_asc t 12) 0 p hp p0 (by omega)
    rw [show (vsK t 12)[p]'p0 = y from p1] at this
    exact Int.le_of_lt this
theorem mn_is {t : List Int} (hB : tB t = true) {x : Int} (h : x ∈ t ∧ ∀ y ∈ t, x ≤ y) : x = mnV t := Int.le_antisymm (h.2 _ (mn_mem hB)) (mn_le hB h.1)

theorem compareTrees_any (s t : List Int) (hs : tB s = true) (ht : tB t = true) (a a' : Option Addr) (c c' : Nat) (w : World) (h : Is w w.heap.size a s.length s) (h' : Is w w.heap.size a' t.length t) :
    Calls Try.prog 72 #[.slice a s.length c, .slice a' t.length c'] w fun e w' => e = .returned (.int .i64 (cmpI (mnV s) (mnV t))) ∧ w' = w := by
  have l1 := tB_len hs
  have l2 := tB_len ht
  have H1 := hideIt ((minI_any s s.length a c (by omega) (tB_pos hs) w h).mono fun e v ⟨x, he, hx, hv⟩ => (show e = Ending.returned (.int .i64 (mnV s)) ∧ v = w from ⟨by rw [he, mn_is hs hx], hv⟩))
  have H2 := hideIt ((minI_any t t.length a' c' (by omega) (tB_pos ht) w h').mono fun e v ⟨x, he, hx, hv⟩ => (show e = Ending.returned (.int .i64 (mnV t)) ∧ v = w from ⟨by rw [he, mn_is ht hx], hv⟩))
  have HC := hideIt (cmpCompare_any (mnV s) (mnV t) w)
  clear h h'
  go_enter Try.func72, Try.ntmps72
  go_wp2_with (first | (go_at_call 99; refine H1.out.mono ?_; rintro e w1 ⟨rfl, hw⟩; have hw' := hw.symm; subst hw'; clear hw H1) | (go_at_call 99; refine H2.out.mono ?_; rintro e w1 ⟨rfl, hw⟩; have hw' := hw.symm; subst hw'; clear hw H2) | (go_at_call 64; refine HC.out.mono ?_; rintro e w1 ⟨rfl, hw⟩; have hw' := hw.symm; subst hw'; clear hw))
  go_ret
  exact ⟨rfl, rfl⟩

/-- the tour at i is right, and its least vertex is above that of the one before it -/
def AsAt (ts : List (List Int)) (i : Nat) : Prop := ∀ t, ts[i]? = some t → tB t = true ∧ ∀ j s, j + 1 = i → ts[j]? = some s → mnV s < mnV t
def asP (ts : List (List Int)) : Prop := ∀ i, AsAt ts i
theorem cmpI_ge (x y : Int) : decide (0 ≤ cmpI x y) = !decide (x < y) := by
  by_cases h : x < y
  · have := (cmpI_neg x y).2 h
    rw [decide_eq_true h]
    exact decide_eq_false (by omega)
  · have := mt (cmpI_neg x y).1 h
    rw [decide_eq_false h]
    exact decide_eq_true (by omega)

set_option maxRecDepth 100000 in
set_option maxHeartbeats 4000000 in
theorem treesAscend_any (ts : List (List Int)) (n : Nat) (a : Option Addr) (c : Nat) (hn : n ≤ 3000000) (hm : ∀ t ∈ ts, t.length ≤ 3000000) (w : World) (h : Ts w w.heap.size a n ts) :
    Calls Try.prog 44 #[.slice a n c] w fun e w' => ∃ b, e = .returned (.bool b) ∧ (b = true ↔ asP ts) ∧ Below w.heap.size w w' := by
  have hlen := h.1
  have HA := hideIt h
  clear h
  go_enter Try.func44, Try.ntmps44
  go_wp2
  go_loopw [6] (fun i wr => ∃ k : Nat, k ≤ n ∧ i = .int .i64 (k : Int) ∧ Hid (∀ j, j < k → AsAt ts j) ∧ Good w wr) (fun i _ => n - (intOf i).toNat)
  case atStart => exact ⟨0, by omega, rfl, fun j hj => by omega, Good.refl _⟩
  case round =>
    obtain ⟨k, hk, rfl, HK, hg⟩ := hrel
    by_cases hlt : k < n
    · rcases (HA.out.up hg).2 with hz | ⟨b, off, rfl, hbl, hc⟩
      · omega
      · obtain ⟨t, ht⟩ : ∃ t, ts[k]? = some t := ⟨ts[k]'(by omega), List.getElem?_eq_getElem (by omega)⟩
        obtain ⟨x, cx, e0, i0, _⟩ := hc k t ht
        have b1 : (0 : Int) ≤ (k : Int) := by omega
        have b2 : (k : Int) < (n : Int) := by omega
        have HG := hideIt (fun u (hu : Good wr u) => hg.up hu)
        have hbd := (Good.refl wr).drew
        have HE := hideIt (fun W (hW : Good wr W) => (iTourOk_any t t.length x cx (hm t (List.mem_of_getElem? ht)) W (i0.up hW)).mono fun e v ⟨he, hb⟩ => (show e = Ending.returned (.bool (tB t)) ∧ Good wr v from ⟨he, hW.up hb⟩))
        cases hB : tB t with
        | false =>
          rw [hB] at HE
          have HN : Hid (¬ asP ts) := fun hp => by have := (hp k t ht).1; rw [hB] at this; cases this
          clear hc ht i0 hB HK
          go_wp2
          refine wp_region_any (by kernel_rfl) ?_
          change wpAny _ _ _ _ _ _ _ (World.drew _)
          refine takeOp (i := 0) (v := ?_) rfl (by kernel_rfl) (by kernel_rfl) (by kernel_rfl) (fun _ _ _ h => h) (by kernel_rfl) ?_ ?_
          rotate_left
          · intro w; go_simp; try with_reducible rfl
          refine wpAny_ready (rs := [1]) (by kernel_rfl) (by simp) ?_
          refine AllReady.cons rfl (fun K hK => ?_) AllReady.nil
          go_simp
          refine hK _ _ ?_
          clear hK K
          refine wpAny_ready (rs := [2]) (by kernel_rfl) (by simp) ?_
          refine AllReady.cons rfl (fun K hK => ?_) AllReady.nil
          go_simp
          refine hK _ _ ?_
          clear hK K
          refine wpAny_ready (rs := [3]) (by kernel_rfl) (by simp) ?_
          refine AllReady.cons rfl (fun K hK => ?_) AllReady.nil
          go_simp
          refine hK _ _ ?_
          clear hK K
          refine wpAny_ready (rs := [4]) (by kernel_rfl) (by simp) ?_
          refine AllReady.cons rfl (fun K hK => ?_) AllReady.nil
          go_wp2_with (go_at_call 71; refine (HE.out _ hbd).mono ?_; rintro e w1 ⟨rfl, hg1⟩; refine Hid.out ?_)
          refine (show ∀ {p : Prop}, p → Hid p from fun h => h) ?_
          try refine hK _ _ ?_
          clear hK K
          refine wpAny_ready (rs := [5]) (by kernel_rfl) (by simp) ?_
          refine AllReady.cons rfl (fun K hK => ?_) AllReady.nil
          go_simp
          refine hK _ _ ?_
          clear hK K
          refine wpAny_ready (rs := [6]) (by kernel_rfl) (by simp) ?_
          refine AllReady.cons rfl (fun K hK => ?_) AllReady.nil
          go_simp
          refine hK _ _ ?_
          clear hK K
          refine skipOp (i := 7) rfl (by kernel_rfl) (by kernel_rfl) (by kernel_rfl) (fun _ _ _ h => h) (by kernel_rfl) ?_
          refine skipOp (i := 8) rfl (by kernel_rfl) (by kernel_rfl) (by kernel_rfl) (fun _ _ _ h => h) (by kernel_rfl) ?_
          refine skipOp (i := 9) rfl (by kernel_rfl) (by kernel_rfl) (by kernel_rfl) (fun _ _ _ h => h) (by kernel_rfl) ?_
          refine skipOp (i := 10) rfl (by kernel_rfl) (by kernel_rfl) (by kernel_rfl) (fun _ _ _ h => h) (by kernel_rfl) ?_
          refine skipOp (i := 11) rfl (by kernel_rfl) (by kernel_rfl) (by kernel_rfl) (fun _ _ _ h => h) (by kernel_rfl) ?_
          refine skipOp (i := 12) rfl (by kernel_rfl) (by kernel_rfl) (by kernel_rfl) (fun _ _ _ h => h) (by kernel_rfl) ?_
          refine skipOp (i := 13) rfl (by kernel_rfl) (by kernel_rfl) (by kernel_rfl) (fun _ _ _ h => h) (by kernel_rfl) ?_
          refine skipOp (i := 14) rfl (by kernel_rfl) (by kernel_rfl) (by kernel_rfl) (fun _ _ _ h => h) (by kernel_rfl) ?_
          refine skipOp (i := 15) rfl (by kernel_rfl) (by kernel_rfl) (by kernel_rfl) (fun _ _ _ h => h) (by kernel_rfl) ?_
          refine skipOp (i := 16) rfl (by kernel_rfl) (by kernel_rfl) (by kernel_rfl) (fun _ _ _ h => h) (by kernel_rfl) ?_
          refine skipOp (i := 17) rfl (by kernel_rfl) (by kernel_rfl) (by kernel_rfl) (fun _ _ _ h => h) (by kernel_rfl) ?_
          refine skipOp (i := 18) rfl (by kernel_rfl) (by kernel_rfl) (by kernel_rfl) (fun _ _ _ h => h) (by kernel_rfl) ?_
          refine skipOp (i := 19) rfl (by kernel_rfl) (by kernel_rfl) (by kernel_rfl) (fun _ _ _ h => h) (by kernel_rfl) ?_
          refine skipOp (i := 20) rfl (by kernel_rfl) (by kernel_rfl) (by kernel_rfl) (fun _ _ _ h => h) (by kernel_rfl) ?_
          refine skipOp (i := 21) rfl (by kernel_rfl) (by kernel_rfl) (by kernel_rfl) (fun _ _ _ h => h) (by kernel_rfl) ?_
          refine wpAny_ready (rs := [22]) (by kernel_rfl) (by simp) ?_
          refine AllReady.cons rfl (fun K hK => ?_) AllReady.nil
          go_simp
          refine hK _ _ ?_
          clear hK K
          refine wpAny_done (by kernel_rfl) ?_ _
          go_wp2
          go_ret
          exact ⟨false, rfl, ⟨fun h => (by cases h), fun h => absurd h HN.out⟩, HG.out _ hg1⟩
        | true =>
          rw [hB] at HE
          rcases k with _ | i
          · have HY : Hid (AsAt ts 0) := fun t' ht' => by
              rw [ht] at ht'
              cases ht'
              exact ⟨hB, fun j s hj => by omega⟩
            rw [Nat.add_zero] at e0
            clear hc ht i0 hB
            go_wp2
            refine wp_region_any (by kernel_rfl) ?_
            change wpAny _ _ _ _ _ _ _ (World.drew _)
            refine takeOp (i := 0) (v := ?_) rfl (by kernel_rfl) (by kernel_rfl) (by kernel_rfl) (fun _ _ _ h => h) (by kernel_rfl) ?_ ?_
            rotate_left
            · intro w; go_simp; try with_reducible rfl
            refine wpAny_ready (rs := [1]) (by kernel_rfl) (by simp) ?_
            refine AllReady.cons rfl (fun K hK => ?_) AllReady.nil
            go_simp
            refine hK _ _ ?_
            clear hK K
            refine wpAny_ready (rs := [2]) (by kernel_rfl) (by simp) ?_
            refine AllReady.cons rfl (fun K hK => ?_) AllReady.nil
            go_simp
            refine hK _ _ ?_
            clear hK K
            refine wpAny_ready (rs := [3]) (by kernel_rfl) (by simp) ?_
            refine AllReady.cons rfl (fun K hK => ?_) AllReady.nil
            go_simp
            refine hK _ _ ?_
            clear hK K
            refine wpAny_ready (rs := [4]) (by kernel_rfl) (by simp) ?_
            refine AllReady.cons rfl (fun K hK => ?_) AllReady.nil
            go_wp2_with (go_at_call 71; refine (HE.out _ hbd).mono ?_; rintro e w1 ⟨rfl, hg1⟩; refine Hid.out ?_)
            refine (show ∀ {p : Prop}, p → Hid p from fun h => h) ?_
            try refine hK _ _ ?_
            clear hK K
            refine wpAny_ready (rs := [5]) (by kernel_rfl) (by simp) ?_
            refine AllReady.cons rfl (fun K hK => ?_) AllReady.nil
            go_simp
            refine hK _ _ ?_
            clear hK K
            refine wpAny_ready (rs := [6]) (by kernel_rfl) (by simp) ?_
            refine AllReady.cons rfl (fun K hK => ?_) AllReady.nil
            go_simp
            refine hK _ _ ?_
            clear hK K
            refine wpAny_ready (rs := [7]) (by kernel_rfl) (by simp) ?_
            refine AllReady.cons rfl (fun K hK => ?_) AllReady.nil
            go_simp
            refine hK _ _ ?_
            clear hK K
            refine wpAny_ready (rs := [8]) (by kernel_rfl) (by simp) ?_
            refine AllReady.cons rfl (fun K hK => ?_) AllReady.nil
            go_simp
            refine hK _ _ ?_
            clear hK K
            refine wpAny_ready (rs := [9]) (by kernel_rfl) (by simp) ?_
            refine AllReady.cons rfl (fun K hK => ?_) AllReady.nil
            go_simp
            refine hK _ _ ?_
            clear hK K
            refine skipOp (i := 10) rfl (by kernel_rfl) (by kernel_rfl) (by kernel_rfl) (fun _ _ _ h => h) (by kernel_rfl) ?_
            refine skipOp (i := 11) rfl (by kernel_rfl) (by kernel_rfl) (by kernel_rfl) (fun _ _ _ h => h) (by kernel_rfl) ?_
            refine skipOp (i := 12) rfl (by kernel_rfl) (by kernel_rfl) (by kernel_rfl) (fun _ _ _ h => h) (by kernel_rfl) ?_
            refine skipOp (i := 13) rfl (by kernel_rfl) (by kernel_rfl) (by kernel_rfl) (fun _ _ _ h => h) (by kernel_rfl) ?_
            refine skipOp (i := 14) rfl (by kernel_rfl) (by kernel_rfl) (by kernel_rfl) (fun _ _ _ h => h) (by kernel_rfl) ?_
            refine skipOp (i := 15) rfl (by kernel_rfl) (by kernel_rfl) (by kernel_rfl) (fun _ _ _ h => h) (by kernel_rfl) ?_
            refine skipOp (i := 16) rfl (by kernel_rfl) (by kernel_rfl) (by kernel_rfl) (fun _ _ _ h => h) (by kernel_rfl) ?_
            refine skipOp (i := 17) rfl (by kernel_rfl) (by kernel_rfl) (by kernel_rfl) (fun _ _ _ h => h) (by kernel_rfl) ?_
            refine skipOp (i := 18) rfl (by kernel_rfl) (by kernel_rfl) (by kernel_rfl) (fun _ _ _ h => h) (by kernel_rfl) ?_
            refine skipOp (i := 19) rfl (by kernel_rfl) (by kernel_rfl) (by kernel_rfl) (fun _ _ _ h => h) (by kernel_rfl) ?_
            refine skipOp (i := 20) rfl (by kernel_rfl) (by kernel_rfl) (by kernel_rfl) (fun _ _ _ h => h) (by kernel_rfl) ?_
            refine wpAny_ready (rs := [21]) (by kernel_rfl) (by simp) ?_
            refine AllReady.cons rfl (fun K hK => ?_) AllReady.nil
            go_simp
            refine hK _ _ ?_
            clear hK K
            refine wpAny_ready (rs := [22]) (by kernel_rfl) (by simp) ?_
            refine AllReady.cons rfl (fun K hK => ?_) AllReady.nil
            go_simp
            refine hK _ _ ?_
            clear hK K
            refine wpAny_done (by kernel_rfl) ?_ _
            go_wp2
            exact ⟨⟨1, by omega, by go_num, fun j hj => by
              obtain rfl : j = 0 := by omega
              exact HY.out, HG.out _ hg1⟩, by simp [intOf]; omega⟩
          · obtain ⟨s, hs⟩ : ∃ s, ts[i]? = some s := ⟨ts[i]'(by omega), List.getElem?_eq_getElem (by omega)⟩
            obtain ⟨y, cy, e1, i1, _⟩ := hc i s hs
            have hBs := (HK.out i (by omega) s hs).1
            have HL := hideIt (fun W (hW : Good wr W) => (compareTrees_any s t hBs hB y x cy cx W (i1.up hW) (i0.up hW)).mono fun e v ⟨he, hb⟩ => (show e = Ending.returned (.int .i64 (cmpI (mnV s) (mnV t))) ∧ Good wr v from ⟨he, by rw [hb]; exact hW⟩))
            have HC : Hid (∀ u, Good wr u → u.cell? ⟨b, off + (i + 1), none⟩ = some (.slice x t.length cx) ∧ u.cell? ⟨b, off + i, none⟩ = some (.slice y s.length cy)) := fun u hu => ⟨by rw [hu.cell hbl]; exact e0, by rw [hu.cell hbl]; exact e1⟩
            have hS0 := HC.out _ hbd
            have ek : ((i + 1 : Nat) : Int) = (i : Int) + 1 := by omega
            rw [ek] at b1 b2
            have b3 : (0 : Int) ≤ (i : Int) := by omega
            have b4 : (i : Int) < (n : Int) := by omega
            have tn : ((i : Int) + 1).toNat = i + 1 := by omega
            have d0 : decide ((0 : Int) < (i : Int) + 1) = true := decide_eq_true (by omega)
            have hw1 : IntKind.i64.wrap (i : Int) = (i : Int) := by rw [IntKind.wrap_i64]; omega
            rw [ek]
            have dc := cmpI_ge (mnV s) (mnV t)
            by_cases hL : mnV s < mnV t
            · rw [decide_eq_true hL] at dc
              have HY : Hid (AsAt ts (i + 1)) := fun t' ht' => by
                rw [ht] at ht'
                cases ht'
                exact ⟨hB, fun j s' hj hs' => by
                  obtain rfl : j = i := by omega
                  rw [hs] at hs'
                  cases hs'
                  exact hL⟩
              clear ek hc ht hs i0 i1 hB hBs hL e0 e1
              generalize cmpI (mnV s) (mnV t) = cv at HL dc
              go_wp2
              go_region_held3 (fun u => u.cell? ⟨b, off + (i + 1), none⟩ = some (.slice x t.length cx) ∧ u.cell? ⟨b, off + i, none⟩ = some (.slice y s.length cy))
                (first | assumption)
                (first
                | (go_at_call 71; refine (HE.out _ hbd).mono ?_; rintro e w1 ⟨rfl, hg1⟩; have hS1 := HC.out _ hg1)
                | (go_at_call 72; refine (HL.out _ hg1).mono ?_; rintro e w2 ⟨rfl, hg2⟩; have hS2 := HC.out _ hg2))
              all_goals
                go_wp2
                exact ⟨⟨i + 2, by omega, by go_num, fun j hj => by
                  by_cases hji : j = i + 1
                  · subst hji; exact HY.out
                  · exact HK.out j (by omega), HG.out _ hg2⟩, by simp [intOf]; omega⟩
            · rw [decide_eq_false hL] at dc
              have HN : Hid (¬ asP ts) := fun hp => hL ((hp (i + 1) t ht).2 i s rfl hs)
              clear ek hc ht hs i0 i1 hB hBs hL e0 e1
              generalize cmpI (mnV s) (mnV t) = cv at HL dc
              go_wp2
              go_region_held3 (fun u => u.cell? ⟨b, off + (i + 1), none⟩ = some (.slice x t.length cx) ∧ u.cell? ⟨b, off + i, none⟩ = some (.slice y s.length cy))
                (first | assumption)
                (first
                | (go_at_call 71; refine (HE.out _ hbd).mono ?_; rintro e w1 ⟨rfl, hg1⟩; have hS1 := HC.out _ hg1)
                | (go_at_call 72; refine (HL.out _ hg1).mono ?_; rintro e w2 ⟨rfl, hg2⟩; have hS2 := HC.out _ hg2))
              all_goals
                go_wp2
                go_ret
                exact ⟨false, rfl, ⟨fun h => (by cases h), fun h => absurd h HN.out⟩, HG.out _ hg2⟩
    · obtain rfl : k = n := by omega
      have HY : Hid (asP ts) := fun i t ht => HK.out i (by have := (List.getElem?_eq_some_iff.1 ht).1; omega) t ht
      clear HK
      go_wp2
      go_ret
      exact ⟨true, rfl, ⟨fun _ => HY.out, fun _ => rfl⟩, hg⟩
end Go.Proofs.Ytcpffonenhhfoaa
namespace Go.Proofs
open Go.Shelf
def Try.laysFT_ren : Go.Shelf.Ren := ⟨fun | 6 => 80 | 15 => 62 | 14 => 103 | 28 => 96 | 29 => 97 | 20 => 120 | 21 => 121 | 22 => 122 | 23 => 123 | 24 => 124 | 25 => 125 | 26 => 126 | 27 => 127 | 46 => 132 | 47 => 106 | 48 => 107 | 49 => 133 | 50 => 134 | 57 => 136 | n => n, fun | 22 => 25 | 24 => 50 | 25 => 86 | 3 => 3 | 39 => 82 | 0 => 0 | 53 => 103 | 55 => 105 | 4 => 4 | 46 => 96 | 45 => 95 | 50 => 100 | 5 => 5 | 9 => 9 | 66 => 114 | 70 => 118 | 76 => 131 | 77 => 132 | n => n, fun | n => n⟩
theorem Try.laysFT : Go.Proofs.SlLaysF.n6 Try.prog Try.laysFT_ren := {
  mixed := by kernel_rfl
  f6 := ⟨Try.f80.name, by decide, Try.func80.trans (congrArg some (by kernel_rfl))⟩
  f14 := ⟨Try.f103.name, by decide, Try.func103.trans (congrArg some (by kernel_rfl))⟩
  f15 := Try.func62.trans (congrArg some (by kernel_rfl))
  f20 := ⟨Try.f120.name, by decide, Try.func120.trans (congrArg some (by kernel_rfl))⟩
  f21 := ⟨Try.f121.name, by decide, Try.func121.trans (congrArg some (by kernel_rfl))⟩
  f22 := ⟨Try.f122.name, by decide, Try.func122.trans (congrArg some (by kernel_rfl))⟩
  f23 := ⟨Try.f123.name, by decide, Try.func123.trans (congrArg some (by kernel_rfl))⟩
  f24 := ⟨Try.f124.name, by decide, Try.func124.trans (congrArg some (by kernel_rfl))⟩
  f25 := ⟨Try.f125.name, by decide, Try.func125.trans (congrArg some (by kernel_rfl))⟩
  f26 := ⟨Try.f126.name, by decide, Try.func126.trans (congrArg some (by kernel_rfl))⟩
  f27 := ⟨Try.f127.name, by decide, Try.func127.trans (congrArg some (by kernel_rfl))⟩
  f28 := Try.func96.trans (congrArg some (by kernel_rfl))
  f29 := Try.func97.trans (congrArg some (by kernel_rfl))
  f46 := ⟨Try.f132.name, by decide, Try.func132.trans (congrArg some (by kernel_rfl))⟩
  f47 := Try.func106.trans (congrArg some (by kernel_rfl))
  f48 := Try.func107.trans (congrArg some (by kernel_rfl))
  f49 := ⟨Try.f133.name, by decide, Try.func133.trans (congrArg some (by kernel_rfl))⟩
  f50 := ⟨Try.f134.name, by decide, Try.func134.trans (congrArg some (by kernel_rfl))⟩
  f57 := ⟨Try.f136.name, by decide, Try.func136.trans (congrArg some (by kernel_rfl))⟩
  t0 := Try.underlying0
  a0 := Try.isAgg0
  z0 := Try.sizeOf0
  v0 := Try.zeroValue0
  t3 := Try.underlying3
  a3 := Try.isAgg3
  z3 := Try.sizeOf3
  v3 := Try.zeroValue3
  t4 := Try.underlying4
  a4 := Try.isAgg4
  z4 := Try.sizeOf4
  v4 := Try.zeroValue4
  t5 := Try.underlying5
  a5 := Try.isAgg5
  z5 := Try.sizeOf5
  v5 := Try.zeroValue5
  t9 := Try.underlying9
  a9 := Try.isAgg9
  z9 := Try.sizeOf9
  v9 := Try.zeroValue9
  t22 := Try.underlying25
  a22 := Try.isAgg25
  z22 := Try.sizeOf25
  v22 := Try.zeroValue25
  a24 := Try.isAgg50
  z24 := Try.sizeOf50
  t25 := Try.underlying86
  a25 := Try.isAgg86
  z25 := Try.sizeOf86
  v25 := Try.zeroValue86
  t39 := Try.underlying82
  a39 := Try.isAgg82
  z39 := Try.sizeOf82
  v39 := Try.zeroValue82
  t45 := Try.underlying95
  a45 := Try.isAgg95
  z45 := Try.sizeOf95
  v45 := Try.zeroValue95
  t46 := Try.underlying96
  a46 := Try.isAgg96
  z46 := Try.sizeOf96
  v46 := Try.zeroValue96
  t50 := Try.underlying100
  a50 := Try.isAgg100
  z50 := Try.sizeOf100
  v50 := Try.zeroValue100
  t53 := Try.underlying103
  a53 := Try.isAgg103
  z53 := Try.sizeOf103
  v53 := Try.zeroValue103
  t55 := Try.underlying105
  a55 := Try.isAgg105
  z55 := Try.sizeOf105
  v55 := Try.zeroValue105
  t66 := Try.underlying114
  a66 := Try.isAgg114
  z66 := Try.sizeOf114
  v66 := Try.zeroValue114
  t70 := Try.underlying118
  a70 := Try.isAgg118
  z70 := Try.sizeOf118
  v70 := Try.zeroValue118
  t76 := Try.underlying131
  a76 := Try.isAgg131
  z76 := Try.sizeOf131
  v76 := Try.zeroValue131
  t77 := Try.underlying132
  a77 := Try.isAgg132
  z77 := Try.sizeOf132
  v77 := Try.zeroValue132 }
end Go.Proofs
namespace Go.Proofs.Ytcpffonenhhfoaa
open Go.RowKit Go.Sort Go.Lib

theorem heap_putA {α : Type} [Inhabited α] {enc : α → Value} {w : World} {g n : Nat} {os : Array Obj} {cur : Array Value} {e : TypeId} {fr : Nat × Nat} (d : Array α) (hb : w.heap[g]? = some (.cells cur e fr)) :
    (grow (putRow enc (Sort.ahead w n) g 0 d) os).heap[g]? = some (.cells (putCells enc 0 d cur) e fr) := by
  have hg : g < w.heap.size := (Array.getElem?_eq_some_iff.1 hb).1
  rw [heap_grow_old _ _ (by simpa using hg)]
  simp [putRow, mapBlock, Sort.ahead, Array.getElem?_modify, hb, onCells]
theorem grown_putA {α : Type} [Inhabited α] {enc : α → Value} {w : World} {g n : Nat} {os : Array Obj} (d : Array α) : w.grownBy (grow (putRow enc (Sort.ahead w n) g 0 d) os) (some g) := by
  refine ⟨rfl, rfl, rfl, by simp, fun k hk hne => ?_⟩
  rw [heap_grow_old _ _ (by simpa using hk)]
  have : g ≠ k := fun e => hne (by rw [e])
  simp [putRow, mapBlock, Sort.ahead, Array.getElem?_modify, this]
theorem take_putA {α : Type} [Inhabited α] {enc : α → Value} (cur : Array Value) (ts : List α) (h : ts.length ≤ cur.size) : (putCells enc 0 ts.toArray cur).toList.take ts.length = ts.map enc := by
  apply List.ext_getElem?
  intro j
  by_cases hj : j < ts.length
  · rw [List.getElem?_take_of_lt hj, Array.getElem?_toList]
    simp [putCells, hj, show j < cur.size by omega]
  · rw [List.getElem?_take_eq_none (by omega), List.getElem?_eq_none (by simp; omega)]

/-- a row of R -/
abbrev RwOf (R : List Rw) : Type := {r : Rw // r ∈ R}
def cfT {R : List Rw} (x y : RwOf R) : Int := cmpI (mnV x.1.t) (mnV y.1.t)
theorem ltT {R : List Rw} (x y : RwOf R) : ltOf cfT x y = decide (mnV x.1.t < mnV y.1.t) := by
  unfold ltOf cfT
  rw [Bool.eq_iff_iff, decide_eq_true_iff, decide_eq_true_iff, cmpI_neg]
theorem swoT {R : List Rw} : SWO (ltOf (cfT (R := R))) where
  irrefl x := by rw [ltT]; exact decide_eq_false (by omega)
  trans x y z h1 h2 := by
    rw [ltT] at *
    exact decide_eq_true (by have := of_decide_eq_true h1; have := of_decide_eq_true h2; omega)
  ntrans x y z h1 h2 := by
    rw [ltT] at *
    exact decide_eq_false (by have := of_decide_eq_false h1; have := of_decide_eq_false h2; omega)

set_option maxHeartbeats 1000000 in
theorem sortFT_any (R : List Rw) (hB : ∀ r ∈ R, tB r.t = true) (hne : R.Pairwise fun r s => mnV r.t ≠ mnV s.t) (lo n : Nat) (a : Option Addr) (c : Nat) (h0 : 0 < n) (hn : n ≤ 3000000) (w : World) (h : FB w lo w.heap.size a n c R) :
    Calls Try.prog 80 #[.slice a n c, .func (.func 72) #[] #[]] w fun e w' => e = .returned (.tuple #[]) ∧ ∃ R', FB w' lo w'.heap.size a n c R' ∧ R'.Perm R ∧ (rts R').Pairwise (fun s t => mnV s < mnV t) ∧ w.grownBy w' (Value.slice a n c).ownBlock := by
  have hlen := h.len
  rcases h.own.2 with ⟨_, h1⟩ | ⟨g, cap, cur, hv, hg, hgb, r1, r2, r3, r4⟩
  · omega
  · simp at hv
    obtain ⟨rfl, rfl⟩ := hv
    have hgl : g < w.heap.size := (Array.getElem?_eq_some_iff.1 hgb).1
    haveI : Inhabited (RwOf R) := ⟨⟨R[0]'(by omega), List.getElem_mem _⟩⟩
    have hH : Holds (fun x : RwOf R => x.1.hdr) w g 0 R.attach.toArray := fun j hj => by
      have hj' : j < R.length := by simpa using hj
      refine ⟨?_, h.own.frozenAt (0 + j)⟩
      rw [Nat.zero_add, h.own.cellAt j (by omega), rhs_at (List.getElem?_eq_getElem hj'), getElem!_pos _ j hj]
      simp
    have hkeep : ∀ (r : Rw) (m : Nat) (os : Array Obj) (dk : Array (RwOf R)), RwB w r → RwB (sortWorld (fun x : RwOf R => x.1.hdr) w g 0 m dk os) r := fun r m os dk hr => hr.grown (grown_putA dk) (fun e => own_ne h.own hr (by simpa using e))
    have hcmp : CmpLays1 Try.prog 72 #[] (fun x : RwOf R => x.1.hdr) cfT g 0 R.attach.toArray.size w := fun m os dk _ x y => by
      have hx := hkeep x.1 m os dk (h.ins x.1 x.2).1
      have hy := hkeep y.1 m os dk (h.ins y.1 y.2).1
      refine (compareTrees_any x.1.t y.1.t (hB x.1 x.2) (hB y.1 y.2) _ _ x.1.cp y.1.cp _ hx.is hy.is).mono ?_
      rintro e w' ⟨he, hw⟩
      exact ⟨he, 0, #[], by rw [hw, grow_empty]; rfl⟩
    have hc := Any.slices_SortFunc_total Try.laysFT (fun x : RwOf R => x.1.hdr) (fun _ => rfl) cfT swoT 72 #[] g 0 c R.attach.toArray w (enters_of Try.func72 (by kernel_rfl) rfl) hcmp hH hgl (by simp; omega) (fun x y h1 h2 => by
      rw [ltT] at h1 h2
      have h1 := of_decide_eq_false h1
      have h2 := of_decide_eq_false h2
      refine Classical.byContradiction fun hxy => ?_
      obtain ⟨i, hi⟩ := List.mem_iff_getElem?.1 x.2
      obtain ⟨j, hj⟩ := List.mem_iff_getElem?.1 y.2
      obtain ⟨i0, i1⟩ := List.getElem?_eq_some_iff.1 hi
      obtain ⟨j0, j1⟩ := List.getElem?_eq_some_iff.1 hj
      rcases Nat.lt_trichotomy i j with hlt | hlt | hlt
      · have := List.pairwise_iff_getElem.1 hne i j i0 j0 hlt
        rw [i1, j1] at this
        omega
      · subst hlt
        exact hxy (Subtype.ext (i1.symm.trans j1))
      · have := List.pairwise_iff_getElem.1 hne j i j0 i0 hlt
        rw [i1, j1] at this
        omega)
    change Calls Try.prog 80 _ _ _ at hc
    rw [show R.attach.toArray.size = n by simp; omega] at hc
    refine hc.mono ?_
    rintro e w' ⟨rfl, q, os, rfl⟩
    obtain ⟨L, hL⟩ : ∃ L, (R.attach.toArray.toList.mergeSort fun x y => !(ltOf cfT) y x) = L := ⟨_, rfl⟩
    have hLp : L.Perm R.attach := by rw [← hL]; simpa using List.mergeSort_perm R.attach fun x y => !(ltOf cfT) y x
    have hLs : L.Pairwise fun x y => (!(ltOf cfT) y x) = true := by
      rw [← hL]
      refine List.pairwise_mergeSort (fun a b c h1 h2 => ?_) (fun a b => ?_) _
      · simp only [ltT, Bool.not_eq_true', decide_eq_false_iff_not] at h1 h2 ⊢
        omega
      · simp only [ltT, Bool.or_eq_true, Bool.not_eq_true', decide_eq_false_iff_not]
        omega
    rw [hL]
    have hp : (L.map Subtype.val).Perm R := by
      have h3 := hLp.map Subtype.val
      rwa [List.attach_map_subtype_val] at h3
    have hLl : L.length = n := by rw [hLp.length_eq, List.length_attach]; exact hlen
    have hrow : (L.map fun x : RwOf R => x.1.hdr) = rhs (L.map Subtype.val) := by simp [rhs]
    have hown : (sortWorld (fun x : RwOf R => x.1.hdr) w g 0 q L.toArray os).ownsRow lo 50 1 (.slice (some ⟨g, 0, none⟩) n c) n (rhs (L.map Subtype.val)) := by
      refine ⟨by rw [rhs_len, List.length_map]; omega, .inr ⟨g, c, _, rfl, hg, heap_putA _ hgb, r1, r2, by simp [putCells, r3], ?_⟩⟩
      have := take_putA (enc := fun x : RwOf R => x.1.hdr) cur L (by rw [hLl, r3]; omega)
      rw [hLl, hrow] at this
      rw [Nat.mul_one]
      exact this
    refine ⟨rfl, L.map Subtype.val, ⟨by rw [List.length_map]; exact hLl, hown, fun x hx => (hown.lt x hx).2, Nat.le_refl _, fun r hr => ?_, ?_⟩, hp, ?_, grown_putA _⟩
    · have h3 := h.ins r (hp.mem_iff.1 hr)
      have h4 := hkeep r q os L.toArray h3.1
      exact ⟨h4, h3.2.1, h4.lt⟩
    · exact hp.symm.pairwise h.nod fun h => h.symm
    · have hd : (L.map Subtype.val).Pairwise fun r s => mnV r.t ≠ mnV s.t := hp.symm.pairwise hne fun h => h.symm
      unfold rts
      rw [List.pairwise_map]
      have h5 : (L.map Subtype.val).Pairwise fun r s => mnV r.t ≤ mnV s.t := by
        rw [List.pairwise_map]
        refine hLs.imp fun h => ?_
        simp only [ltT, Bool.not_eq_true', decide_eq_false_iff_not] at h
        omega
      exact (h5.and hd).imp fun ⟨h6, h7⟩ => by omega
end Go.Proofs.Ytcpffonenhhfoaa
namespace Go.Proofs.Ytcpffonenhhfoaa
open Go.RowKit

def rangeI (n : Nat) : List Int := (List.range n).map fun j : Nat => (j : Int)
theorem rangeI_len (n : Nat) : (rangeI n).length = n := by simp [rangeI]
theorem rangeI_at {n k : Nat} (h : k < n) : (rangeI n)[k]? = some (k : Int) := by simp [rangeI, h]
theorem rangeI_mem (n : Nat) (x : Int) : x ∈ rangeI n ↔ 0 ≤ x ∧ x < (n : Int) := by
  simp only [rangeI, List.mem_map, List.mem_range]
  constructor
  · rintro ⟨j, hj, rfl⟩
    omega
  · rintro ⟨h1, h2⟩
    exact ⟨x.toNat, by omega, by omega⟩
theorem rangeI_asc (n : Nat) : (rangeI n).Pairwise (· < ·) := by
  unfold rangeI
  rw [List.pairwise_map]
  exact List.Pairwise.imp (fun h => by omega) (List.pairwise_lt_range (n := n))
/-- all vertices -/
def allV (ts : List (List Int)) : List Int := ts.flatMap vsL
theorem allV_cons (t : List Int) (r : List (List Int)) : allV (t :: r) = vsL t ++ allV r := by simp [allV]
theorem allV_snoc (ts : List (List Int)) (t : List Int) : allV (ts ++ [t]) = allV ts ++ vsL t := by simp [allV]
theorem allV_len (ts : List (List Int)) : (allV ts).length = cnt ts := by
  induction ts with
  | nil => simp [cnt, allV]
  | cons t r ih =>
    rw [allV_cons, List.length_append, ih]
    simp [cnt]
theorem allV_nodup {ts : List (List Int)} (h : ts.Pairwise Apart) : (allV ts).Nodup := by
  induction ts with
  | nil => simp [allV]
  | cons t r ih =>
    rw [List.pairwise_cons] at h
    rw [allV_cons, List.nodup_append]
    refine ⟨vs_nodup t, ih h.2, fun y hy z hz e => ?_⟩
    subst e
    obtain ⟨s, hs, hys⟩ := List.mem_flatMap.1 hz
    exact h.1 s hs y ((vsL_mem t y).1 hy).2 ((vsL_mem s y).1 hys).2
theorem apart_of_nodup {ts : List (List Int)} (hB : ∀ t ∈ ts, tB t = true) (h : (allV ts).Nodup) : ts.Pairwise Apart := by
  induction ts with
  | nil => exact List.Pairwise.nil
  | cons t r ih =>
    rw [allV_cons, List.nodup_append] at h
    rw [List.pairwise_cons]
    refine ⟨fun s hs x hx hxs => ?_, ih (fun s hs => hB s (by simp [hs])) h.2.1⟩
    exact h.2.2 x ((vs_mem_of (hB t (by simp))).2 hx) x (List.mem_flatMap.2 ⟨s, hs, (vs_mem_of (hB s (by simp [hs]))).2 hxs⟩) rfl
/-- sorted -/
def srtI (l : List Int) : List Int := l.mergeSort fun x y => decide (x ≤ y)
theorem srtI_perm (l : List Int) : (srtI l).Perm l := List.mergeSort_perm _ _
theorem srtI_le (l : List Int) : (srtI l).Pairwise fun x y => x ≤ y := by
  have h := List.pairwise_mergeSort (le := fun x y : Int => decide (x ≤ y)) (fun a b c h1 h2 => by simp at *; omega) (fun a b => by simp; omega) l
  exact h.imp fun h => by simpa using h
theorem sh_iff {N : Nat} {ts : List (List Int)} (hB : ∀ t ∈ ts, tB t = true) : FQ (N : Int) ts ↔ srtI (allV ts) = rangeI N := by
  have hp := srtI_perm (allV ts)
  constructor
  · intro h
    have hn : (srtI (allV ts)).Nodup := hp.nodup_iff.2 (allV_nodup h.2.1)
    have hlt : (srtI (allV ts)).Pairwise (· < ·) := by
      have h2 := (srtI_le (allV ts)).and hn
      exact h2.imp fun ⟨h3, h4⟩ => by omega
    refine asc_ext hlt (rangeI_asc N) fun x => ?_
    rw [hp.mem_iff, rangeI_mem]
    constructor
    · intro hx
      obtain ⟨t, ht, hxt⟩ := List.mem_flatMap.1 hx
      obtain ⟨v1, v2⟩ := (vsL_mem t x).1 hxt
      have v1 := of_decide_eq_true (show decide (0 ≤ x ∧ x < 12) = true from v1)
      exact ⟨v1.1, (h.1 t ht).2 x v2⟩
    · rintro ⟨h1, h2⟩
      obtain ⟨t, ht, hx⟩ := h.cover h1 h2
      exact List.mem_flatMap.2 ⟨t, ht, (vs_mem_of (hB t ht)).2 hx⟩
  · intro h
    rw [h] at hp
    have hn : (allV ts).Nodup := hp.nodup_iff.1 ((rangeI_asc N).imp fun h => by omega)
    refine ⟨fun t ht => ⟨hB t ht, fun x hx => ?_⟩, apart_of_nodup hB hn, ?_⟩
    · exact ((rangeI_mem N x).1 (hp.mem_iff.2 (List.mem_flatMap.2 ⟨t, ht, (vs_mem_of (hB t ht)).2 hx⟩))).2
    · rw [← allV_len, ← hp.length_eq, rangeI_len]
theorem asP_B {ts : List (List Int)} (h : asP ts) : ∀ t ∈ ts, tB t = true := fun t ht => by
  obtain ⟨i, hi⟩ := List.mem_iff_getElem?.1 ht
  exact (h i t hi).1
theorem asP_asc {ts : List (List Int)} (h : asP ts) : ts.Pairwise fun s t => mnV s < mnV t := asc_all fun i t j s ht hj hs => (h i t ht).2 j s hj hs
theorem asP_of {ts : List (List Int)} (hB : ∀ t ∈ ts, tB t = true) (h : ts.Pairwise fun s t => mnV s < mnV t) : asP ts := fun i t ht => by
  refine ⟨hB t (List.mem_of_getElem? ht), fun j s hj hs => ?_⟩
  obtain ⟨hi, e⟩ := List.getElem?_eq_some_iff.1 ht
  obtain ⟨hj2, e2⟩ := List.getElem?_eq_some_iff.1 hs
  have := List.pairwise_iff_getElem.1 h j i hj2 hi (by omega)
  rw [e, e2] at this
  exact this
theorem asP_len {ts : List (List Int)} (h : asP ts) : ts.length ≤ 12 := by
  have h1 : (ts.map mnV).Nodup := by
    refine (List.pairwise_map.2 ((asP_asc h).imp fun h => ?_) : (ts.map mnV).Pairwise (· ≠ ·))
    omega
  have h2 := nd_sub (b := rangeI 12) h1 fun x hx => by
    obtain ⟨t, ht, rfl⟩ := List.mem_map.1 hx
    have h3 := ((tB_iff t).1 (asP_B h t ht)).1 _ (mn_mem (asP_B h t ht))
    have h3 := of_decide_eq_true (show decide (0 ≤ mnV t ∧ mnV t < 12) = true from h3)
    exact (rangeI_mem 12 _).2 h3
  rw [List.length_map, rangeI_len] at h2
  exact h2
/-- a right forest, as the program looks -/
theorem FP_prog (N : Int) (ts : List (List Int)) : FP N ts ↔ (1 ≤ N ∧ N ≤ 12) ∧ asP ts ∧ (srtI (allV ts) = rangeI (srtI (allV ts)).length ∧ ((srtI (allV ts)).length : Int) = N) := by
  rw [FP_iff]
  constructor
  · rintro ⟨h1, h2, h3, h4⟩
    have hA := asP_of (fun t ht => (h3.1 t ht).1) h4
    obtain ⟨M, rfl⟩ : ∃ M : Nat, N = (M : Int) := ⟨N.toNat, by omega⟩
    have h5 := (sh_iff (asP_B hA)).1 h3
    exact ⟨⟨h1, h2⟩, hA, by rw [h5, rangeI_len], by rw [h5, rangeI_len]⟩
  · rintro ⟨⟨h1, h2⟩, hA, h3, h4⟩
    refine ⟨h1, h2, ?_, asP_asc hA⟩
    rw [← h4]
    exact (sh_iff (asP_B hA)).2 h3
theorem allV_bound {ts : List (List Int)} (k : Nat) : (allV (ts.take k)).length ≤ 12 * k := by
  rw [allV_len, ← cntV_all]
  have h1 := cntV_le (ts.take k) (ts.take k).length
  have h2 := List.length_take_le k ts
  omega
end Go.Proofs.Ytcpffonenhhfoaa
namespace Go.Proofs.Ytcpffonenhhfoaa
open Go.RowKit

theorem vertsOk_any (x : Int) (w : World) : Calls Try.prog 28 #[.int .i64 x] w fun e w' => e = .returned (.bool (decide (1 ≤ x ∧ x ≤ 12))) ∧ w' = w := by
  by_cases h1 : 1 ≤ x
  · by_cases h2 : x ≤ 12
    · have d1 : decide (1 ≤ x) = true := by simpa using h1
      have d2 : decide (x ≤ 12) = true := by simpa using h2
      go_enter Try.func28, Try.ntmps28
      go_wp2
      go_ret
      exact ⟨by simp [h1, h2], rfl⟩
    · have d1 : decide (1 ≤ x) = true := by simpa using h1
      have d2 : decide (x ≤ 12) = false := by simpa using h2
      go_enter Try.func28, Try.ntmps28
      go_wp2
      go_ret
      exact ⟨by simp, rfl⟩
  · have d1 : decide (1 ≤ x) = false := by simpa using h1
    go_enter Try.func28, Try.ntmps28
    go_wp2
    go_ret
    exact ⟨by simp, rfl⟩

theorem iEdgeOk_any (n : Int) (e : EdgeV) (w : World) :
    Calls Try.prog 49 #[.int .i64 n, .agg #[.int .i64 e.1, .int .i64 e.2]] w fun x w' => x = .returned (.bool (eB n e)) ∧ Below w.heap.size w w' := by
  obtain ⟨a, b⟩ := e
  dsimp only
  have HI := hideIt vertsOk_any
  by_cases h1 : 1 ≤ n ∧ n ≤ 12
  · have r1 : decide (1 ≤ n ∧ n ≤ 12) = true := by simpa using h1
    by_cases h2 : 0 ≤ a
    · have r2 : decide (0 ≤ a) = true := by simpa using h2
      by_cases h3 : a < b
      · have r3 : decide (a < b) = true := by simpa using h3
        go_enter Try.func49, Try.ntmps49
        go_wp2_with (go_at_call 28; refine (HI.out _ _).mono ?_; rintro e w1 ⟨rfl, rfl⟩)
        go_ret
        exact ⟨bret (by dsimp only; omega), (Below.refl _ _).alloc (Nat.le_refl _) _⟩
      · have r3 : decide (a < b) = false := by simpa using h3
        go_enter Try.func49, Try.ntmps49
        go_wp2_with (go_at_call 28; refine (HI.out _ _).mono ?_; rintro e w1 ⟨rfl, rfl⟩)
        go_ret
        exact ⟨by simp [eB]; omega, (Below.refl _ _).alloc (Nat.le_refl _) _⟩
    · have r2 : decide (0 ≤ a) = false := by simpa using h2
      go_enter Try.func49, Try.ntmps49
      go_wp2_with (go_at_call 28; refine (HI.out _ _).mono ?_; rintro e w1 ⟨rfl, rfl⟩)
      go_ret
      exact ⟨by simp [eB]; omega, (Below.refl _ _).alloc (Nat.le_refl _) _⟩
  · have r1 : decide (1 ≤ n ∧ n ≤ 12) = false := by simpa using h1
    go_enter Try.func49, Try.ntmps49
    go_wp2_with (go_at_call 28; refine (HI.out _ _).mono ?_; rintro e w1 ⟨rfl, rfl⟩)
    go_ret
    exact ⟨by simp [eB]; omega, (Below.refl _ _).alloc (Nat.le_refl _) _⟩

end Go.Proofs.Ytcpffonenhhfoaa
namespace Go.Proofs.Ytcpffonenhhfoaa
open Go.RowKit Go.Sort Go.Lib

/-- a whole list laid behind -/
theorem ISt.appL7 {wb : World} {a : Option Addr} {m c k : Nat} {ls xs : List Int} {u : World} (h : ISt wb a m c ls u) {v : Value} {u' : World}
    (ho : u'.ownsRow wb.heap.size 3 1 v (m + k) (ic ls ++ ic xs)) (hg : u.grownBy u' (Value.slice a m c).ownBlock) :
    ∃ a' c', v = .slice a' (m + k) c' ∧ ISt wb a' (m + k) c' (ls ++ xs) u' := by
  obtain ⟨a', c', rfl⟩ := own_form ho
  rw [show ic ls ++ ic xs = ic (ls ++ xs) by simp [ic]] at ho
  refine ⟨a', c', rfl, ho, ?_⟩
  exact h.bel.grown hg h.size (fun j hj => (h.own.lt j hj).1)

set_option maxRecDepth 100000 in
set_option maxHeartbeats 2000000 in
theorem shareOut_any (N : Int) (ts : List (List Int)) (hA : asP ts) (n : Nat) (a : Option Addr) (c : Nat) (w : World) (h : Ts w w.heap.size a n ts) :
    Calls Try.prog 45 #[.int .i64 N, .slice a n c] w fun e w' => ∃ b, e = .returned (.bool b) ∧ (b = true ↔ (srtI (allV ts) = rangeI (srtI (allV ts)).length ∧ ((srtI (allV ts)).length : Int) = N)) ∧ Below w.heap.size w w' := by
  obtain ⟨i0, hi, hz0, hz1, hz2⟩ := info_parts info3i
  have hlen := h.1
  have hn12 := asP_len hA
  have HA := hideIt h
  have HAS := hideIt hA
  have S0 := ISt.start w
  clear h hA
  go_enter Try.func45, Try.ntmps45
  go_wp2
  go_loopw [5, 11] (fun r i wr => ∃ (k m c1 : Nat) (a1 : Option Addr), k ≤ n ∧ m ≤ 12 * k ∧ i = .int .i64 (k : Int) ∧ r = .slice a1 m c1 ∧ Hid (a1 ≠ none) ∧ ISt w a1 m c1 (allV (ts.take k)) wr) (fun _ i _ => n - (intOf i).toNat)
  case atStart => exact ⟨0, 0, 0, _, by omega, by omega, rfl, rfl, by simp [Hid], by rw [List.take_zero]; exact S0⟩
  case round =>
    obtain ⟨k, m, c1, a1, hk, hmk, rfl, rfl, HN1, hst⟩ := hrel
    clear S0
    by_cases hlt : k < n
    · obtain ⟨t, ht⟩ : ∃ t, ts[k]? = some t := ⟨ts[k]'(by omega), List.getElem?_eq_getElem (by omega)⟩
      rcases (HA.out.up hst.bel).2 with hz | ⟨b, off, rfl, hbl, hc⟩
      · omega
      · obtain ⟨x, cx, e0, iI, _⟩ := hc k t ht
        have hB := asP_B HAS.out t (List.mem_of_getElem? ht)
        have hl := tB_len hB
        have b1 : (0 : Int) ≤ (k : Int) := by omega
        have b2 : (k : Int) < (n : Int) := by omega
        have HV := hideIt (iVertsOf_any t t.length x cx (by omega) wr iI)
        have HST := hideIt hst
        have HT2 : Hid (allV (ts.take k) ++ vsL t = allV (ts.take (k + 1))) := by show _ = _; rw [take_snocF ts k t ht, allV_snoc]
        have HPos := hideIt (vs_pos hB)
        have HLen := hideIt (vsL_len t)
        clear hc ht iI hst hB
        go_wp2_with (go_at_call 32; refine HV.out.mono ?_; rintro e w1 ⟨a2, m2, c2, rfl, ho, hb⟩; refine Hid.out ?_)
        refine (show ∀ {p : Prop}, p → Hid p from fun h => h) ?_
        have hm2 : (vsL t).length = m2 := by have := ho.1; rw [ic_len] at this; omega
        have hp2 : 0 < m2 := by have := HPos.out; omega
        have hl2 : m2 ≤ 12 := by have := HLen.out; omega
        rcases ho.2 with ⟨_, h0⟩ | ⟨g, cap, cur, hv, hrest⟩
        · omega
        · simp at hv
          obtain ⟨rfl, rfl⟩ := hv
          have HST2 := hideIt (HST.out.up hb)
          have hsz := HST2.out.size
          have HNews : Hid (∀ j u, (ic (vsL t))[j]? = some u → w1.cell? ((⟨g, 0, none⟩ : Addr).add j) = some u) := fun j u hj => by
            have hj2 := (List.getElem?_eq_some_iff.1 hj).1
            rw [ic_len] at hj2
            have := ho.cellAt j (by omega)
            rw [show (⟨g, 0, none⟩ : Addr).add j = ⟨g, j, none⟩ by by_cases h0 : j = 0 <;> simp [Addr.add, h0], this]
            exact hj
          have HL := hideIt (show (ic (vsL t)).length = m2 * 1 by rw [ic_len]; omega)
          clear HST hb hrest ho HV hm2
          go_wp2_with (at_builtin; refine wpList_append_own _ rfl _ _ 50 rfl w.heap.size 3 i0 _ 1 8 Try.underlying50 hi hz0 hz1 hz2 rfl (by decide) _ _ _ rfl HST2.out.own ⟨g, 0, none⟩ m2 c2 (ic (vsL t)) rfl HL.out HNews.out (by intro u hu; simp [ic] at hu; obtain ⟨q, _, rfl⟩ := hu; rfl) (by unfold maxLen; omega) (by omega) (by omega) ?_)
          intro v5 w5 hown5 hg5 hnil
          obtain ⟨a5, c5, rfl, S5⟩ := HST2.out.appL7 hown5 hg5
          have HN5 : Hid (a5 ≠ none) := fun e => by
            subst e
            rcases hown5.2 with ⟨_, h0⟩ | ⟨g6, _, _, hv6, _⟩
            · omega
            · simp at hv6
          clear hown5 hg5 HST2 HNews hnil
          go_wp2
          exact ⟨⟨k + 1, m + m2, c5, a5, by omega, by omega, by go_num, rfl, HN5, by rw [← HT2.out]; exact S5⟩, by simp [intOf]; omega⟩
    · obtain rfl : k = n := by omega
      have hm : (allV ts).length = m := by
        have := hst.len
        rw [List.take_of_length_le (by omega)] at this
        exact this
      rw [List.take_of_length_le (by omega)] at hst
      rcases hst.own.2 with ⟨hv, _⟩ | ⟨g, cap, cur, hv, hg, hgb, r1, r2, r3, r4⟩
      · simp at hv
        exact absurd hv.1 HN1.out
      · have hv' := hv
        simp at hv'
        obtain ⟨rfl, rfl⟩ := hv'
        have hgl : g < wr.heap.size := (Array.getElem?_eq_some_iff.1 hgb).1
        have HS := Try.slices_Sort_int g 0 c1 (allV ts) wr (holds_of_blockI hgb (by rw [hm]; rw [Nat.mul_one] at r4; exact r4)) hgl (by omega)
        rw [hm] at HS
        have HO : Hid (∀ q os, ISt w (some ⟨g, 0, none⟩) m c1 (srtI (allV ts)) (grow (putRow (Value.int .i64) (Sort.ahead wr q) g 0 (srtI (allV ts)).toArray) os)) := fun q os => by
          have h1 := ownsRow_sortedI (n := q) (os := os) (ss := allV ts) (ts := srtI (allV ts)) (by unfold srtI; rw [List.length_mergeSort]) hg hgb (by rw [hm]; exact r1) r2 r3
          rw [hm] at h1
          exact ⟨h1, hst.bel.grown (grownBy_sortedI _) hst.size (fun j e => by cases e; exact hg)⟩
        have HL : Hid ((srtI (allV ts)).length = m) := by show _ = _; rw [(srtI_perm (allV ts)).length_eq]; exact hm
        have HSo : Hid (Calls Try.prog 73 #[.slice (some ⟨g, 0, none⟩) m c1] wr fun e w' => e = .returned (.tuple #[]) ∧ ISt w (some ⟨g, 0, none⟩) m c1 (srtI (allV ts)) w') :=
          HS.mono (by
            rintro e w2 ⟨rfl, q, os, rfl⟩
            exact ⟨rfl, HO.out q os⟩)
        clear HS HO hgb r1 r2 r3 r4 hst hv hm
        obtain ⟨S, hSe⟩ : ∃ S, srtI (allV ts) = S := ⟨_, rfl⟩
        rw [hSe] at HL HSo
        have HSe := hideIt hSe
        clear hSe
        have hm12 : m ≤ 144 := by omega
        go_wp2_with (go_at_call 73; refine HSo.out.mono ?_; rintro e w2 ⟨rfl, hS⟩; refine Hid.out ?_)
        refine (show ∀ {p : Prop}, p → Hid p from fun h => h) ?_
        have HSt := hideIt hS
        clear hS HSo
        go_wp2
        go_loopw [26] (fun i wq => ∃ j : Nat, j ≤ m ∧ i = .int .i64 (j : Int) ∧ Hid (∀ p, p < j → S[p]? = some (p : Int)) ∧ wq = w2) (fun i _ => m - (intOf i).toNat)
        case atStart => exact ⟨0, by omega, rfl, fun p hp => by omega, rfl⟩
        case round =>
          obtain ⟨j, hj, rfl, HJ, hw⟩ := hrel
          have hw' := hw.symm
          subst hw'
          clear hw
          by_cases hjl : j < m
          · obtain ⟨f, hf⟩ : ∃ f, S[j]? = some f := ⟨S[j]'(by have := HL.out; omega), List.getElem?_eq_getElem _⟩
            have e0 : w2.cell? ⟨g, j, none⟩ = some (.int .i64 f) := by rw [HSt.out.own.cellAt j (by omega)]; exact ic_at hf
            have q1 : (0 : Int) ≤ (j : Int) := by omega
            have q2 : (j : Int) < (m : Int) := by omega
            by_cases hfj : f = (j : Int)
            · have d1 : (f != (j : Int)) = false := by simpa using hfj
              have HJ2 : Hid (∀ p, p < j + 1 → S[p]? = some (p : Int)) := fun p hp => by
                by_cases hpj : p = j
                · rw [hpj, hf, hfj]
                · exact HJ.out p (by omega)
              clear hf HJ hfj
              go_wp2
              exact ⟨⟨j + 1, by omega, by go_num, HJ2, by first | trivial | rfl⟩, by simp [intOf]; omega⟩
            · have d1 : (f != (j : Int)) = true := by simpa using hfj
              have HNo : Hid (¬ (S = rangeI S.length)) := fun he => by
                have h1 := rangeI_at (n := S.length) (k := j) (by have := HL.out; omega)
                rw [← he, hf] at h1
                exact hfj (Option.some.inj h1)
              clear hf HJ hfj
              go_wp2
              go_ret
              exact ⟨false, rfl, by rw [HSe.out]; exact ⟨fun h => (by cases h), fun h => absurd h.1 HNo.out⟩, HSt.out.bel⟩
          · obtain rfl : j = m := by omega
            have HY : Hid (S = rangeI S.length) := by
              show _ = _
              apply List.ext_getElem?
              intro p
              have := HL.out
              by_cases hp : p < j
              · rw [HJ.out p hp, rangeI_at (by omega)]
              · rw [List.getElem?_eq_none (by omega), List.getElem?_eq_none (by rw [rangeI_len]; omega)]
            have HE : Hid (((j : Int) == N) = true ↔ ((S.length : Int) = N)) := by
              show _ ↔ _
              rw [HL.out]
              simp
            clear HJ
            go_wp2
            go_ret
            exact ⟨_, rfl, by rw [HSe.out]; exact ⟨fun h => ⟨HY.out, HE.out.1 h⟩, fun h => HE.out.2 h.2⟩, HSt.out.bel⟩

set_option maxHeartbeats 1000000 in
theorem iForestOk_any (N : Int) (ts : List (List Int)) (n : Nat) (a : Option Addr) (c : Nat) (hn : n + lnS ts ≤ 1048576) (w : World) (h : Ts w w.heap.size a n ts) :
    Calls Try.prog 21 #[.agg #[.int .i64 N, .slice a n c]] w fun e w' => ∃ b, e = .returned (.bool b) ∧ (b = true ↔ FP N ts) ∧ Below w.heap.size w w' := by
  have b0 : Below w.heap.size w (w.alloc (.cells #[.int .i64 N, .slice a n c] 27)) := (Below.refl _ _).alloc (Nat.le_refl _) _
  have HI := hideIt vertsOk_any
  have HP := hideIt (FP_prog N ts)
  have HT := hideIt (treesAscend_any ts n a c (by omega) (fun t ht => by have := lnS_mem ht; omega) _ (h.up b0))
  have HB0 := hideIt b0
  by_cases h1 : 1 ≤ N ∧ N ≤ 12
  · have r1 : decide (1 ≤ N ∧ N ≤ 12) = true := decide_eq_true h1
    by_cases hA : asP ts
    · have HT2 : Hid (Calls Try.prog 44 #[.slice a n c] (w.alloc (.cells #[.int .i64 N, .slice a n c] 27)) fun e w' => e = .returned (.bool true) ∧ Below (w.alloc (.cells #[.int .i64 N, .slice a n c] 27)).heap.size (w.alloc (.cells #[.int .i64 N, .slice a n c] 27)) w') :=
        HT.out.mono fun e v ⟨b, he, hb, hbl⟩ => ⟨by rw [he, hb.2 hA], hbl⟩
      have HSh := hideIt (fun u (hu : Below (w.alloc (.cells #[.int .i64 N, .slice a n c] 27)).heap.size (w.alloc (.cells #[.int .i64 N, .slice a n c] 27)) u) => shareOut_any N ts hA n a c u ((h.up b0).up hu))
      have HPA := hideIt (show FP N ts ↔ (srtI (allV ts) = rangeI (srtI (allV ts)).length ∧ ((srtI (allV ts)).length : Int) = N) from HP.out.trans ⟨fun h => h.2.2, fun h => ⟨h1, hA, h⟩⟩)
      clear h b0 HT HP hA
      go_enter Try.func21, Try.ntmps21
      go_wp2_with (first | (go_at_call 28; refine (HI.out _ _).mono ?_; rintro e w1 ⟨rfl, rfl⟩) | (go_at_call 44; refine HT2.out.mono ?_; rintro e w2 ⟨rfl, hb2⟩; refine Hid.out ?_))
      refine (show ∀ {p : Prop}, p → Hid p from fun h => h) ?_
      obtain ⟨hc, hf⟩ := bcell hb2
      have HS2 := hideIt (HSh.out w2 hb2)
      go_wp2_with (go_at_call 45; refine HS2.out.mono ?_; rintro e w3 ⟨b, rfl, hbi, hb3⟩)
      go_ret
      exact ⟨b, rfl, hbi.trans HPA.out.symm, HB0.out.trans ((hb2.trans (hb3.mono hb2.size)).mono (by simp))⟩
    · have HT2 : Hid (Calls Try.prog 44 #[.slice a n c] (w.alloc (.cells #[.int .i64 N, .slice a n c] 27)) fun e w' => e = .returned (.bool false) ∧ Below (w.alloc (.cells #[.int .i64 N, .slice a n c] 27)).heap.size (w.alloc (.cells #[.int .i64 N, .slice a n c] 27)) w') :=
        HT.out.mono fun e v ⟨b, he, hb, hbl⟩ => ⟨by
          have : b = false := by
            cases b with
            | false => rfl
            | true => exact absurd (hb.1 rfl) hA
          rw [he, this], hbl⟩
      have HN : Hid (¬ FP N ts) := fun hf => hA (HP.out.1 hf).2.1
      clear h b0 HT HP hA
      go_enter Try.func21, Try.ntmps21
      go_wp2_with (first | (go_at_call 28; refine (HI.out _ _).mono ?_; rintro e w1 ⟨rfl, rfl⟩) | (go_at_call 44; refine HT2.out.mono ?_; rintro e w2 ⟨rfl, hb2⟩))
      go_ret
      exact ⟨false, rfl, ⟨fun h => (by cases h), fun h => absurd h HN.out⟩, HB0.out.trans (hb2.mono (by simp))⟩
  · have r1 : decide (1 ≤ N ∧ N ≤ 12) = false := decide_eq_false h1
    have HN : Hid (¬ FP N ts) := fun hf => h1 (HP.out.1 hf).1
    clear HT h HP b0
    go_enter Try.func21, Try.ntmps21
    go_wp2_with (go_at_call 28; refine (HI.out _ _).mono ?_; rintro e w1 ⟨rfl, rfl⟩)
    go_ret
    exact ⟨false, rfl, ⟨fun h => (by cases h), fun h => absurd h HN.out⟩, HB0.out⟩
end Go.Proofs.Ytcpffonenhhfoaa
