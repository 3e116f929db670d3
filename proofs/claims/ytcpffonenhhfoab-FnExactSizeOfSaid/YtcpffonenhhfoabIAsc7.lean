/- The library's Min over ints; the program's compareTrees and treesAscend. -/
import Derived.Test.YtcpffonenhhfoabF7
import Derived.Test.YtcpffonenhhfoabITour
import Derived.Test.YtcpffonenhhfoabCmp6
import Derived.Test.YtcpffonenhhfoabFo7
namespace Go.Proofs.Ytcpffonenhhfoab
open Go.RowKit

set_option maxHeartbeats 1000000 in
theorem minI_any (t : List Int) (n : Nat) (a : Option Addr) (c : Nat) (hn : n ≤ 3000000) (h0 : 0 < n) (w : World) (h : Is w w.heap.size a n t) :
    Calls Try.prog 75 #[.slice a n c] w fun e w' => ∃ x, e = .returned (.int .i64 x) ∧ (x ∈ t ∧ ∀ y ∈ t, x ≤ y) ∧ w' = w := by
  obtain ⟨hlen, hrow⟩ := h
  rcases hrow with hz | ⟨b, off, rfl, hbl, hc⟩
  · omega
  · obtain ⟨f0, hf0⟩ : ∃ f, t[0]? = some f := ⟨t[0]'(by omega), List.getElem?_eq_getElem (by omega)⟩
    have d0 : decide ((n : Int) < 1) = false := decide_eq_false (by omega)
    have e0 := hc 0 f0 hf0
    rw [Nat.add_zero] at e0
    have q1 : (0 : Int) < (n : Int) := by omega
    have HC := hideIt hc
    have HS : Hid (f0 ∈ t ∧ ∀ (j : Nat) (y : Int), j < 1 → t[j]? = some y → f0 ≤ y) := ⟨List.mem_of_getElem? hf0, fun j y hj hy => by
      obtain rfl : j = 0 := by omega
      rw [hf0] at hy
      cases hy
      exact Int.le_refl _⟩
    clear hc hf0
    go_enter Try.func75, Try.ntmps75
    go_wp2
    go_loopw [3, 4] (fun m i wr => ∃ (k : Nat) (x : Int), 1 ≤ k ∧ k ≤ n ∧ i = .int .i64 (k : Int) ∧ m = .int .i64 x ∧ Hid (x ∈ t ∧ ∀ (j : Nat) (y : Int), j < k → t[j]? = some y → x ≤ y) ∧ wr = w) (fun _ i _ => n - (intOf i).toNat)
    case atStart => exact ⟨1, f0, by omega, by omega, rfl, rfl, HS, rfl⟩
    case round =>
      obtain ⟨k, x, hk1, hk, rfl, rfl, HX, hw⟩ := hrel
      have hw' := hw.symm
      subst hw'
      clear hw HS e0
      by_cases hlt : k < n
      · obtain ⟨f, hf⟩ : ∃ f, t[k]? = some f := ⟨t[k]'(by omega), List.getElem?_eq_getElem (by omega)⟩
        have e1 := HC.out k f hf
        have b1 : (0 : Int) ≤ (k : Int) := by omega
        have b2 : (k : Int) < (n : Int) := by omega
        have HX2 : Hid (min x f ∈ t ∧ ∀ (j : Nat) (y : Int), j < k + 1 → t[j]? = some y → min x f ≤ y) := by
          obtain ⟨p1, p2⟩ := HX.out
          refine ⟨?_, fun j y hj hy => ?_⟩
          · by_cases hxf : x ≤ f
            · rw [Int.min_eq_left hxf]; exact p1
            · rw [Int.min_eq_right (by omega)]; exact List.mem_of_getElem? hf
          · by_cases hjk : j = k
            · rw [hjk, hf] at hy
              cases hy
              omega
            · have := p2 j y (by omega) hy
              omega
        clear hf HX
        go_wp2
        refine ⟨⟨k + 1, min x f, by omega, by omega, by go_num, ?_, HX2, by first | trivial | rfl⟩, by simp [intOf]; omega⟩
        first | rfl | (congr 1; split <;> omega)
      · obtain rfl : k = n := by omega
        have HX2 : Hid (x ∈ t ∧ ∀ y ∈ t, x ≤ y) := ⟨HX.out.1, fun y hy => by
          obtain ⟨j, hj⟩ := List.mem_iff_getElem?.1 hy
          exact HX.out.2 j y (by have := (List.getElem?_eq_some_iff.1 hj).1; omega) hj⟩
        clear HX
        go_wp2
        go_ret
        exact ⟨x, rfl, HX2.out, rfl⟩

theorem mn_le {t : List Int} (hB : tB t = true) {y : Int} (hy : y ∈ t) : mnV t ≤ y := by
  have hp := vs_pos hB
  have hx : (vsL t)[0]? = some ((vsL t)[0]'hp) := List.getElem?_eq_getElem hp
  rw [mn_first hx]
  obtain ⟨p, hp2⟩ := List.mem_iff_getElem?.1 ((vs_mem_of hB).2 hy)
  obtain ⟨p0, p1⟩ := List.getElem?_eq_some_iff.1 hp2
  by_cases e : p = 0
  · subst e
    rw [← p1]
    exact Int.le_refl _
  · have := List.pairwise_iff_getElem.1 (vsK_asc t 12) 0 p hp p0 (by omega)
    rw [show (vsK t 12)[p]'p0 = y from p1] at this
    exact Int.le_of_lt this
theorem mn_is {t : List Int} (hB : tB t = true) {x : Int} (h : x ∈ t ∧ ∀ y ∈ t, x ≤ y) : x = mnV t := Int.le_antisymm (h.2 _ (mn_mem hB)) (mn_le hB h.1)

theorem compareTrees_any (s t : List Int) (hs : tB s = true) (ht : tB t = true) (a a' : Option Addr) (c c' : Nat) (w : World) (h : Is w w.heap.size a s.length s) (h' : Is w w.heap.size a' t.length t) :
    Calls Try.prog 56 #[.slice a s.length c, .slice a' t.length c'] w fun e w' => e = .returned (.int .i64 (cmpI (mnV s) (mnV t))) ∧ w' = w := by
  have l1 := tB_len hs
  have l2 := tB_len ht
  have H1 := hideIt ((minI_any s s.length a c (by omega) (tB_pos hs) w h).mono fun e v ⟨x, he, hx, hv⟩ => (show e = Ending.returned (.int .i64 (mnV s)) ∧ v = w from ⟨by rw [he, mn_is hs hx], hv⟩))
  have H2 := hideIt ((minI_any t t.length a' c' (by omega) (tB_pos ht) w h').mono fun e v ⟨x, he, hx, hv⟩ => (show e = Ending.returned (.int .i64 (mnV t)) ∧ v = w from ⟨by rw [he, mn_is ht hx], hv⟩))
  have HC := hideIt (cmpCompare_any (mnV s) (mnV t) w)
  clear h h'
  go_enter Try.func56, Try.ntmps56
  go_wp2_with (first | (go_at_call 75; refine H1.out.mono ?_; rintro e w1 ⟨rfl, hw⟩; have hw' := hw.symm; subst hw'; clear hw H1) | (go_at_call 75; refine H2.out.mono ?_; rintro e w1 ⟨rfl, hw⟩; have hw' := hw.symm; subst hw'; clear hw H2) | (go_at_call 71; refine HC.out.mono ?_; rintro e w1 ⟨rfl, hw⟩; have hw' := hw.symm; subst hw'; clear hw))
  go_ret
  exact ⟨rfl, rfl⟩

/-- the tour at i is right, and its least vertex is above that of the one before it -/
def AsAt (ts : List (List Int)) (i : Nat) : Prop := ∀ t, ts[i]? = some t → tB t = true ∧ ∀ j s, j + 1 = i → ts[j]? = some s → mnV s < mnV t
def asP (ts : List (List Int)) : Prop := ∀ i, AsAt ts i
theorem cmpI_ge (x y : Int) : decide (0 ≤ cmpI x y) = !decide (x < y) := by
  by_cases h : x < y
  · have := (cmpI_neg x y).2 h
    rw [decide_eq_true h]
    exact decide_eq_false (by omega)
  · have := mt (cmpI_neg x y).1 h
    rw [decide_eq_false h]
    exact decide_eq_true (by omega)

set_option maxRecDepth 100000 in
set_option maxHeartbeats 4000000 in
theorem treesAscend_any (ts : List (List Int)) (n : Nat) (a : Option Addr) (c : Nat) (hn : n ≤ 3000000) (hm : ∀ t ∈ ts, t.length ≤ 3000000) (w : World) (h : Ts w w.heap.size a n ts) :
    Calls Try.prog 66 #[.slice a n c] w fun e w' => ∃ b, e = .returned (.bool b) ∧ (b = true ↔ asP ts) ∧ Below w.heap.size w w' := by
  have hlen := h.1
  have HA := hideIt h
  clear h
  go_enter Try.func66, Try.ntmps66
  go_wp2
  go_loopw [6] (fun i wr => ∃ k : Nat, k ≤ n ∧ i = .int .i64 (k : Int) ∧ Hid (∀ j, j < k → AsAt ts j) ∧ Good w wr) (fun i _ => n - (intOf i).toNat)
  case atStart => exact ⟨0, by omega, rfl, fun j hj => by omega, Good.refl _⟩
  case round =>
    obtain ⟨k, hk, rfl, HK, hg⟩ := hrel
    by_cases hlt : k < n
    · rcases (HA.out.up hg).2 with hz | ⟨b, off, rfl, hbl, hc⟩
      · omega
      · obtain ⟨t, ht⟩ : ∃ t, ts[k]? = some t := ⟨ts[k]'(by omega), List.getElem?_eq_getElem (by omega)⟩
        obtain ⟨x, cx, e0, i0, _⟩ := hc k t ht
        have b1 : (0 : Int) ≤ (k : Int) := by omega
        have b2 : (k : Int) < (n : Int) := by omega
        have HG := hideIt (fun u (hu : Good wr u) => hg.up hu)
        have hbd := (Good.refl wr).drew
        have HE := hideIt (fun W (hW : Good wr W) => (iTourOk_any t t.length x cx (hm t (List.mem_of_getElem? ht)) W (i0.up hW)).mono fun e v ⟨he, hb⟩ => (show e = Ending.returned (.bool (tB t)) ∧ Good wr v from ⟨he, hW.up hb⟩))
        cases hB : tB t with
        | false =>
          rw [hB] at HE
          have HN : Hid (¬ asP ts) := fun hp => by have := (hp k t ht).1; rw [hB] at this; cases this
          clear hc ht i0 hB HK
          go_wp2
          refine wp_region_any (by kernel_rfl) ?_
          change wpAny _ _ _ _ _ _ _ (World.drew _)
          refine takeOp (i := 0) (v := ?_) rfl (by kernel_rfl) (by kernel_rfl) (by kernel_rfl) (fun _ _ _ h => h) (by kernel_rfl) ?_ ?_
          rotate_left
          · intro w; go_simp; try with_reducible rfl
          refine wpAny_ready (rs := [1]) (by kernel_rfl) (by simp) ?_
          refine AllReady.cons rfl (fun K hK => ?_) AllReady.nil
          go_simp
          refine hK _ _ ?_
          clear hK K
          refine wpAny_ready (rs := [2]) (by kernel_rfl) (by simp) ?_
          refine AllReady.cons rfl (fun K hK => ?_) AllReady.nil
          go_simp
          refine hK _ _ ?_
          clear hK K
          refine wpAny_ready (rs := [3]) (by kernel_rfl) (by simp) ?_
          refine AllReady.cons rfl (fun K hK => ?_) AllReady.nil
          go_simp
          refine hK _ _ ?_
          clear hK K
          refine wpAny_ready (rs := [4]) (by kernel_rfl) (by simp) ?_
          refine AllReady.cons rfl (fun K hK => ?_) AllReady.nil
          go_wp2_with (go_at_call 53; refine (HE.out _ hbd).mono ?_; rintro e w1 ⟨rfl, hg1⟩; refine Hid.out ?_)
          refine (show ∀ {p : Prop}, p → Hid p from fun h => h) ?_
          try refine hK _ _ ?_
          clear hK K
          refine wpAny_ready (rs := [5]) (by kernel_rfl) (by simp) ?_
          refine AllReady.cons rfl (fun K hK => ?_) AllReady.nil
          go_simp
          refine hK _ _ ?_
          clear hK K
          refine wpAny_ready (rs := [6]) (by kernel_rfl) (by simp) ?_
          refine AllReady.cons rfl (fun K hK => ?_) AllReady.nil
          go_simp
          refine hK _ _ ?_
          clear hK K
          refine skipOp (i := 7) rfl (by kernel_rfl) (by kernel_rfl) (by kernel_rfl) (fun _ _ _ h => h) (by kernel_rfl) ?_
          refine skipOp (i := 8) rfl (by kernel_rfl) (by kernel_rfl) (by kernel_rfl) (fun _ _ _ h => h) (by kernel_rfl) ?_
          refine skipOp (i := 9) rfl (by kernel_rfl) (by kernel_rfl) (by kernel_rfl) (fun _ _ _ h => h) (by kernel_rfl) ?_
          refine skipOp (i := 10) rfl (by kernel_rfl) (by kernel_rfl) (by kernel_rfl) (fun _ _ _ h => h) (by kernel_rfl) ?_
          refine skipOp (i := 11) rfl (by kernel_rfl) (by kernel_rfl) (by kernel_rfl) (fun _ _ _ h => h) (by kernel_rfl) ?_
          refine skipOp (i := 12) rfl (by kernel_rfl) (by kernel_rfl) (by kernel_rfl) (fun _ _ _ h => h) (by kernel_rfl) ?_
          refine skipOp (i := 13) rfl (by kernel_rfl) (by kernel_rfl) (by kernel_rfl) (fun _ _ _ h => h) (by kernel_rfl) ?_
          refine skipOp (i := 14) rfl (by kernel_rfl) (by kernel_rfl) (by kernel_rfl) (fun _ _ _ h => h) (by kernel_rfl) ?_
          refine skipOp (i := 15) rfl (by kernel_rfl) (by kernel_rfl) (by kernel_rfl) (fun _ _ _ h => h) (by kernel_rfl) ?_
          refine skipOp (i := 16) rfl (by kernel_rfl) (by kernel_rfl) (by kernel_rfl) (fun _ _ _ h => h) (by kernel_rfl) ?_
          refine skipOp (i := 17) rfl (by kernel_rfl) (by kernel_rfl) (by kernel_rfl) (fun _ _ _ h => h) (by kernel_rfl) ?_
          refine skipOp (i := 18) rfl (by kernel_rfl) (by kernel_rfl) (by kernel_rfl) (fun _ _ _ h => h) (by kernel_rfl) ?_
          refine skipOp (i := 19) rfl (by kernel_rfl) (by kernel_rfl) (by kernel_rfl) (fun _ _ _ h => h) (by kernel_rfl) ?_
          refine skipOp (i := 20) rfl (by kernel_rfl) (by kernel_rfl) (by kernel_rfl) (fun _ _ _ h => h) (by kernel_rfl) ?_
          refine skipOp (i := 21) rfl (by kernel_rfl) (by kernel_rfl) (by kernel_rfl) (fun _ _ _ h => h) (by kernel_rfl) ?_
          refine wpAny_ready (rs := [22]) (by kernel_rfl) (by simp) ?_
          refine AllReady.cons rfl (fun K hK => ?_) AllReady.nil
          go_simp
          refine hK _ _ ?_
          clear hK K
          refine wpAny_done (by kernel_rfl) ?_ _
          go_wp2
          go_ret
          exact ⟨false, rfl, ⟨fun h => (by cases h), fun h => absurd h HN.out⟩, HG.out _ hg1⟩
        | true =>
          rw [hB] at HE
          rcases k with _ | i
          · have HY : Hid (AsAt ts 0) := fun t' ht' => by
              rw [ht] at ht'
              cases ht'
              exact ⟨hB, fun j s hj => by omega⟩
            rw [Nat.add_zero] at e0
            clear hc ht i0 hB
            go_wp2
            refine wp_region_any (by kernel_rfl) ?_
            change wpAny _ _ _ _ _ _ _ (World.drew _)
            refine takeOp (i := 0) (v := ?_) rfl (by kernel_rfl) (by kernel_rfl) (by kernel_rfl) (fun _ _ _ h => h) (by kernel_rfl) ?_ ?_
            rotate_left
            · intro w; go_simp; try with_reducible rfl
            refine wpAny_ready (rs := [1]) (by kernel_rfl) (by simp) ?_
            refine AllReady.cons rfl (fun K hK => ?_) AllReady.nil
            go_simp
            refine hK _ _ ?_
            clear hK K
            refine wpAny_ready (rs := [2]) (by kernel_rfl) (by simp) ?_
            refine AllReady.cons rfl (fun K hK => ?_) AllReady.nil
            go_simp
            refine hK _ _ ?_
            clear hK K
            refine wpAny_ready (rs := [3]) (by kernel_rfl) (by simp) ?_
            refine AllReady.cons rfl (fun K hK => ?_) AllReady.nil
            go_simp
            refine hK _ _ ?_
            clear hK K
            refine wpAny_ready (rs := [4]) (by kernel_rfl) (by simp) ?_
            refine AllReady.cons rfl (fun K hK => ?_) AllReady.nil
            go_wp2_with (go_at_call 53; refine (HE.out _ hbd).mono ?_; rintro e w1 ⟨rfl, hg1⟩; refine Hid.out ?_)
            refine (show ∀ {p : Prop}, p → Hid p from fun h => h) ?_
            try refine hK _ _ ?_
            clear hK K
            refine wpAny_ready (rs := [5]) (by kernel_rfl) (by simp) ?_
            refine AllReady.cons rfl (fun K hK => ?_) AllReady.nil
            go_simp
            refine hK _ _ ?_
            clear hK K
            refine wpAny_ready (rs := [6]) (by kernel_rfl) (by simp) ?_
            refine AllReady.cons rfl (fun K hK => ?_) AllReady.nil
            go_simp
            refine hK _ _ ?_
            clear hK K
            refine wpAny_ready (rs := [7]) (by kernel_rfl) (by simp) ?_
            refine AllReady.cons rfl (fun K hK => ?_) AllReady.nil
            go_simp
            refine hK _ _ ?_
            clear hK K
            refine wpAny_ready (rs := [8]) (by kernel_rfl) (by simp) ?_
            refine AllReady.cons rfl (fun K hK => ?_) AllReady.nil
            go_simp
            refine hK _ _ ?_
            clear hK K
            refine wpAny_ready (rs := [9]) (by kernel_rfl) (by simp) ?_
            refine AllReady.cons rfl (fun K hK => ?_) AllReady.nil
            go_simp
            refine hK _ _ ?_
            clear hK K
            refine skipOp (i := 10) rfl (by kernel_rfl) (by kernel_rfl) (by kernel_rfl) (fun _ _ _ h => h) (by kernel_rfl) ?_
            refine skipOp (i := 11) rfl (by kernel_rfl) (by kernel_rfl) (by kernel_rfl) (fun _ _ _ h => h) (by kernel_rfl) ?_
            refine skipOp (i := 12) rfl (by kernel_rfl) (by kernel_rfl) (by kernel_rfl) (fun _ _ _ h => h) (by kernel_rfl) ?_
            refine skipOp (i := 13) rfl (by kernel_rfl) (by kernel_rfl) (by kernel_rfl) (fun _ _ _ h => h) (by kernel_rfl) ?_
            refine skipOp (i := 14) rfl (by kernel_rfl) (by kernel_rfl) (by kernel_rfl) (fun _ _ _ h => h) (by kernel_rfl) ?_
            refine skipOp (i := 15) rfl (by kernel_rfl) (by kernel_rfl) (by kernel_rfl) (fun _ _ _ h => h) (by kernel_rfl) ?_
            refine skipOp (i := 16) rfl (by kernel_rfl) (by kernel_rfl) (by kernel_rfl) (fun _ _ _ h => h) (by kernel_rfl) ?_
            refine skipOp (i := 17) rfl (by kernel_rfl) (by kernel_rfl) (by kernel_rfl) (fun _ _ _ h => h) (by kernel_rfl) ?_
            refine skipOp (i := 18) rfl (by kernel_rfl) (by kernel_rfl) (by kernel_rfl) (fun _ _ _ h => h) (by kernel_rfl) ?_
            refine skipOp (i := 19) rfl (by kernel_rfl) (by kernel_rfl) (by kernel_rfl) (fun _ _ _ h => h) (by kernel_rfl) ?_
            refine skipOp (i := 20) rfl (by kernel_rfl) (by kernel_rfl) (by kernel_rfl) (fun _ _ _ h => h) (by kernel_rfl) ?_
            refine wpAny_ready (rs := [21]) (by kernel_rfl) (by simp) ?_
            refine AllReady.cons rfl (fun K hK => ?_) AllReady.nil
            go_simp
            refine hK _ _ ?_
            clear hK K
            refine wpAny_ready (rs := [22]) (by kernel_rfl) (by simp) ?_
            refine AllReady.cons rfl (fun K hK => ?_) AllReady.nil
            go_simp
            refine hK _ _ ?_
            clear hK K
            refine wpAny_done (by kernel_rfl) ?_ _
            go_wp2
            exact ⟨⟨1, by omega, by go_num, fun j hj => by
              obtain rfl : j = 0 := by omega
              exact HY.out, HG.out _ hg1⟩, by simp [intOf]; omega⟩
          · obtain ⟨s, hs⟩ : ∃ s, ts[i]? = some s := ⟨ts[i]'(by omega), List.getElem?_eq_getElem (by omega)⟩
            obtain ⟨y, cy, e1, i1, _⟩ := hc i s hs
            have hBs := (HK.out i (by omega) s hs).1
            have HL := hideIt (fun W (hW : Good wr W) => (compareTrees_any s t hBs hB y x cy cx W (i1.up hW) (i0.up hW)).mono fun e v ⟨he, hb⟩ => (show e = Ending.returned (.int .i64 (cmpI (mnV s) (mnV t))) ∧ Good wr v from ⟨he, by rw [hb]; exact hW⟩))
            have HC : Hid (∀ u, Good wr u → u.cell? ⟨b, off + (i + 1), none⟩ = some (.slice x t.length cx) ∧ u.cell? ⟨b, off + i, none⟩ = some (.slice y s.length cy)) := fun u hu => ⟨by rw [hu.cell hbl]; exact e0, by rw [hu.cell hbl]; exact e1⟩
            have hS0 := HC.out _ hbd
            have ek : ((i + 1 : Nat) : Int) = (i : Int) + 1 := by omega
            rw [ek] at b1 b2
            have b3 : (0 : Int) ≤ (i : Int) := by omega
            have b4 : (i : Int) < (n : Int) := by omega
            have tn : ((i : Int) + 1).toNat = i + 1 := by omega
            have d0 : decide ((0 : Int) < (i : Int) + 1) = true := decide_eq_true (by omega)
            have hw1 : IntKind.i64.wrap (i : Int) = (i : Int) := by rw [IntKind.wrap_i64]; omega
            rw [ek]
            have dc := cmpI_ge (mnV s) (mnV t)
            by_cases hL : mnV s < mnV t
            · rw [decide_eq_true hL] at dc
              have HY : Hid (AsAt ts (i + 1)) := fun t' ht' => by
                rw [ht] at ht'
                cases ht'
                exact ⟨hB, fun j s' hj hs' => by
                  obtain rfl : j = i := by omega
                  rw [hs] at hs'
                  cases hs'
                  exact hL⟩
              clear ek hc ht hs i0 i1 hB hBs hL e0 e1
              generalize cmpI (mnV s) (mnV t) = cv at HL dc
              go_wp2
              go_region_held3 (fun u => u.cell? ⟨b, off + (i + 1), none⟩ = some (.slice x t.length cx) ∧ u.cell? ⟨b, off + i, none⟩ = some (.slice y s.length cy))
                (first | assumption)
                (first
                | (go_at_call 53; refine (HE.out _ hbd).mono ?_; rintro e w1 ⟨rfl, hg1⟩; have hS1 := HC.out _ hg1)
                | (go_at_call 56; refine (HL.out _ hg1).mono ?_; rintro e w2 ⟨rfl, hg2⟩; have hS2 := HC.out _ hg2))
              all_goals
                go_wp2
                exact ⟨⟨i + 2, by omega, by go_num, fun j hj => by
                  by_cases hji : j = i + 1
                  · subst hji; exact HY.out
                  · exact HK.out j (by omega), HG.out _ hg2⟩, by simp [intOf]; omega⟩
            · rw [decide_eq_false hL] at dc
              have HN : Hid (¬ asP ts) := fun hp => hL ((hp (i + 1) t ht).2 i s rfl hs)
              clear ek hc ht hs i0 i1 hB hBs hL e0 e1
              generalize cmpI (mnV s) (mnV t) = cv at HL dc
              go_wp2
              go_region_held3 (fun u => u.cell? ⟨b, off + (i + 1), none⟩ = some (.slice x t.length cx) ∧ u.cell? ⟨b, off + i, none⟩ = some (.slice y s.length cy))
                (first | assumption)
                (first
                | (go_at_call 53; refine (HE.out _ hbd).mono ?_; rintro e w1 ⟨rfl, hg1⟩; have hS1 := HC.out _ hg1)
                | (go_at_call 56; refine (HL.out _ hg1).mono ?_; rintro e w2 ⟨rfl, hg2⟩; have hS2 := HC.out _ hg2))
              all_goals
                go_wp2
                go_ret
                exact ⟨false, rfl, ⟨fun h => (by cases h), fun h => absurd h HN.out⟩, HG.out _ hg2⟩
    · obtain rfl : k = n := by omega
      have HY : Hid (asP ts) := fun i t ht => HK.out i (by have := (List.getElem?_eq_some_iff.1 ht).1; omega) t ht
      clear HK
      go_wp2
      go_ret
      exact ⟨true, rfl, ⟨fun _ => HY.out, fun _ => rfl⟩, hg⟩
end Go.Proofs.Ytcpffonenhhfoab
