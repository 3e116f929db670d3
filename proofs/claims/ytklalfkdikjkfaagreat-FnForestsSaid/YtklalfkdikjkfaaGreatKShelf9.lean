/- A drawn right forest and an edge. The library's Min over ints; the program's compareTrees and treesAscend. The law's own look at a forest's parts. Whether an edge is in a list: the law's own look. Two lists that are the same are told so. The library's sorting by a comparison, at this program, by the shelf's own laying in plain words. -/
import Derived.Test.YtklalfkdikjkfaaGreatKForest8
import Derived.Test.YtklalfkdikjkfaaGreatKIBack
import Derived.Test.YtklalfkdikjkfaaGreatKITour
import Derived.Test.YtklalfkdikjkfaaGreatKCmp6
import Derived.Test.YtklalfkdikjkfaaGreatKNew7
import Derived.Test.YtklalfkdikjkfaaGreatKBx7
import Derived.Test.YtklalfkdikjkfaaGreatKDraw7
import Derived.Test.YtklalfkdikjkfaaGreatKToInt6
import Derived.Test.YtklalfkdikjkfaaGreatKE6
import Derived.Shelf.SlSortCmp.NoneTotal
import Derived.Test.YtklalfkdikjkfaaGreatProg
namespace Go.Proofs.YtklalfkdikjkfaaGreat
open Go.RowKit

theorem Code.re7 {w u : World} {G G' : Nat} {a : Option Addr} {len : Nat} (h : Code w G a len) (hb : Below w.heap.size w u) (hG : w.heap.size ≤ G') : Code u G' a len := by
  rcases h with h | ⟨b, off, ha, hbl, _, hc⟩
  · exact .inl h
  · refine .inr ⟨b, off, ha, Nat.lt_of_lt_of_le hbl hb.size, by omega, fun j hj => ?_⟩
    obtain ⟨z, hz, hcell⟩ := hc j hj
    exact ⟨z, hz, by rw [hb.cell hbl]; exact hcell⟩
set_option maxRecDepth 100000 in
set_option maxHeartbeats 4000000 in
theorem drawRightForest_any (w : World) (a : Option Addr) (len cap : Nat) (hl : len ≤ 1048576) (hcode : Code w w.heap.size a len) :
    Calls Tryz.prog 9 #[.slice a len cap] w fun x w' => ∃ (nn : Nat) (a' : Option Addr) (m c' : Nat) (ts : List (List Int)) (e : EdgeV), 2 ≤ nn ∧ nn ≤ 12 ∧ Hid (FP (nn : Int) ts) ∧ Hid (eB (nn : Int) e = true) ∧ x = .returned (.tuple #[.agg #[.int .i64 (nn : Int), .slice a' m c'], .agg #[.int .i64 e.1, .int .i64 e.2]]) ∧ Hid (Ts w' w'.heap.size a' m ts) ∧ Below w.heap.size w w' := by
  obtain ⟨W0, hW0⟩ : ∃ W0, W0 = (w.alloc (.cells #[.int .i64 0, .slice none 0 0] 26)).alloc (.cells #[.int .i64 0, .int .i64 0] 28) := ⟨_, rfl⟩
  have hz0 : W0.heap.size = w.heap.size + 2 := by rw [hW0]; simp
  have gb0 : Below w.heap.size w W0 := by rw [hW0]; exact ((Below.refl _ _).alloc (Nat.le_refl _) _).alloc (by simp) _
  have BR1 : Box7 W0 w.heap.size 26 (.int .i64 0) (.slice none 0 0) := by rw [hW0]; exact (Box7.new w _ _ _ _ rfl).alloc _
  have BR2 : Box7 W0 (w.heap.size + 1) 28 (.int .i64 0) (.int .i64 0) := by rw [hW0]; exact Box7.new _ _ _ _ _ (by simp)
  have HN := hideIt (l01New_any W0 a len cap hl (hcode.re7 gb0 gb0.size))
  have HB0 := hideIt gb0
  clear hcode gb0
  rw [hW0] at HN
  go_enter Tryz.func9, Tryz.ntmps9
  go_wp2_with (go_at_call 47; refine HN.out.mono ?_; rw [← hW0]; rintro e w1 ⟨rfl, hc, hd, hb, hs⟩; refine Hid.out ?_)
  refine (show ∀ {p : Prop}, p → Hid p from fun h => h) ?_
  obtain ⟨G, hG⟩ : ∃ G, G = w.heap.size + 1 + 1 := ⟨_, rfl⟩
  have hG0 : W0.heap.size = G := by omega
  rw [hG0] at hc hd
  rw [← hG]
  have hGa : w.heap.size + 1 < G := by omega
  have HT := hideIt (l07Forest_any w1 G a len cap hl hc hd)
  have hz1 := hb.size
  have hGw : G < w1.heap.size := hc.lt7
  have HB1 : Hid (Below w.heap.size w w1) := HB0.out.trans (hb.mono (by omega))
  have BR1a := BR1.up hb
  have BR2a := BR2.up hb
  have hz1w : w.heap.size + 2 ≤ w1.heap.size := by omega
  clear HN hc hd hb hs BR1 BR2 HB0 hW0 hz1 hG0 hG hz0
  go_wp2_with (go_at_call 48; refine HT.out.mono ?_; rintro e w2 ⟨nn, X, a', m, c', ts, hn2, hn12, hP, rfl, HL, d2⟩; refine Hid.out ?_)
  refine (show ∀ {p : Prop}, p → Hid p from fun h => h) ?_
  have BR1b := BR1a.grown d2.grown (by simp; omega)
  have BR2b := BR2a.grown d2.grown (by simp; omega)
  have hz2 := d2.grown.size
  have HB2 : Hid (Below w.heap.size w w2) := HB1.out.trans ((Below.refl w.heap.size w1).grown d2.grown (by omega) (fun j e => by cases e; omega))
  obtain ⟨w3, hw3⟩ : ∃ w3, w3 = w2.alloc (.cells #[.int .i64 (nn : Int), .slice a' m c'] 26) := ⟨_, rfl⟩
  have ga : Below w2.heap.size w2 w3 := by rw [hw3]; exact (Below.refl _ _).alloc (Nat.le_refl _) _
  have B5 : Box7 w3 w2.heap.size 26 (.int .i64 (nn : Int)) (.slice a' m c') := by rw [hw3]; exact Box7.new _ _ _ _ _ rfl
  obtain ⟨b5, hb5⟩ : ∃ b5, b5 = w2.heap.size := ⟨_, rfl⟩
  have BR1c := BR1b.up ga
  have BR2c := BR2b.up ga
  have HD3 := hideIt ((d2.up7 ga).drew7)
  have HT3 := hideIt (HL.out.up ga)
  have HB3 : Hid (Below w.heap.size w w3) := HB2.out.trans (ga.mono HB2.out.size)
  go_upto_region 3 with fail
  rw [← hw3, ← hb5]
  rw [← hb5] at B5
  have hbb : w.heap.size + 2 ≤ b5 := by omega
  have hbG : G < b5 := by omega
  clear HT HL d2 ga HB1 HB2 BR1a BR2a BR1b BR2b hw3 hb5
  have q0 := B5.cell0
  have q1 := B5.cell1
  have HE : Hid (Calls Tryz.prog 49 #[.pointer (some ⟨G, 0, none⟩), .int .i64 (nn : Int)] w3.drew fun x v => ∃ e : EdgeV, Hid (eB (nn : Int) e = true) ∧ x = .returned (.agg #[.int .i64 e.1, .int .i64 e.2]) ∧ Box7 v b5 26 (.int .i64 (nn : Int)) (.slice a' m c') ∧ Box7 v w.heap.size 26 (.int .i64 0) (.slice none 0 0) ∧ Box7 v (w.heap.size + 1) 28 (.int .i64 0) (.int .i64 0) ∧ Hid (TL v w1.heap.size X a' m c' ts ∧ Below w.heap.size w v)) :=
    (l05Edge_any nn hn2 hn12 w3.drew G a len cap hl HD3.out.cur HD3.out.code).mono fun _ v ⟨e, he, hx, d⟩ => ⟨e, he, hx, Box7.grown (w := w3.drew) B5 d.grown (by simp; omega), Box7.grown (w := w3.drew) BR1c d.grown (by simp; omega), Box7.grown (w := w3.drew) BR2c d.grown (by simp; omega), TL.grown (u := w3.drew) (HT3.out.up (Below.refl _ _).drew) d.grown (by omega), HB3.out.drew.trans ((Below.refl w.heap.size w3.drew).grown d.grown (by show w.heap.size ≤ w3.heap.size; have := HB3.out.size; omega) (fun j e => by cases e; omega))⟩
  clear HD3 HT3 HB3 BR1c BR2c B5
  go_region_with ((go_at_call 49; refine HE.out.mono ?_; clear HE; rintro x w4 ⟨e, he, rfl, B5, BR1, BR2, HF⟩; have r0 := B5.cell0; have r1 := B5.cell1; have s0 := BR1.cell0; have s1 := BR1.cell1; have s2 := BR2.cell0; have s3 := BR2.cell1; have t0 := BR1.frozen 0; have t1 := BR1.frozen 1; have t2 := BR2.frozen 0; have t3 := BR2.frozen 1))
  all_goals
    go_wp2
    refine bodyPost_ret (v := .tuple #[.agg #[.int .i64 (nn : Int), .slice a' m c'], .agg #[.int .i64 e.1, .int .i64 e.2]]) (by simp [results, Tryz.results9, go_sem, s0, s1, s2, s3]) rfl ⟨nn, a', m, c', ts, e, hn2, hn12, hP, he, rfl, ?_⟩
    first
      | exact ⟨(((((HF.out.1).grown (grown_set _ w.heap.size 0 _) (by omega)).grown (grown_set _ w.heap.size 1 _) (by omega)).grown (grown_set _ (w.heap.size + 1) 0 _) (by omega)).grown (grown_set _ (w.heap.size + 1) 1 _) (by omega)).ts, ((((HF.out.2).setCell (p := ⟨w.heap.size, 0, none⟩) (by show w.heap.size ≤ w.heap.size; omega) _).setCell (p := ⟨w.heap.size, 1, none⟩) (by show w.heap.size ≤ w.heap.size; omega) _).setCell (p := ⟨(w.heap.size + 1), 0, none⟩) (by show w.heap.size ≤ (w.heap.size + 1); omega) _).setCell (p := ⟨(w.heap.size + 1), 1, none⟩) (by show w.heap.size ≤ (w.heap.size + 1); omega) _⟩
      | exact ⟨(((((HF.out.1).grown (grown_set _ (w.heap.size + 1) 0 _) (by omega)).grown (grown_set _ (w.heap.size + 1) 1 _) (by omega)).grown (grown_set _ w.heap.size 0 _) (by omega)).grown (grown_set _ w.heap.size 1 _) (by omega)).ts, ((((HF.out.2).setCell (p := ⟨(w.heap.size + 1), 0, none⟩) (by show w.heap.size ≤ (w.heap.size + 1); omega) _).setCell (p := ⟨(w.heap.size + 1), 1, none⟩) (by show w.heap.size ≤ (w.heap.size + 1); omega) _).setCell (p := ⟨w.heap.size, 0, none⟩) (by show w.heap.size ≤ w.heap.size; omega) _).setCell (p := ⟨w.heap.size, 1, none⟩) (by show w.heap.size ≤ w.heap.size; omega) _⟩
end Go.Proofs.YtklalfkdikjkfaaGreat
namespace Go.Proofs.YtklalfkdikjkfaaGreat
open Go.RowKit

set_option maxHeartbeats 1000000 in
theorem minI_any (t : List Int) (n : Nat) (a : Option Addr) (c : Nat) (hn : n ≤ 3000000) (h0 : 0 < n) (w : World) (h : Is w w.heap.size a n t) :
    Calls Tryz.prog 150 #[.slice a n c] w fun e w' => ∃ x, e = .returned (.int .i64 x) ∧ (x ∈ t ∧ ∀ y ∈ t, x ≤ y) ∧ w' = w := by
  obtain ⟨hlen, hrow⟩ := h
  rcases hrow with hz | ⟨b, off, rfl, hbl, hc⟩
  · omega
  · obtain ⟨f0, hf0⟩ : ∃ f, t[0]? = some f := ⟨t[0]'(by omega), List.getElem?_eq_getElem (by omega)⟩
    have d0 : decide ((n : Int) < 1) = false := decide_eq_false (by omega)
    have e0 := hc 0 f0 hf0
    rw [Nat.add_zero] at e0
    have q1 : (0 : Int) < (n : Int) := by omega
    have HC := hideIt hc
    have HS : Hid (f0 ∈ t ∧ ∀ (j : Nat) (y : Int), j < 1 → t[j]? = some y → f0 ≤ y) := ⟨List.mem_of_getElem? hf0, fun j y hj hy => by
      obtain rfl : j = 0 := by omega
      rw [hf0] at hy
      cases hy
      exact Int.le_refl _⟩
    clear hc hf0
    go_enter Tryz.func150, Tryz.ntmps150
    go_wp2
    go_loopw [3, 4] (fun m i wr => ∃ (k : Nat) (x : Int), 1 ≤ k ∧ k ≤ n ∧ i = .int .i64 (k : Int) ∧ m = .int .i64 x ∧ Hid (x ∈ t ∧ ∀ (j : Nat) (y : Int), j < k → t[j]? = some y → x ≤ y) ∧ wr = w) (fun _ i _ => n - (intOf i).toNat)
    case atStart => exact ⟨1, f0, by omega, by omega, rfl, rfl, HS, rfl⟩
    case round =>
      obtain ⟨k, x, hk1, hk, rfl, rfl, HX, hw⟩ := hrel
      have hw' := hw.symm
      subst hw'
      clear hw HS e0
      by_cases hlt : k < n
      · obtain ⟨f, hf⟩ : ∃ f, t[k]? = some f := ⟨t[k]'(by omega), List.getElem?_eq_getElem (by omega)⟩
        have e1 := HC.out k f hf
        have b1 : (0 : Int) ≤ (k : Int) := by omega
        have b2 : (k : Int) < (n : Int) := by omega
        have HX2 : Hid (min x f ∈ t ∧ ∀ (j : Nat) (y : Int), j < k + 1 → t[j]? = some y → min x f ≤ y) := by
          obtain ⟨p1, p2⟩ := HX.out
          refine ⟨?_, fun j y hj hy => ?_⟩
          · by_cases hxf : x ≤ f
            · rw [Int.min_eq_left hxf]; exact p1
            · rw [Int.min_eq_right (by omega)]; exact List.mem_of_getElem? hf
          · by_cases hjk : j = k
            · rw [hjk, hf] at hy
              cases hy
              omega
            · have := p2 j y (by omega) hy
              omega
        clear hf HX
        go_wp2
        refine ⟨⟨k + 1, min x f, by omega, by omega, by go_num, ?_, HX2, by first | trivial | rfl⟩, by simp [intOf]; omega⟩
        first | rfl | (congr 1; split <;> omega)
      · obtain rfl : k = n := by omega
        have HX2 : Hid (x ∈ t ∧ ∀ y ∈ t, x ≤ y) := ⟨HX.out.1, fun y hy => by
          obtain ⟨j, hj⟩ := List.mem_iff_getElem?.1 hy
          exact HX.out.2 j y (by have := (List.getElem?_eq_some_iff.1 hj).1; omega) hj⟩
        clear HX
        go_wp2
        go_ret
        exact ⟨x, rfl, HX2.out, rfl⟩

theorem mn_le {t : List Int} (hB : tB t = true) {y : Int} (hy : y ∈ t) : mnV t ≤ y := by
  have hp := vs_pos hB
  have hx : (vsL t)[0]? = some ((vsL t)[0]'hp) := List.getElem?_eq_getElem hp
  rw [mn_first hx]
  obtain ⟨p, hp2⟩ := List.mem_iff_getElem?.1 ((vs_mem_of hB).2 hy)
  obtain ⟨p0, p1⟩ := List.getElem?_eq_some_iff.1 hp2
  by_cases e : p = 0
  · subst e
    rw [← p1]
    exact Int.le_refl _
  · have := List.pairwise_iff_getElem.1 (vsK_asc t 12) 0 p hp p0 (by omega)
    rw [show (vsK t 12)[p]'p0 = y from p1] at this
    exact Int.le_of_lt this
theorem mn_is {t : List Int} (hB : tB t = true) {x : Int} (h : x ∈ t ∧ ∀ y ∈ t, x ≤ y) : x = mnV t := Int.le_antisymm (h.2 _ (mn_mem hB)) (mn_le hB h.1)

theorem compareTrees_any (s t : List Int) (hs : tB s = true) (ht : tB t = true) (a a' : Option Addr) (c c' : Nat) (w : World) (h : Is w w.heap.size a s.length s) (h' : Is w w.heap.size a' t.length t) :
    Calls Tryz.prog 106 #[.slice a s.length c, .slice a' t.length c'] w fun e w' => e = .returned (.int .i64 (cmpI (mnV s) (mnV t))) ∧ w' = w := by
  have l1 := tB_len hs
  have l2 := tB_len ht
  have H1 := hideIt ((minI_any s s.length a c (by omega) (tB_pos hs) w h).mono fun e v ⟨x, he, hx, hv⟩ => (show e = Ending.returned (.int .i64 (mnV s)) ∧ v = w from ⟨by rw [he, mn_is hs hx], hv⟩))
  have H2 := hideIt ((minI_any t t.length a' c' (by omega) (tB_pos ht) w h').mono fun e v ⟨x, he, hx, hv⟩ => (show e = Ending.returned (.int .i64 (mnV t)) ∧ v = w from ⟨by rw [he, mn_is ht hx], hv⟩))
  have HC := hideIt (cmpCompare_any (mnV s) (mnV t) w)
  clear h h'
  go_enter Tryz.func106, Tryz.ntmps106
  go_wp2_with (first | (go_at_call 150; refine H1.out.mono ?_; rintro e w1 ⟨rfl, hw⟩; have hw' := hw.symm; subst hw'; clear hw H1) | (go_at_call 150; refine H2.out.mono ?_; rintro e w1 ⟨rfl, hw⟩; have hw' := hw.symm; subst hw'; clear hw H2) | (go_at_call 117; refine HC.out.mono ?_; rintro e w1 ⟨rfl, hw⟩; have hw' := hw.symm; subst hw'; clear hw))
  go_ret
  exact ⟨rfl, rfl⟩

/-- the tour at i is right, and its least vertex is above that of the one before it -/
def AsAt (ts : List (List Int)) (i : Nat) : Prop := ∀ t, ts[i]? = some t → tB t = true ∧ ∀ j s, j + 1 = i → ts[j]? = some s → mnV s < mnV t
def asP (ts : List (List Int)) : Prop := ∀ i, AsAt ts i
theorem cmpI_ge (x y : Int) : decide (0 ≤ cmpI x y) = !decide (x < y) := by
  by_cases h : x < y
  · have := (cmpI_neg x y).2 h
    rw [decide_eq_true h]
    exact decide_eq_false (by omega)
  · have := mt (cmpI_neg x y).1 h
    rw [decide_eq_false h]
    exact decide_eq_true (by omega)

set_option maxRecDepth 100000 in
set_option maxHeartbeats 4000000 in
theorem treesAscend_any (ts : List (List Int)) (n : Nat) (a : Option Addr) (c : Nat) (hn : n ≤ 3000000) (hm : ∀ t ∈ ts, t.length ≤ 3000000) (w : World) (h : Ts w w.heap.size a n ts) :
    Calls Tryz.prog 56 #[.slice a n c] w fun e w' => ∃ b, e = .returned (.bool b) ∧ (b = true ↔ asP ts) ∧ Below w.heap.size w w' := by
  have hlen := h.1
  have HA := hideIt h
  clear h
  go_enter Tryz.func56, Tryz.ntmps56
  go_wp2
  go_loopw [6] (fun i wr => ∃ k : Nat, k ≤ n ∧ i = .int .i64 (k : Int) ∧ Hid (∀ j, j < k → AsAt ts j) ∧ Good w wr) (fun i _ => n - (intOf i).toNat)
  case atStart => exact ⟨0, by omega, rfl, fun j hj => by omega, Good.refl _⟩
  case round =>
    obtain ⟨k, hk, rfl, HK, hg⟩ := hrel
    by_cases hlt : k < n
    · rcases (HA.out.up hg).2 with hz | ⟨b, off, rfl, hbl, hc⟩
      · omega
      · obtain ⟨t, ht⟩ : ∃ t, ts[k]? = some t := ⟨ts[k]'(by omega), List.getElem?_eq_getElem (by omega)⟩
        obtain ⟨x, cx, e0, i0, _⟩ := hc k t ht
        have b1 : (0 : Int) ≤ (k : Int) := by omega
        have b2 : (k : Int) < (n : Int) := by omega
        have HG := hideIt (fun u (hu : Good wr u) => hg.up hu)
        have hbd := (Good.refl wr).drew
        have HE := hideIt (fun W (hW : Good wr W) => (iTourOk_any t t.length x cx (hm t (List.mem_of_getElem? ht)) W (i0.up hW)).mono fun e v ⟨he, hb⟩ => (show e = Ending.returned (.bool (tB t)) ∧ Good wr v from ⟨he, hW.up hb⟩))
        cases hB : tB t with
        | false =>
          rw [hB] at HE
          have HN : Hid (¬ asP ts) := fun hp => by have := (hp k t ht).1; rw [hB] at this; cases this
          clear hc ht i0 hB HK
          go_wp2
          refine wp_region_any (by kernel_rfl) ?_
          change wpAny _ _ _ _ _ _ _ (World.drew _)
          refine takeOp (i := 0) (v := ?_) rfl (by kernel_rfl) (by kernel_rfl) (by kernel_rfl) (fun _ _ _ h => h) (by kernel_rfl) ?_ ?_
          rotate_left
          · intro w; go_simp; try with_reducible rfl
          refine wpAny_ready (rs := [1]) (by kernel_rfl) (by simp) ?_
          refine AllReady.cons rfl (fun K hK => ?_) AllReady.nil
          go_simp
          refine hK _ _ ?_
          clear hK K
          refine wpAny_ready (rs := [2]) (by kernel_rfl) (by simp) ?_
          refine AllReady.cons rfl (fun K hK => ?_) AllReady.nil
          go_simp
          refine hK _ _ ?_
          clear hK K
          refine wpAny_ready (rs := [3]) (by kernel_rfl) (by simp) ?_
          refine AllReady.cons rfl (fun K hK => ?_) AllReady.nil
          go_simp
          refine hK _ _ ?_
          clear hK K
          refine wpAny_ready (rs := [4]) (by kernel_rfl) (by simp) ?_
          refine AllReady.cons rfl (fun K hK => ?_) AllReady.nil
          go_wp2_with (go_at_call 103; refine (HE.out _ hbd).mono ?_; rintro e w1 ⟨rfl, hg1⟩; refine Hid.out ?_)
          refine (show ∀ {p : Prop}, p → Hid p from fun h => h) ?_
          try refine hK _ _ ?_
          clear hK K
          refine wpAny_ready (rs := [5]) (by kernel_rfl) (by simp) ?_
          refine AllReady.cons rfl (fun K hK => ?_) AllReady.nil
          go_simp
          refine hK _ _ ?_
          clear hK K
          refine wpAny_ready (rs := [6]) (by kernel_rfl) (by simp) ?_
          refine AllReady.cons rfl (fun K hK => ?_) AllReady.nil
          go_simp
          refine hK _ _ ?_
          clear hK K
          refine skipOp (i := 7) rfl (by kernel_rfl) (by kernel_rfl) (by kernel_rfl) (fun _ _ _ h => h) (by kernel_rfl) ?_
          refine skipOp (i := 8) rfl (by kernel_rfl) (by kernel_rfl) (by kernel_rfl) (fun _ _ _ h => h) (by kernel_rfl) ?_
          refine skipOp (i := 9) rfl (by kernel_rfl) (by kernel_rfl) (by kernel_rfl) (fun _ _ _ h => h) (by kernel_rfl) ?_
          refine skipOp (i := 10) rfl (by kernel_rfl) (by kernel_rfl) (by kernel_rfl) (fun _ _ _ h => h) (by kernel_rfl) ?_
          refine skipOp (i := 11) rfl (by kernel_rfl) (by kernel_rfl) (by kernel_rfl) (fun _ _ _ h => h) (by kernel_rfl) ?_
          refine skipOp (i := 12) rfl (by kernel_rfl) (by kernel_rfl) (by kernel_rfl) (fun _ _ _ h => h) (by kernel_rfl) ?_
          refine skipOp (i := 13) rfl (by kernel_rfl) (by kernel_rfl) (by kernel_rfl) (fun _ _ _ h => h) (by kernel_rfl) ?_
          refine skipOp (i := 14) rfl (by kernel_rfl) (by kernel_rfl) (by kernel_rfl) (fun _ _ _ h => h) (by kernel_rfl) ?_
          refine skipOp (i := 15) rfl (by kernel_rfl) (by kernel_rfl) (by kernel_rfl) (fun _ _ _ h => h) (by kernel_rfl) ?_
          refine skipOp (i := 16) rfl (by kernel_rfl) (by kernel_rfl) (by kernel_rfl) (fun _ _ _ h => h) (by kernel_rfl) ?_
          refine skipOp (i := 17) rfl (by kernel_rfl) (by kernel_rfl) (by kernel_rfl) (fun _ _ _ h => h) (by kernel_rfl) ?_
          refine skipOp (i := 18) rfl (by kernel_rfl) (by kernel_rfl) (by kernel_rfl) (fun _ _ _ h => h) (by kernel_rfl) ?_
          refine skipOp (i := 19) rfl (by kernel_rfl) (by kernel_rfl) (by kernel_rfl) (fun _ _ _ h => h) (by kernel_rfl) ?_
          refine skipOp (i := 20) rfl (by kernel_rfl) (by kernel_rfl) (by kernel_rfl) (fun _ _ _ h => h) (by kernel_rfl) ?_
          refine skipOp (i := 21) rfl (by kernel_rfl) (by kernel_rfl) (by kernel_rfl) (fun _ _ _ h => h) (by kernel_rfl) ?_
          refine wpAny_ready (rs := [22]) (by kernel_rfl) (by simp) ?_
          refine AllReady.cons rfl (fun K hK => ?_) AllReady.nil
          go_simp
          refine hK _ _ ?_
          clear hK K
          refine wpAny_done (by kernel_rfl) ?_ _
          go_wp2
          go_ret
          exact ⟨false, rfl, ⟨fun h => (by cases h), fun h => absurd h HN.out⟩, HG.out _ hg1⟩
        | true =>
          rw [hB] at HE
          rcases k with _ | i
          · have HY : Hid (AsAt ts 0) := fun t' ht' => by
              rw [ht] at ht'
              cases ht'
              exact ⟨hB, fun j s hj => by omega⟩
            rw [Nat.add_zero] at e0
            clear hc ht i0 hB
            go_wp2
            refine wp_region_any (by kernel_rfl) ?_
            change wpAny _ _ _ _ _ _ _ (World.drew _)
            refine takeOp (i := 0) (v := ?_) rfl (by kernel_rfl) (by kernel_rfl) (by kernel_rfl) (fun _ _ _ h => h) (by kernel_rfl) ?_ ?_
            rotate_left
            · intro w; go_simp; try with_reducible rfl
            refine wpAny_ready (rs := [1]) (by kernel_rfl) (by simp) ?_
            refine AllReady.cons rfl (fun K hK => ?_) AllReady.nil
            go_simp
            refine hK _ _ ?_
            clear hK K
            refine wpAny_ready (rs := [2]) (by kernel_rfl) (by simp) ?_
            refine AllReady.cons rfl (fun K hK => ?_) AllReady.nil
            go_simp
            refine hK _ _ ?_
            clear hK K
            refine wpAny_ready (rs := [3]) (by kernel_rfl) (by simp) ?_
            refine AllReady.cons rfl (fun K hK => ?_) AllReady.nil
            go_simp
            refine hK _ _ ?_
            clear hK K
            refine wpAny_ready (rs := [4]) (by kernel_rfl) (by simp) ?_
            refine AllReady.cons rfl (fun K hK => ?_) AllReady.nil
            go_wp2_with (go_at_call 103; refine (HE.out _ hbd).mono ?_; rintro e w1 ⟨rfl, hg1⟩; refine Hid.out ?_)
            refine (show ∀ {p : Prop}, p → Hid p from fun h => h) ?_
            try refine hK _ _ ?_
            clear hK K
            refine wpAny_ready (rs := [5]) (by kernel_rfl) (by simp) ?_
            refine AllReady.cons rfl (fun K hK => ?_) AllReady.nil
            go_simp
            refine hK _ _ ?_
            clear hK K
            refine wpAny_ready (rs := [6]) (by kernel_rfl) (by simp) ?_
            refine AllReady.cons rfl (fun K hK => ?_) AllReady.nil
            go_simp
            refine hK _ _ ?_
            clear hK K
            refine wpAny_ready (rs := [7]) (by kernel_rfl) (by simp) ?_
            refine AllReady.cons rfl (fun K hK => ?_) AllReady.nil
            go_simp
            refine hK _ _ ?_
            clear hK K
            refine wpAny_ready (rs := [8]) (by kernel_rfl) (by simp) ?_
            refine AllReady.cons rfl (fun K hK => ?_) AllReady.nil
            go_simp
            refine hK _ _ ?_
            clear hK K
            refine wpAny_ready (rs := [9]) (by kernel_rfl) (by simp) ?_
            refine AllReady.cons rfl (fun K hK => ?_) AllReady.nil
            go_simp
            refine hK _ _ ?_
            clear hK K
            refine skipOp (i := 10) rfl (by kernel_rfl) (by kernel_rfl) (by kernel_rfl) (fun _ _ _ h => h) (by kernel_rfl) ?_
            refine skipOp (i := 11) rfl (by kernel_rfl) (by kernel_rfl) (by kernel_rfl) (fun _ _ _ h => h) (by kernel_rfl) ?_
            refine skipOp (i := 12) rfl (by kernel_rfl) (by kernel_rfl) (by kernel_rfl) (fun _ _ _ h => h) (by kernel_rfl) ?_
            refine skipOp (i := 13) rfl (by kernel_rfl) (by kernel_rfl) (by kernel_rfl) (fun _ _ _ h => h) (by kernel_rfl) ?_
            refine skipOp (i := 14) rfl (by kernel_rfl) (by kernel_rfl) (by kernel_rfl) (fun _ _ _ h => h) (by kernel_rfl) ?_
            refine skipOp (i := 15) rfl (by kernel_rfl) (by kernel_rfl) (by kernel_rfl) (fun _ _ _ h => h) (by kernel_rfl) ?_
            refine skipOp (i := 16) rfl (by kernel_rfl) (by kernel_rfl) (by kernel_rfl) (fun _ _ _ h => h) (by kernel_rfl) ?_
            refine skipOp (i := 17) rfl (by kernel_rfl) (by kernel_rfl) (by kernel_rfl) (fun _ _ _ h => h) (by kernel_rfl) ?_
            refine skipOp (i := 18) rfl (by kernel_rfl) (by kernel_rfl) (by kernel_rfl) (fun _ _ _ h => h) (by kernel_rfl) ?_
            refine skipOp (i := 19) rfl (by kernel_rfl) (by kernel_rfl) (by kernel_rfl) (fun _ _ _ h => h) (by kernel_rfl) ?_
            refine skipOp (i := 20) rfl (by kernel_rfl) (by kernel_rfl) (by kernel_rfl) (fun _ _ _ h => h) (by kernel_rfl) ?_
            refine wpAny_ready (rs := [21]) (by kernel_rfl) (by simp) ?_
            refine AllReady.cons rfl (fun K hK => ?_) AllReady.nil
            go_simp
            refine hK _ _ ?_
            clear hK K
            refine wpAny_ready (rs := [22]) (by kernel_rfl) (by simp) ?_
            refine AllReady.cons rfl (fun K hK => ?_) AllReady.nil
            go_simp
            refine hK _ _ ?_
            clear hK K
            refine wpAny_done (by kernel_rfl) ?_ _
            go_wp2
            exact ⟨⟨1, by omega, by go_num, fun j hj => by
              obtain rfl : j = 0 := by omega
              exact HY.out, HG.out _ hg1⟩, by simp [intOf]; omega⟩
          · obtain ⟨s, hs⟩ : ∃ s, ts[i]? = some s := ⟨ts[i]'(by omega), List.getElem?_eq_getElem (by omega)⟩
            obtain ⟨y, cy, e1, i1, _⟩ := hc i s hs
            have hBs := (HK.out i (by omega) s hs).1
            have HL := hideIt (fun W (hW : Good wr W) => (compareTrees_any s t hBs hB y x cy cx W (i1.up hW) (i0.up hW)).mono fun e v ⟨he, hb⟩ => (show e = Ending.returned (.int .i64 (cmpI (mnV s) (mnV t))) ∧ Good wr v from ⟨he, by rw [hb]; exact hW⟩))
            have HC : Hid (∀ u, Good wr u → u.cell? ⟨b, off + (i + 1), none⟩ = some (.slice x t.length cx) ∧ u.cell? ⟨b, off + i, none⟩ = some (.slice y s.length cy)) := fun u hu => ⟨by rw [hu.cell hbl]; exact e0, by rw [hu.cell hbl]; exact e1⟩
            have hS0 := HC.out _ hbd
            have ek : ((i + 1 : Nat) : Int) = (i : Int) + 1 := by omega
            rw [ek] at b1 b2
            have b3 : (0 : Int) ≤ (i : Int) := by omega
            have b4 : (i : Int) < (n : Int) := by omega
            have tn : ((i : Int) + 1).toNat = i + 1 := by omega
            have d0 : decide ((0 : Int) < (i : Int) + 1) = true := decide_eq_true (by omega)
            have hw1 : IntKind.i64.wrap (i : Int) = (i : Int) := by rw [IntKind.wrap_i64]; omega
            rw [ek]
            have dc := cmpI_ge (mnV s) (mnV t)
            by_cases hL : mnV s < mnV t
            · rw [decide_eq_true hL] at dc
              have HY : Hid (AsAt ts (i + 1)) := fun t' ht' => by
                rw [ht] at ht'
                cases ht'
                exact ⟨hB, fun j s' hj hs' => by
                  obtain rfl : j = i := by omega
                  rw [hs] at hs'
                  cases hs'
                  exact hL⟩
              clear ek hc ht hs i0 i1 hB hBs hL e0 e1
              generalize cmpI (mnV s) (mnV t) = cv at HL dc
              go_wp2
              go_region_held3 (fun u => u.cell? ⟨b, off + (i + 1), none⟩ = some (.slice x t.length cx) ∧ u.cell? ⟨b, off + i, none⟩ = some (.slice y s.length cy))
                (first | assumption)
                (first
                | (go_at_call 103; refine (HE.out _ hbd).mono ?_; rintro e w1 ⟨rfl, hg1⟩; have hS1 := HC.out _ hg1)
                | (go_at_call 106; refine (HL.out _ hg1).mono ?_; rintro e w2 ⟨rfl, hg2⟩; have hS2 := HC.out _ hg2))
              all_goals
                go_wp2
                exact ⟨⟨i + 2, by omega, by go_num, fun j hj => by
                  by_cases hji : j = i + 1
                  · subst hji; exact HY.out
                  · exact HK.out j (by omega), HG.out _ hg2⟩, by simp [intOf]; omega⟩
            · rw [decide_eq_false hL] at dc
              have HN : Hid (¬ asP ts) := fun hp => hL ((hp (i + 1) t ht).2 i s rfl hs)
              clear ek hc ht hs i0 i1 hB hBs hL e0 e1
              generalize cmpI (mnV s) (mnV t) = cv at HL dc
              go_wp2
              go_region_held3 (fun u => u.cell? ⟨b, off + (i + 1), none⟩ = some (.slice x t.length cx) ∧ u.cell? ⟨b, off + i, none⟩ = some (.slice y s.length cy))
                (first | assumption)
                (first
                | (go_at_call 103; refine (HE.out _ hbd).mono ?_; rintro e w1 ⟨rfl, hg1⟩; have hS1 := HC.out _ hg1)
                | (go_at_call 106; refine (HL.out _ hg1).mono ?_; rintro e w2 ⟨rfl, hg2⟩; have hS2 := HC.out _ hg2))
              all_goals
                go_wp2
                go_ret
                exact ⟨false, rfl, ⟨fun h => (by cases h), fun h => absurd h HN.out⟩, HG.out _ hg2⟩
    · obtain rfl : k = n := by omega
      have HY : Hid (asP ts) := fun i t ht => HK.out i (by have := (List.getElem?_eq_some_iff.1 ht).1; omega) t ht
      clear HK
      go_wp2
      go_ret
      exact ⟨true, rfl, ⟨fun _ => HY.out, fun _ => rfl⟩, hg⟩
end Go.Proofs.YtklalfkdikjkfaaGreat
namespace Go.Proofs.YtklalfkdikjkfaaGreat
open Go.RowKit

/-- for each vertex the least one of its tree -/
def PL (N : Nat) (ts : List (List Int)) (L : List Int) : Prop := L.length = N ∧ ∀ x : Nat, x < N → ∃ y, L[x]? = some y ∧ Prt ts (x : Int) y
theorem PL.same {N : Nat} {f h : List (List Int)} {L M : List Int} (hf : PL N f L) (hh : PL N h M) (hP : FP (N : Int) f) (hi : ∀ x m, Prt h x m ↔ Prt f x m) : M = L := by
  refine List.ext_getElem? fun x => ?_
  by_cases hx : x < N
  · obtain ⟨y, h1, h2⟩ := hf.2 x hx
    obtain ⟨z, h3, h4⟩ := hh.2 x hx
    rw [h1, h3, Prt.uniq hP.q ((hi _ _).1 h4) h2]
  · rw [List.getElem?_eq_none (by rw [hh.1]; omega), List.getElem?_eq_none (by rw [hf.1]; omega)]
/-- of the first i tours -/
def PA (N : Nat) (ts : List (List Int)) (i : Nat) (xs : List Value) : Prop := xs.length = N ∧ ∀ j t, j < i → ts[j]? = some t → ∀ x : Nat, (x : Int) ∈ t → xs[x]? = some (.int .i64 (mnV t))
/-- and of the first k vertices of tour t -/
def PB (N : Nat) (ts : List (List Int)) (i : Nat) (t : List Int) (k : Nat) (xs : List Value) : Prop := PA N ts i xs ∧ ∀ q (x : Nat), q < k → (vsL t)[q]? = some (x : Int) → xs[x]? = some (.int .i64 (mnV t))
theorem PB.step {N : Nat} {ts : List (List Int)} (hq : FQ (N : Int) ts) {i k x : Nat} {t : List Int} {xs : List Value} (hi : ts[i]? = some t) (h : PB N ts i t k xs) (hx : (vsL t)[k]? = some (x : Int)) (hxN : x < N) : PB N ts i t (k + 1) (xs.set x (.int .i64 (mnV t))) := by
  have hxt : (x : Int) ∈ t := ((vsL_mem t _).1 (List.mem_of_getElem? hx)).2
  refine ⟨⟨by rw [List.length_set]; exact h.1.1, fun j s hj hs y hy => ?_⟩, fun q y hqk hy => ?_⟩
  · have hne : x ≠ y := fun e => by
      subst e
      have := hq.place hi hs hxt hy
      omega
    rw [List.getElem?_set_ne hne]
    exact h.1.2 j s hj hs y hy
  · by_cases e : x = y
    · subst e
      rw [List.getElem?_set_self (by rw [h.1.1]; exact hxN)]
    · rw [List.getElem?_set_ne e]
      refine h.2 q y ?_ hy
      have : q ≠ k := fun e2 => by
        subst e2
        rw [hx] at hy
        simp at hy
        omega
      omega
theorem PB.done {N : Nat} {ts : List (List Int)} {i k : Nat} {t : List Int} {xs : List Value} (hi : ts[i]? = some t) (h : PB N ts i t k xs) (hk : (vsL t).length ≤ k) (hv : ∀ x ∈ t, vB x = true) : PA N ts (i + 1) xs := by
  refine ⟨h.1.1, fun j s hj hs y hy => ?_⟩
  by_cases e : j = i
  · subst e
    rw [hi] at hs
    cases hs
    obtain ⟨q, hq⟩ := List.mem_iff_getElem?.1 ((vsL_mem t _).2 ⟨hv _ hy, hy⟩)
    exact h.2 q y (by have := (List.getElem?_eq_some_iff.1 hq).1; omega) hq
  · exact h.1.2 j s (by omega) hs y hy
theorem PA.done {N : Nat} {ts : List (List Int)} {xs : List Value} (hq : FQ (N : Int) ts) (h : PA N ts ts.length xs) : ∃ L, ic L = xs ∧ PL N ts L := by
  have hall : ∀ x : Nat, x < N → ∃ y, xs[x]? = some (.int .i64 y) ∧ Prt ts (x : Int) y := fun x hx => by
    obtain ⟨t, ht, hxt⟩ := hq.cover (x := (x : Int)) (by omega) (by omega)
    obtain ⟨j, hj⟩ := List.mem_iff_getElem?.1 ht
    exact ⟨mnV t, h.2 j t (List.getElem?_eq_some_iff.1 hj).1 hj x hxt, t, ht, hxt, rfl⟩
  refine ⟨xs.map intOf, ?_, by rw [List.length_map]; exact h.1, fun x hx => ?_⟩
  · refine List.ext_getElem? fun x => ?_
    by_cases hx : x < N
    · obtain ⟨y, h1, _⟩ := hall x hx
      simp [ic, h1, intOf]
    · rw [List.getElem?_eq_none (by rw [ic_len, List.length_map, h.1]; omega), List.getElem?_eq_none (by rw [h.1]; omega)]
  · obtain ⟨y, h1, h2⟩ := hall x hx
    exact ⟨y, by simp [h1, intOf], h2⟩

theorem vs_le12 (t : List Int) : (vsL t).length ≤ 12 := by
  have h := nd_sub (b := (List.range 12).map fun j : Nat => (j : Int)) (vs_nodup t) fun y hy => by
    have h1 := of_decide_eq_true (show decide (0 ≤ y ∧ y < 12) = true from ((vsL_mem t y).1 hy).1)
    exact List.mem_map.2 ⟨y.toNat, List.mem_range.2 (by omega), by omega⟩
  simpa using h
/-- where the look stands -/
structure PSt8 (w : World) (N : Nat) (a : Option Addr) (m c : Nat) (xs : List Value) (u : World) : Prop where
  box : Box7 u w.heap.size 26 (.int .i64 (N : Int)) (.slice a m c)
  own : u.ownsRow w.heap.size 3 1 (.slice (some ⟨w.heap.size + 1, 0, none⟩) N N) N xs
  bel : Below w.heap.size w u
theorem PSt8.up {w : World} {N : Nat} {a : Option Addr} {m c : Nat} {xs : List Value} {u v : World} (h : PSt8 w N a m c xs u) (hb : Below u.heap.size u v) : PSt8 w N a m c xs v :=
  ⟨h.box.up hb, own_up h.own hb, h.bel.trans (hb.mono h.bel.size)⟩
theorem PSt8.set {w : World} {N : Nat} {a : Option Addr} {m c : Nat} {xs : List Value} {u : World} (h : PSt8 w N a m c xs u) (x : Nat) (v : Value) : PSt8 w N a m c (xs.set x v) (u.setCell ⟨w.heap.size + 1, x, none⟩ v) :=
  ⟨h.box.setOther v (by omega), (h.own.stored x v).1, h.bel.setCell (p := ⟨w.heap.size + 1, x, none⟩) (by show w.heap.size ≤ w.heap.size + 1; omega) v⟩
set_option maxRecDepth 100000 in
set_option maxHeartbeats 4000000 in
theorem parts_any (N : Nat) (ts : List (List Int)) (hP : FP (N : Int) ts) (m : Nat) (a : Option Addr) (c : Nat) (w : World) (h : Ts w w.heap.size a m ts) :
    Calls Tryz.prog 18 #[.agg #[.int .i64 (N : Int), .slice a m c]] w fun e w' => ∃ g L, e = .returned (.slice (some ⟨g, 0, none⟩) N N) ∧ Hid (PL N ts L) ∧ Is w' w'.heap.size (some ⟨g, 0, none⟩) N L ∧ Below w.heap.size w w' := by
  obtain ⟨i0, hi, hz0, hz1, hz2⟩ := info_parts info3i
  have hN12 : N ≤ 12 := by have := hP.2.1; omega
  have hm12 : m ≤ 12 := by have := hP.2.2.1; have := h.1; omega
  have hmk : ∀ u : World, (Instr.makeSlice 39 (.int .i64 (N : Int)) (.int .i64 (N : Int))).run Tryz.prog u =
      .ok (.slice (some ⟨u.heap.size, 0, none⟩) N N) (u.alloc (.cells (madeCells #[.int .i64 0] N) 3)) := fun u => by
    have h := run_make (P := Tryz.prog) u 39 3 i0 _ Tryz.underlying39 hi hz0 .i64 .i64 (N : Int) (N : Int) (by omega) (by omega) (by rw [hz2]; omega) (by omega)
    rw [Int.toNat_natCast] at h
    simpa [hz1, Value.cells] using h
  have HP := hideIt hP
  have HA := hideIt h
  have S0 : PSt8 w N a m c (madeCells #[.int .i64 0] N).toList ((w.alloc (.cells #[.int .i64 (N : Int), .slice a m c] 26)).alloc (.cells (madeCells #[.int .i64 0] N) 3)) := by
    have ho := World.ownsRow_lit (base := w.heap.size) (e := 3) (size := 1) (w.alloc (.cells #[.int .i64 (N : Int), .slice a m c] 26)) (madeCells #[.int .i64 0] N) N (by simp) (by unfold maxLen; omega) (by simp [madeCells])
    rw [show (w.alloc (.cells #[.int .i64 (N : Int), .slice a m c] 26)).heap.size = w.heap.size + 1 by simp] at ho
    exact ⟨(Box7.new w _ _ _ _ rfl).alloc _, ho, ((Below.refl _ _).alloc (Nat.le_refl _) _).alloc (by simp) _⟩
  have HA0 : Hid (PA N ts 0 (madeCells #[.int .i64 0] N).toList) := ⟨by have := S0.own.1; omega, fun j t hj => by omega⟩
  clear h hP
  go_enter Tryz.func18, Tryz.ntmps18
  go_wp2
  go_loopw [4] (fun i wr => ∃ (k : Nat) (xs : List Value), k ≤ m ∧ i = .int .i64 (k : Int) ∧ Hid (PA N ts k xs) ∧ PSt8 w N a m c xs wr) (fun i _ => m - (intOf i).toNat)
  case atStart => exact ⟨0, _, by omega, rfl, HA0, S0⟩
  case round =>
    obtain ⟨k, xs, hk, rfl, HK, hst⟩ := hrel
    clear S0 HA0 hmk
    have q0 := hst.box.cell0
    have q1 := hst.box.cell1
    by_cases hlt : k < m
    · have HA1 := HA.out.up hst.bel
      rcases HA1.2 with hz | ⟨b, off, rfl, hbl, hc⟩
      · omega
      · obtain ⟨t, ht⟩ : ∃ t, ts[k]? = some t := ⟨ts[k]'(by have := HA1.1; omega), List.getElem?_eq_getElem (by have := HA1.1; omega)⟩
        obtain ⟨a2, c2, e0, hI, _⟩ := hc k t ht
        have htm := List.mem_of_getElem? ht
        have hB := (HP.out.q.1 t htm).1
        have b1 : (0 : Int) ≤ (k : Int) := by omega
        have b2 : (k : Int) < (m : Int) := by omega
        have HV := hideIt (sVertsOf_any t t.length a2 c2 (by have := tB_len hB; omega) wr hI)
        have HT := hideIt ht
        have HTB := hideIt hB
        have HTN := hideIt (HP.out.q.1 t htm).2
        have HST := hideIt hst
        obtain ⟨nt, hnt⟩ : ∃ nt, nt = t.length := ⟨_, rfl⟩
        rw [← hnt] at e0 HV
        clear hc ht hI htm hB HA1 hnt hst
        go_wp2_with (go_at_call 63; refine HV.out.mono ?_; rintro e w2 ⟨av, mv, cv, rfl, hov, hb2⟩; refine Hid.out ?_)
        refine (show ∀ {p : Prop}, p → Hid p from fun h => h) ?_
        have hmv : (vsL t).length = mv := by have := hov.1; rw [ic_len] at this; omega
        have HMV := hideIt hmv
        have hmv0 : 0 < mv := by
          have h1 := List.length_pos_of_mem ((vsL_mem t _).2 ⟨((tB_iff t).1 HTB.out).1 _ (mn_mem HTB.out), mn_mem HTB.out⟩)
          omega
        have hmv12 : mv ≤ 12 := by rw [← hmv]; exact vs_le12 t
        obtain ⟨gv, cv2, hform, _, _⟩ := hov.form (by omega)
        simp at hform
        obtain ⟨rfl, rfl⟩ := hform
        obtain ⟨z, hzz⟩ : ∃ z, z = mnV t := ⟨_, rfl⟩
        have hz0' : (ic (vsL t))[0]? = some (.int .i64 z) := by
          cases hv : vsL t with
          | nil => rw [hv] at hmv; simp at hmv; omega
          | cons y r =>
            have : mnV t = y := by unfold mnV; rw [hv]; rfl
            simp [ic, hzz, this]
        have S2 := hideIt (HST.out.up hb2)
        have gvl : w.heap.size + 1 < gv := by
          have h1 := (hov.lt gv rfl).1
          have h2 := (HST.out.own.lt (w.heap.size + 1) rfl).2
          omega
        have hwr : w.heap.size + 2 ≤ wr.heap.size := (HST.out.own.lt (w.heap.size + 1) rfl).2
        have HOV := hideIt hov
        have HZ0 := hideIt hz0'
        have HZZ := hideIt hzz
        have HB0 : Hid (PB N ts k t 0 xs) := ⟨HK.out, fun q x hq => by omega⟩
        clear HV hb2 HST HK e0 q0 q1 hov hz0' hzz hmv
        go_wp2
        go_loopw [6] (fun i wr => ∃ (j : Nat) (xs : List Value), j ≤ mv ∧ i = .int .i64 (j : Int) ∧ Hid (PB N ts k t j xs) ∧ Hid (PSt8 w N (some ⟨b, off, none⟩) m c xs wr) ∧ Hid (wr.ownsRow (w.heap.size + 2) 3 1 (.slice (some ⟨gv, 0, none⟩) mv cv) mv (ic (vsL t)))) (fun i _ => mv - (intOf i).toNat)
        case atStart => exact ⟨0, xs, by omega, rfl, HB0, S2, own_mono HOV.out hwr⟩
        case round =>
          obtain ⟨j, ys, hj, rfl, HJ, HS, HO⟩ := hrel
          clear S2 HB0 HOV
          have q0 := HS.out.box.cell0
          have q1 := HS.out.box.cell1
          by_cases hjl : j < mv
          · obtain ⟨x, hx⟩ : ∃ x, (vsL t)[j]? = some x := ⟨(vsL t)[j]'(by rw [HMV.out]; omega), List.getElem?_eq_getElem (by rw [HMV.out]; omega)⟩
            have hxm := (vsL_mem t x).1 (List.mem_of_getElem? hx)
            have hx0 := of_decide_eq_true (show decide (0 ≤ x ∧ x < 12) = true from hxm.1)
            have hxN := HTN.out x hxm.2
            obtain ⟨xn, rfl⟩ : ∃ xn : Nat, x = (xn : Int) := ⟨x.toNat, by omega⟩
            have e0 : wr.cell? ⟨gv, j, none⟩ = some (.int .i64 (xn : Int)) := (HO.out.cellAt j (by omega)).trans (ic_at hx)
            have e1 : wr.cell? ⟨gv, 0, none⟩ = some (.int .i64 z) := (HO.out.cellAt 0 (by omega)).trans HZ0.out
            have b3 : (0 : Int) ≤ (j : Int) := by omega
            have b4 : (j : Int) < (mv : Int) := by omega
            have b5 : (0 : Int) ≤ (xn : Int) := by omega
            have b6 : (0 : Int) < (mv : Int) := by omega
            have hxN' : xn < N := by omega
            have d1 : decide ((xn : Int) < (N : Int)) = true := decide_eq_true (by omega)
            have hyl : ys.length = N := HJ.out.1.1
            have f0 := HS.out.own.frozenAt xn
            have x0 : wr.cell? ⟨w.heap.size + 1, xn, none⟩ = some (ys[xn]'(by omega)) := by rw [HS.out.own.cellAt xn (by omega)]; exact List.getElem?_eq_getElem (by omega)
            have HJ2 := hideIt (HJ.out.step HP.out.q HT.out hx hxN')
            have HS2 : Hid (∀ n, PSt8 w N (some ⟨b, off, none⟩) m c (ys.set xn (.int .i64 z)) ((wr.drewN n).setCell ⟨w.heap.size + 1, xn, none⟩ (.int .i64 z))) := fun n => PSt8.set (HS.out.up (below_drewN (Below.refl _ _) n)) xn (.int .i64 z)
            have HO2 : Hid (∀ n, ((wr.drewN n).setCell ⟨w.heap.size + 1, xn, none⟩ (.int .i64 z)).ownsRow (w.heap.size + 2) 3 1 (.slice (some ⟨gv, 0, none⟩) mv cv) mv (ic (vsL t))) := fun n => World.ownsRow.kept (own_up HO.out (below_drewN (Below.refl _ _) n)) (grown_set _ (w.heap.size + 1) xn (.int .i64 z)) (.inr fun e => by simp [Value.ownBlock] at e; omega)
            rw [← HZZ.out] at HJ2
            obtain ⟨y0, hy0⟩ : ∃ y0, wr.cell? ⟨w.heap.size + 1, xn, none⟩ = some y0 := ⟨_, x0⟩
            clear hx hxm hx0 hxN HJ HS HO x0 hyl
            go_wp2
            go_quiet (fail)
            go_wp2
            go_region
            all_goals
              go_wp2
              exact ⟨⟨j + 1, _, by omega, by go_num, HJ2, HS2.out _, HO2.out _⟩, by simp [intOf]; omega⟩
          · obtain rfl : j = mv := by omega
            have HA2 := hideIt (HJ.out.done HT.out (by rw [HMV.out]; omega) ((tB_iff t).1 HTB.out).1)
            clear HJ HO
            have hs := HS.out
            go_wp2
            exact ⟨⟨k + 1, ys, by omega, by go_num, HA2, hs⟩, by simp [intOf]; omega⟩
    · obtain rfl : k = m := by omega
      have hl : ts.length = k := HA.out.1
      obtain ⟨L, hL, hPL⟩ := PA.done HP.out.q (hl ▸ HK.out)
      subst hL
      have HR : Hid (Is wr wr.heap.size (some ⟨w.heap.size + 1, 0, none⟩) N L ∧ Below w.heap.size w wr) := ⟨Is_of_own hst.own, hst.bel⟩
      have HPL := hideIt hPL
      clear hPL HK hst hl
      go_wp2
      go_ret
      exact ⟨_, L, rfl, HPL, HR.out.1, HR.out.2⟩
end Go.Proofs.YtklalfkdikjkfaaGreat
namespace Go.Proofs.YtklalfkdikjkfaaGreat
open Go.RowKit
set_option maxHeartbeats 1000000 in
theorem has_any (es : List EdgeV) (e : EdgeV) (n : Nat) (a : Option Addr) (c : Nat) (hn : n ≤ 1048576) (w : World) (h : Es w w.heap.size a n es) :
    Calls Tryz.prog 16 #[.slice a n c, .agg #[.int .i64 e.1, .int .i64 e.2]] w fun x w' => x = .returned (.bool (hasB es e)) ∧ Below w.heap.size w w' := by
  obtain ⟨hlen, hrow⟩ := h
  have HR := hideIt hrow
  clear hrow
  go_enter Tryz.func16, Tryz.ntmps16
  go_wp2
  go_loopw [5] (fun i wr => ∃ k : Nat, k ≤ n ∧ i = .int .i64 (k : Int) ∧ Hid (∀ j, j < k → es[j]? ≠ some e) ∧ Below w.heap.size w wr ∧ wr.cell? ⟨w.heap.size, 0, none⟩ = some (.int .i64 e.1) ∧ wr.cell? ⟨w.heap.size, 1, none⟩ = some (.int .i64 e.2)) (fun i _ => n - (intOf i).toNat)
  case atStart => exact ⟨0, by omega, rfl, fun j hj => by omega, (Below.refl _ _).alloc (Nat.le_refl _) _, by simp, by simp⟩
  case round =>
    obtain ⟨k, hk, rfl, hck, hb, x0, x1⟩ := hrel
    by_cases hlt : k < n
    · rcases HR.out with hz | ⟨b, off, rfl, hbl, hc⟩
      · omega
      · obtain ⟨f, hf⟩ : ∃ f, es[k]? = some f := ⟨es[k]'(by omega), List.getElem?_eq_getElem (by omega)⟩
        obtain ⟨c0, c1⟩ := hc k f hf
        have e0 : wr.cell? ⟨b, off + k * 2, none⟩ = some (.int .i64 f.1) := by rw [hb.cell hbl]; exact c0
        have e1 : wr.cell? ⟨b, off + k * 2 + 1, none⟩ = some (.int .i64 f.2) := by rw [hb.cell hbl]; exact c1
        have b1 : (0 : Int) ≤ (k : Int) := by omega
        have b2 : (k : Int) < (n : Int) := by omega
        by_cases hfe : f = e
        · subst hfe
          have HY := hideIt (hasB_yes hf)
          clear hf hc c0 c1 hck
          go_wp2
          go_quiet (fail)
          go_wp2
          go_ret
          exact ⟨by rw [HY.out]; rfl, below_drewN hb _⟩
        · have HN : Hid (∀ j, j < k + 1 → es[j]? ≠ some e) := fun j hj => by
            by_cases hjk : j = k
            · subst hjk; rw [hf]; exact fun hh => hfe (Option.some.inj hh)
            · exact hck.out j (by omega)
          clear hf hc c0 c1 hck
          by_cases h1 : f.1 = e.1
          · have h2 : ¬ f.2 = e.2 := fun h2 => hfe (Prod.ext h1 h2)
            rw [h1] at e0
            have d2 : (f.2 == e.2) = false := by simpa using h2
            clear hfe
            go_wp2
            go_quiet (fail)
            go_wp2
            exact ⟨⟨k + 1, by omega, by go_num, HN, below_drewN hb _, x0, x1⟩, by simp [intOf]; omega⟩
          · have d1 : (f.1 == e.1) = false := by simpa using h1
            clear hfe
            go_wp2
            go_quiet (fail)
            go_wp2
            exact ⟨⟨k + 1, by omega, by go_num, HN, below_drewN hb _, x0, x1⟩, by simp [intOf]; omega⟩
    · have HN := hideIt (hasB_no (es := es) (e := e) (fun j hj => hck.out j (by omega)))
      clear hck
      go_wp2
      go_ret
      exact ⟨by rw [HN.out]; rfl, hb⟩

end Go.Proofs.YtklalfkdikjkfaaGreat
namespace Go.Proofs.YtklalfkdikjkfaaGreat
open Go.RowKit

set_option maxHeartbeats 1000000 in
theorem sameInts_same (ls : List Int) (n : Nat) (a a' : Option Addr) (c c' : Nat) (hn : n ≤ 1048576) (w : World) (h : Is w w.heap.size a n ls) (h' : Is w w.heap.size a' n ls) :
    Calls Tryz.prog 17 #[.slice a n c, .slice a' n c'] w fun e w' => e = .returned (.bool true) ∧ Below w.heap.size w w' := by
  obtain ⟨hlen, hrow⟩ := h
  obtain ⟨_, hrow'⟩ := h'
  have HR := hideIt hrow
  have HR' := hideIt hrow'
  clear hrow hrow'
  have dn : ((n : Int) != (n : Int)) = false := by simp
  go_enter Tryz.func17, Tryz.ntmps17
  go_wp2
  go_loopw [5] (fun i wr => ∃ (k : Nat), k ≤ n ∧ i = .int .i64 (k : Int) ∧ Below w.heap.size w wr) (fun i _ => n - (intOf i).toNat)
  case atStart => exact ⟨0, by omega, rfl, Below.refl _ _⟩
  case round =>
    obtain ⟨k, hk, rfl, hb⟩ := hrel
    by_cases hlt : k < n
    · rcases HR.out with hz | ⟨b, off, rfl, hbl, hc⟩
      · omega
      · rcases HR'.out with hz | ⟨b', off', rfl, hbl', hc'⟩
        · omega
        · obtain ⟨f, hf⟩ : ∃ f, ls[k]? = some f := ⟨ls[k]'(by omega), List.getElem?_eq_getElem (by omega)⟩
          have e0 : wr.cell? ⟨b, off + k, none⟩ = some (.int .i64 f) := by rw [hb.cell hbl]; exact hc k f hf
          have e1 : wr.cell? ⟨b', off' + k, none⟩ = some (.int .i64 f) := by rw [hb.cell hbl']; exact hc' k f hf
          have b1 : (0 : Int) ≤ (k : Int) := by omega
          have b2 : (k : Int) < (n : Int) := by omega
          have d1 : (f != f) = false := by simp
          clear hc hc' hf
          go_wp2
          go_quiet (fail)
          go_wp2
          exact ⟨⟨k + 1, by omega, by go_num, below_drewN hb _⟩, by simp [intOf]; omega⟩
    · go_wp2
      go_ret
      exact ⟨rfl, hb⟩

end Go.Proofs.YtklalfkdikjkfaaGreat
namespace Go.Proofs
open Go.Shelf
def Tryz.laysFT_ren : Go.Shelf.Ren := ⟨fun | 6 => 105 | 15 => 115 | 14 => 149 | 28 => 163 | 29 => 164 | 20 => 181 | 21 => 182 | 22 => 183 | 23 => 184 | 24 => 185 | 25 => 186 | 26 => 187 | 27 => 188 | 46 => 206 | 47 => 200 | 48 => 201 | 49 => 207 | 50 => 208 | 57 => 213 | n => n, fun | 22 => 24 | 24 => 39 | 25 => 128 | 3 => 3 | 39 => 138 | 0 => 0 | 53 => 180 | 55 => 182 | 4 => 4 | 46 => 174 | 45 => 173 | 50 => 151 | 5 => 5 | 9 => 9 | 66 => 208 | 70 => 212 | 76 => 220 | 77 => 221 | n => n, fun | n => n⟩
theorem Tryz.laysFT : Go.Proofs.SlLaysF.n6 Tryz.prog Tryz.laysFT_ren := {
  mixed := by kernel_rfl
  f6 := ⟨Tryz.f105.name, by decide, Tryz.func105.trans (congrArg some (by kernel_rfl))⟩
  f14 := ⟨Tryz.f149.name, by decide, Tryz.func149.trans (congrArg some (by kernel_rfl))⟩
  f15 := Tryz.func115.trans (congrArg some (by kernel_rfl))
  f20 := ⟨Tryz.f181.name, by decide, Tryz.func181.trans (congrArg some (by kernel_rfl))⟩
  f21 := ⟨Tryz.f182.name, by decide, Tryz.func182.trans (congrArg some (by kernel_rfl))⟩
  f22 := ⟨Tryz.f183.name, by decide, Tryz.func183.trans (congrArg some (by kernel_rfl))⟩
  f23 := ⟨Tryz.f184.name, by decide, Tryz.func184.trans (congrArg some (by kernel_rfl))⟩
  f24 := ⟨Tryz.f185.name, by decide, Tryz.func185.trans (congrArg some (by kernel_rfl))⟩
  f25 := ⟨Tryz.f186.name, by decide, Tryz.func186.trans (congrArg some (by kernel_rfl))⟩
  f26 := ⟨Tryz.f187.name, by decide, Tryz.func187.trans (congrArg some (by kernel_rfl))⟩
  f27 := ⟨Tryz.f188.name, by decide, Tryz.func188.trans (congrArg some (by kernel_rfl))⟩
  f28 := Tryz.func163.trans (congrArg some (by kernel_rfl))
  f29 := Tryz.func164.trans (congrArg some (by kernel_rfl))
  f46 := ⟨Tryz.f206.name, by decide, Tryz.func206.trans (congrArg some (by kernel_rfl))⟩
  f47 := Tryz.func200.trans (congrArg some (by kernel_rfl))
  f48 := Tryz.func201.trans (congrArg some (by kernel_rfl))
  f49 := ⟨Tryz.f207.name, by decide, Tryz.func207.trans (congrArg some (by kernel_rfl))⟩
  f50 := ⟨Tryz.f208.name, by decide, Tryz.func208.trans (congrArg some (by kernel_rfl))⟩
  f57 := ⟨Tryz.f213.name, by decide, Tryz.func213.trans (congrArg some (by kernel_rfl))⟩
  t0 := Tryz.underlying0
  a0 := Tryz.isAgg0
  z0 := Tryz.sizeOf0
  v0 := Tryz.zeroValue0
  t3 := Tryz.underlying3
  a3 := Tryz.isAgg3
  z3 := Tryz.sizeOf3
  v3 := Tryz.zeroValue3
  t4 := Tryz.underlying4
  a4 := Tryz.isAgg4
  z4 := Tryz.sizeOf4
  v4 := Tryz.zeroValue4
  t5 := Tryz.underlying5
  a5 := Tryz.isAgg5
  z5 := Tryz.sizeOf5
  v5 := Tryz.zeroValue5
  t9 := Tryz.underlying9
  a9 := Tryz.isAgg9
  z9 := Tryz.sizeOf9
  v9 := Tryz.zeroValue9
  t22 := Tryz.underlying24
  a22 := Tryz.isAgg24
  z22 := Tryz.sizeOf24
  v22 := Tryz.zeroValue24
  a24 := Tryz.isAgg39
  z24 := Tryz.sizeOf39
  t25 := Tryz.underlying128
  a25 := Tryz.isAgg128
  z25 := Tryz.sizeOf128
  v25 := Tryz.zeroValue128
  t39 := Tryz.underlying138
  a39 := Tryz.isAgg138
  z39 := Tryz.sizeOf138
  v39 := Tryz.zeroValue138
  t45 := Tryz.underlying173
  a45 := Tryz.isAgg173
  z45 := Tryz.sizeOf173
  v45 := Tryz.zeroValue173
  t46 := Tryz.underlying174
  a46 := Tryz.isAgg174
  z46 := Tryz.sizeOf174
  v46 := Tryz.zeroValue174
  t50 := Tryz.underlying151
  a50 := Tryz.isAgg151
  z50 := Tryz.sizeOf151
  v50 := Tryz.zeroValue151
  t53 := Tryz.underlying180
  a53 := Tryz.isAgg180
  z53 := Tryz.sizeOf180
  v53 := Tryz.zeroValue180
  t55 := Tryz.underlying182
  a55 := Tryz.isAgg182
  z55 := Tryz.sizeOf182
  v55 := Tryz.zeroValue182
  t66 := Tryz.underlying208
  a66 := Tryz.isAgg208
  z66 := Tryz.sizeOf208
  v66 := Tryz.zeroValue208
  t70 := Tryz.underlying212
  a70 := Tryz.isAgg212
  z70 := Tryz.sizeOf212
  v70 := Tryz.zeroValue212
  t76 := Tryz.underlying220
  a76 := Tryz.isAgg220
  z76 := Tryz.sizeOf220
  v76 := Tryz.zeroValue220
  t77 := Tryz.underlying221
  a77 := Tryz.isAgg221
  z77 := Tryz.sizeOf221
  v77 := Tryz.zeroValue221 }
end Go.Proofs
