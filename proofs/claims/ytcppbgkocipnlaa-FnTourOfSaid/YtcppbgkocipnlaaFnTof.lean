/- The walk of FnTourOf. -/
import Derived.Test.YtcppbgkocipnlaaRing6
namespace Go.Proofs.Ytcppbgkocipnlaa
open Go.RowKit

/-- the drawn tour and a list of edges stand -/
structure TEt (w : World) (B g m : Nat) (t : List Int) (a : Option Addr) (ne c : Nat) (es : List EdgeV) (u : World) : Prop where
  good : Good w u
  it : Is u u.heap.size (some ⟨g, 0, none⟩) m t
  low : g < B
  base : w.heap.size ≤ B
  own : u.ownsRow B 40 2 (.slice a ne c) ne (ecells es)
  high : B ≤ u.heap.size
theorem TEt.up {w : World} {B g m : Nat} {t : List Int} {a : Option Addr} {ne c : Nat} {es : List EdgeV} {u v : World} (h : TEt w B g m t a ne c es u) (hb : Below u.heap.size u v) : TEt w B g m t a ne c es v :=
  ⟨h.good.up hb, h.it.up hb, h.low, h.base, own_up h.own hb, Nat.le_trans h.high hb.size⟩
theorem TEt.len {w : World} {B g m : Nat} {t : List Int} {a : Option Addr} {ne c : Nat} {es : List EdgeV} {u : World} (h : TEt w B g m t a ne c es u) : es.length = ne := by have := h.own.1; rw [ecells_length] at this; omega
theorem TEt.es {w : World} {B g m : Nat} {t : List Int} {a : Option Addr} {ne c : Nat} {es : List EdgeV} {u : World} (h : TEt w B g m t a ne c es u) : Es u u.heap.size a ne es := Es_of_own h.own
theorem TEt.app {w : World} {B g m : Nat} {t : List Int} {a : Option Addr} {ne c : Nat} {es : List EdgeV} {u : World} (h : TEt w B g m t a ne c es u) {x1 x2 : Int} {G cap k2 : Nat} {u' : World}
    (ho : u'.ownsRow B 40 2 (.slice (some ⟨G, 0, none⟩) k2 cap) k2 (ecells es ++ [.int .i64 x1, .int .i64 x2])) (hg : u.grownBy u' (Value.slice a ne c).ownBlock) : TEt w B g m t (some ⟨G, 0, none⟩) k2 cap (es ++ [(x1, x2)]) u' := by
  have hb : Below B u u' := (Below.refl _ u).grown hg h.high (fun j hj => (h.own.lt j hj).1)
  refine ⟨Below.trans h.good (hb.mono h.base), ?_, h.low, h.base, by rw [ecells_snoc]; exact ho, Nat.le_trans h.high hg.size⟩
  refine ⟨h.it.1, h.it.2.imp id ?_⟩
  rintro ⟨b, off, h1, h2, h3⟩
  simp at h1
  obtain ⟨rfl, rfl⟩ := h1
  exact ⟨g, 0, rfl, by have := hg.size; omega, fun q y hy => by rw [hb.cell (p := ⟨g, _, none⟩) h.low]; exact h3 q y hy⟩

theorem wpAny_frame2 {P : Program} {md : Region.Mode} {ops : Array Oper} {Q : Exit → Go.Act → World → Prop} {fuel : Nat} {listed : Array Bool} {a a' : Go.Act} {w : World} (h : a = a') (hh : wpAny P md ops Q fuel listed a' w) : wpAny P md ops Q fuel listed a w := h ▸ hh
set_option maxRecDepth 100000 in
set_option maxHeartbeats 32000000 in
theorem fnTourOf.walk (a : Option Addr) (len cap : Nat) (w : World) (hcode : Code w w.heap.size a len) :
    Calls Try.prog 5 #[.slice a len cap] w fun e w' => e = .returned (.bool true) ∧ Below w.heap.size w w' := by
  by_cases hbig : 1048576 < len
  · have H := hideIt (big_any w a len cap)
    have d0 : decide ((1048576 : Int) < (len : Int)) = true := decide_eq_true (by omega)
    rw [d0] at H
    go_enter Try.func5, Try.ntmps5
    go_wp2_with (go_at_call 9; refine H.out.mono ?_; rintro e w1 ⟨rfl, rfl⟩)
    go_ret
    exact ⟨rfl, Below.refl _ _⟩
  obtain ⟨i0, hi, hz0, hz1, hz2⟩ := info_parts infoIE
  have hl : len ≤ 1048576 := by omega
  have H := hideIt (big_any w a len cap)
  have d0 : decide ((1048576 : Int) < (len : Int)) = false := decide_eq_false (by omega)
  rw [d0] at H
  have HD := hideIt (drawRightTour_any w a len cap hl hcode)
  clear hcode
  go_enter Try.func5, Try.ntmps5
  go_wp2_with (go_at_call 9; refine H.out.mono ?_; rintro e w1 ⟨rfl, hw1⟩; have hw1' := hw1.symm; subst hw1'; refine Hid.out ?_)
  refine (show ∀ {p : Prop}, p → Hid p from fun h => h) ?_
  go_wp2_with (go_at_call 10; refine HD.out.mono ?_; rintro x w2 ⟨t, v0, g, m, c', HB, rfl, ho2, hb2⟩; refine Hid.out ?_)
  refine (show ∀ {p : Prop}, p → Hid p from fun h => h) ?_
  have hml : t.length = m := by have := ho2.1; rw [ic_len] at this; omega
  have htl := tB_len HB.out.1
  have hm23 : m ≤ 23 := by omega
  have hm0 : 0 < m := by omega
  have I2 := Is_of_own ho2
  have hgl := (ho2.lt g rfl).2
  have hb3 : Below w2.heap.size w2 (w2.alloc (.cells #[] 40)) := (Below.refl _ _).alloc (Nat.le_refl _) _
  have H0 : Hid (TEt w w2.heap.size g m t (some ⟨w2.heap.size, 0, none⟩) 0 0 [] (w2.alloc (.cells #[] 40))) := by
    have h0 := World.ownsRow_lit (base := w2.heap.size) (e := 40) (size := 2) w2 #[] 0 (Nat.le_refl _) (by unfold maxLen; omega) (by simp)
    exact ⟨hb2.trans (hb3.mono hb2.size), I2.up hb3, hgl, hb2.size, by simpa [ecells] using h0, hb3.size⟩
  have HML := hideIt hml
  clear HD H ho2 I2 hb3 hb2 htl hml
  go_wp2
  go_loopw [5, 6] (fun r i wr => ∃ (k ne ce : Nat) (ae : Option Addr), k + 1 ≤ m ∧ i = .int .i64 (k : Int) ∧ r = .slice ae ne ce ∧ ne ≤ k ∧ Hid (TEt w w2.heap.size g m t ae ne ce (eK t k) wr)) (fun _ i _ => m - (intOf i).toNat)
  case atStart => exact ⟨0, 0, 0, _, by omega, rfl, rfl, by omega, H0⟩
  case round =>
    obtain ⟨k, ne, ce, ae, hk, rfl, rfl, hnek, HT⟩ := hrel
    clear H0
    by_cases hlt : k + 1 < m
    · obtain ⟨u1, hu1⟩ : ∃ u1, t[k]? = some u1 := ⟨t[k]'(by have := HML.out; omega), List.getElem?_eq_getElem _⟩
      obtain ⟨u2, hu2⟩ : ∃ u2, t[k + 1]? = some u2 := ⟨t[k + 1]'(by have := HML.out; omega), List.getElem?_eq_getElem _⟩
      have HK : Hid (∀ ae ne ce es u, TEt w w2.heap.size g m t ae ne ce es u → u.cell? ⟨g, k, none⟩ = some (.int .i64 u1) ∧ u.cell? ⟨g, k + 1, none⟩ = some (.int .i64 u2)) := fun _ _ _ _ u hu =>
        ⟨by have := hu.it.at hu1; simpa using this, by have := hu.it.at hu2; simpa using this⟩
      have HH : Hid (∀ u, TEt w w2.heap.size g m t ae ne ce (eK t k) u → Calls Try.prog 19 #[.slice ae ne ce, .agg #[.int .i64 u1, .int .i64 u2]] u fun e v => e = .returned (.bool (hasB (eK t k) (u1, u2))) ∧ TEt w w2.heap.size g m t ae ne ce (eK t k) v) := fun u hu =>
        (has_any (eK t k) (u1, u2) ne ae ce (by omega) u (Es_of_own hu.own)).mono fun _ _ ⟨he, hb⟩ => ⟨he, hu.up hb⟩
      have d1 : decide ((k : Int) + 1 < (m : Int)) = true := decide_eq_true (by omega)
      have q1 : (0 : Int) ≤ (k : Int) := by omega
      have q2 : (k : Int) < (m : Int) := by omega
      have q3 : (0 : Int) ≤ (k : Int) + 1 := by omega
      have q4 : (k : Int) + 1 < (m : Int) := by omega
      have q5 : ((k : Int) + 1).toNat = k + 1 := by omega
      have q6 : IntKind.i64.wrap ((k : Int) + 1) = (k : Int) + 1 := by rw [IntKind.wrap_i64]; omega
      have S0 : TEt w w2.heap.size g m t ae ne ce (eK t k) wr.drew := HT.out.up ((Below.refl _ _).drew)
      obtain ⟨e1, e2⟩ := HK.out _ _ _ _ wr HT.out
      by_cases hul : u1 < u2
      · have d2 : decide (u1 < u2) = true := decide_eq_true hul
        cases hh : hasB (eK t k) (u1, u2) with
        | true =>
          rw [hh] at HH
          have HE := hideIt (eK_no hu1 hu2 (fun h => h.2 (of_decide_eq_true hh)))
          clear hh hu1 hu2 hul
          go_wp2
          go_region_held3 (fun u => TEt w w2.heap.size g m t ae ne ce (eK t k) u ∧ (u.cell? ⟨g, k, none⟩ = some (.int .i64 u1) ∧ u.cell? ⟨g, k + 1, none⟩ = some (.int .i64 u2)))
            (exact ⟨S0, HK.out _ _ _ _ _ S0⟩)
            ((go_at_call 19; refine (HH.out _ S0).mono ?_; clear S0; rintro x w3 ⟨rfl, S0⟩))
          have HT3 := hideIt S0
          clear S0
          go_wp2
          exact ⟨⟨k + 1, ne, ce, ae, by omega, by go_num, rfl, by omega, by rw [HE.out]; exact HT3⟩, by simp [intOf]; omega⟩
        | false =>
          rw [hh] at HH
          have HE := hideIt (eK_yes hu1 hu2 hul (of_decide_eq_false hh))
          clear hh hu1 hu2 hul
          go_wp2
          go_region_held3 (fun u => TEt w w2.heap.size g m t ae ne ce (eK t k) u ∧ (u.cell? ⟨g, k, none⟩ = some (.int .i64 u1) ∧ u.cell? ⟨g, k + 1, none⟩ = some (.int .i64 u2)))
            (exact ⟨S0, HK.out _ _ _ _ _ S0⟩)
            ((go_at_call 19; refine (HH.out _ S0).mono ?_; clear S0; rintro x w3 ⟨rfl, S0⟩))
          have HT3 := hideIt S0
          clear S0 e1 e2
          obtain ⟨e1, e2⟩ := HK.out _ _ _ _ w3 HT3.out
          have hba : Below w3.heap.size w3 (w3.alloc (.cells #[.int .i64 u1, .int .i64 u2] 40)).drew := ((Below.refl _ _).alloc (Nat.le_refl _) _).drew
          have SA := HT3.out.up hba
          have SB : TEt w w2.heap.size g m t ae ne ce (eK t k) w3.drew := HT3.out.up (Below.refl _ _).drew
          have zA := SA.high
          simp at zA
          clear hba
          go_wp2
          go_region_held3 (fun u => (u.cell? ⟨g, k, none⟩ = some (.int .i64 u1) ∧ u.cell? ⟨g, k + 1, none⟩ = some (.int .i64 u2)))
            (first | exact HK.out _ _ _ _ _ S6 | exact HK.out _ _ _ _ _ SA | exact HK.out _ _ _ _ _ SB)
            ((refine step_append_lies _ (by rfl) _ _ _ (by rfl) w2.heap.size 40 i0 _ 2 16 Try.underlying37 hi hz0 hz1 hz2 rfl (by decide) _ ne _ (by rfl) SA.own ⟨w3.heap.size, 0, none⟩ 1 1 [.int .i64 u1, .int .i64 u2] (by rfl) (by rfl) (news1 w3 (u1, u2)) (by intro u hu; simp at hu; rcases hu with rfl | rfl <;> rfl) (by omega) (by unfold maxLen; omega) (by omega) (by simp; omega) (w3.heap.size + 1) (by simp) ?_; intro g6 c6 w6 hown6 hg6 hat6 hlt6; have S6 := SA.app hown6 hg6))
          have HT6 := hideIt S6
          clear S6 SA SB hown6 hg6 hat6
          go_wp2
          exact ⟨⟨k + 1, ne + 1, c6, _, by omega, by go_num, rfl, by omega, by rw [HE.out]; exact HT6⟩, by simp [intOf]; omega⟩
      · have d2 : decide (u1 < u2) = false := decide_eq_false hul
        have HE := hideIt (eK_no hu1 hu2 (fun h => hul h.1))
        have HT3 := hideIt S0
        have f1 : wr.drew.cell? ⟨g, k, none⟩ = some (.int .i64 u1) := e1
        have f2 : wr.drew.cell? ⟨g, k + 1, none⟩ = some (.int .i64 u2) := e2
        clear hu1 hu2 hul HH S0
        go_wp2
        refine wp_region_any (by kernel_rfl) ?_
        change wpAny _ _ _ _ _ _ _ (World.drew _)
        refine takeOp (i := 0) (v := ?_) rfl (by kernel_rfl) (by kernel_rfl) (by kernel_rfl) (fun _ _ _ h => h) (by kernel_rfl) ?_ ?_
        rotate_left
        · intro w; go_simp; try with_reducible rfl
        refine takeOp (i := 1) (v := ?_) rfl (by kernel_rfl) (by kernel_rfl) (by kernel_rfl) (fun _ _ _ h => h) (by kernel_rfl) ?_ ?_
        rotate_left
        · intro w; go_simp; try with_reducible rfl
        refine takeOp (i := 2) (v := ?_) rfl (by kernel_rfl) (by kernel_rfl) (by kernel_rfl) (fun _ _ _ h => h) (by kernel_rfl) ?_ ?_
        rotate_left
        · intro w; go_simp; try with_reducible rfl
        refine takeOp (i := 4) (v := ?_) rfl (by kernel_rfl) (by kernel_rfl) (by kernel_rfl) (fun _ _ _ h => h) (by kernel_rfl) ?_ ?_
        rotate_left
        · intro w; go_simp; try with_reducible rfl
        refine takeOp (i := 5) (v := ?_) rfl (by kernel_rfl) (by kernel_rfl) (by kernel_rfl) (fun _ _ _ h => h) (by kernel_rfl) ?_ ?_
        rotate_left
        · intro w; go_simp; try with_reducible rfl
        refine takeOp (i := 6) (v := ?_) rfl (by kernel_rfl) (by kernel_rfl) (by kernel_rfl) (fun _ _ _ h => h) (by kernel_rfl) ?_ ?_
        rotate_left
        · intro w; go_simp; try with_reducible rfl
        refine takeOp (i := 7) (v := ?_) rfl (by kernel_rfl) (by kernel_rfl) (by kernel_rfl) (fun _ _ _ h => h) (by kernel_rfl) ?_ ?_
        rotate_left
        · intro w; go_simp; try with_reducible rfl
        refine wpAny_frame2 (a' := ?_) ?_ ?_
        rotate_left
        · go_simp; try with_reducible rfl
        refine wpAny_ready (rs := [3, 8]) (by kernel_rfl) (by simp) (AllReady.cons rfl (fun K hK => ?_) (AllReady.cons rfl (fun K hK => ?_) AllReady.nil))
        · go_simp
          refine hK _ _ ?_
          clear hK K
          refine wpAny_ready (rs := [8]) (by kernel_rfl) (by simp) ?_
          refine AllReady.cons rfl (fun K hK => ?_) AllReady.nil
          go_simp
          refine hK _ _ ?_
          clear hK K
          refine takeOp (i := 9) (v := ?_) rfl (by kernel_rfl) (by kernel_rfl) (by kernel_rfl) (fun _ _ _ h => h) (by kernel_rfl) ?_ ?_
          rotate_left
          · intro w; go_simp; try with_reducible rfl
          refine takeOp (i := 10) (v := ?_) rfl (by kernel_rfl) (by kernel_rfl) (by kernel_rfl) (fun _ _ _ h => h) (by kernel_rfl) ?_ ?_
          rotate_left
          · intro w; go_simp; try with_reducible rfl
          refine skipOp (i := 11) rfl (by kernel_rfl) (by kernel_rfl) (by kernel_rfl) (fun _ _ _ h => h) (by kernel_rfl) ?_
          refine skipOp (i := 12) rfl (by kernel_rfl) (by kernel_rfl) (by kernel_rfl) (fun _ _ _ h => h) (by kernel_rfl) ?_
          refine skipOp (i := 13) rfl (by kernel_rfl) (by kernel_rfl) (by kernel_rfl) (fun _ _ _ h => h) (by kernel_rfl) ?_
          refine skipOp (i := 14) rfl (by kernel_rfl) (by kernel_rfl) (by kernel_rfl) (fun _ _ _ h => h) (by kernel_rfl) ?_
          refine skipOp (i := 15) rfl (by kernel_rfl) (by kernel_rfl) (by kernel_rfl) (fun _ _ _ h => h) (by kernel_rfl) ?_
          refine skipOp (i := 16) rfl (by kernel_rfl) (by kernel_rfl) (by kernel_rfl) (fun _ _ _ h => h) (by kernel_rfl) ?_
          refine skipOp (i := 17) rfl (by kernel_rfl) (by kernel_rfl) (by kernel_rfl) (fun _ _ _ h => h) (by kernel_rfl) ?_
          refine skipOp (i := 18) rfl (by kernel_rfl) (by kernel_rfl) (by kernel_rfl) (fun _ _ _ h => h) (by kernel_rfl) ?_
          refine skipOp (i := 19) rfl (by kernel_rfl) (by kernel_rfl) (by kernel_rfl) (fun _ _ _ h => h) (by kernel_rfl) ?_
          refine skipOp (i := 20) rfl (by kernel_rfl) (by kernel_rfl) (by kernel_rfl) (fun _ _ _ h => h) (by kernel_rfl) ?_
          refine skipOp (i := 21) rfl (by kernel_rfl) (by kernel_rfl) (by kernel_rfl) (fun _ _ _ h => h) (by kernel_rfl) ?_
          refine skipOp (i := 22) rfl (by kernel_rfl) (by kernel_rfl) (by kernel_rfl) (fun _ _ _ h => h) (by kernel_rfl) ?_
          refine skipOp (i := 23) rfl (by kernel_rfl) (by kernel_rfl) (by kernel_rfl) (fun _ _ _ h => h) (by kernel_rfl) ?_
          refine wpAny_frame2 (a' := ?_) ?_ ?_
          rotate_left
          · go_simp; try with_reducible rfl
          refine wpAny_ready (rs := [24]) (by kernel_rfl) (by simp) ?_
          refine AllReady.cons rfl (fun K hK => ?_) AllReady.nil
          go_simp
          refine hK _ _ ?_
          clear hK K
          refine wpAny_done (by kernel_rfl) ?_ _
          go_wp2
          exact ⟨⟨k + 1, ne, ce, ae, by omega, by go_num, rfl, by omega, by rw [HE.out]; exact HT3⟩, by simp [intOf]; omega⟩
        · go_simp
          refine hK _ _ ?_
          clear hK K
          refine wpAny_ready (rs := [3]) (by kernel_rfl) (by simp) ?_
          refine AllReady.cons rfl (fun K hK => ?_) AllReady.nil
          go_simp
          refine hK _ _ ?_
          clear hK K
          refine takeOp (i := 9) (v := ?_) rfl (by kernel_rfl) (by kernel_rfl) (by kernel_rfl) (fun _ _ _ h => h) (by kernel_rfl) ?_ ?_
          rotate_left
          · intro w; go_simp; try with_reducible rfl
          refine takeOp (i := 10) (v := ?_) rfl (by kernel_rfl) (by kernel_rfl) (by kernel_rfl) (fun _ _ _ h => h) (by kernel_rfl) ?_ ?_
          rotate_left
          · intro w; go_simp; try with_reducible rfl
          refine skipOp (i := 11) rfl (by kernel_rfl) (by kernel_rfl) (by kernel_rfl) (fun _ _ _ h => h) (by kernel_rfl) ?_
          refine skipOp (i := 12) rfl (by kernel_rfl) (by kernel_rfl) (by kernel_rfl) (fun _ _ _ h => h) (by kernel_rfl) ?_
          refine skipOp (i := 13) rfl (by kernel_rfl) (by kernel_rfl) (by kernel_rfl) (fun _ _ _ h => h) (by kernel_rfl) ?_
          refine skipOp (i := 14) rfl (by kernel_rfl) (by kernel_rfl) (by kernel_rfl) (fun _ _ _ h => h) (by kernel_rfl) ?_
          refine skipOp (i := 15) rfl (by kernel_rfl) (by kernel_rfl) (by kernel_rfl) (fun _ _ _ h => h) (by kernel_rfl) ?_
          refine skipOp (i := 16) rfl (by kernel_rfl) (by kernel_rfl) (by kernel_rfl) (fun _ _ _ h => h) (by kernel_rfl) ?_
          refine skipOp (i := 17) rfl (by kernel_rfl) (by kernel_rfl) (by kernel_rfl) (fun _ _ _ h => h) (by kernel_rfl) ?_
          refine skipOp (i := 18) rfl (by kernel_rfl) (by kernel_rfl) (by kernel_rfl) (fun _ _ _ h => h) (by kernel_rfl) ?_
          refine skipOp (i := 19) rfl (by kernel_rfl) (by kernel_rfl) (by kernel_rfl) (fun _ _ _ h => h) (by kernel_rfl) ?_
          refine skipOp (i := 20) rfl (by kernel_rfl) (by kernel_rfl) (by kernel_rfl) (fun _ _ _ h => h) (by kernel_rfl) ?_
          refine skipOp (i := 21) rfl (by kernel_rfl) (by kernel_rfl) (by kernel_rfl) (fun _ _ _ h => h) (by kernel_rfl) ?_
          refine skipOp (i := 22) rfl (by kernel_rfl) (by kernel_rfl) (by kernel_rfl) (fun _ _ _ h => h) (by kernel_rfl) ?_
          refine skipOp (i := 23) rfl (by kernel_rfl) (by kernel_rfl) (by kernel_rfl) (fun _ _ _ h => h) (by kernel_rfl) ?_
          refine wpAny_frame2 (a' := ?_) ?_ ?_
          rotate_left
          · go_simp; try with_reducible rfl
          refine wpAny_ready (rs := [24]) (by kernel_rfl) (by simp) ?_
          refine AllReady.cons rfl (fun K hK => ?_) AllReady.nil
          go_simp
          refine hK _ _ ?_
          clear hK K
          refine wpAny_done (by kernel_rfl) ?_ _
          go_wp2
          exact ⟨⟨k + 1, ne, ce, ae, by omega, by go_num, rfl, by omega, by rw [HE.out]; exact HT3⟩, by simp [intOf]; omega⟩
    · obtain ⟨x0, hx0⟩ : ∃ x0, t[0]? = some x0 := ⟨t[0]'(by have := HML.out; omega), List.getElem?_eq_getElem _⟩
      obtain ⟨s, sn, hwk, hsB, hsm, hsl, hx00, hx01⟩ := tE_tour HB.out.1 hx0
      have hET : eK t k = tE t := by show eK t k = eK t (t.length - 1); rw [HML.out]; congr 1; omega
      rw [hET] at HT
      have hcnt := tE_count HB.out.1
      rw [HT.out.len, HML.out] at hcnt
      have hslm : s.length = m := by rw [hsl]; exact HML.out
      obtain ⟨r0, rfl⟩ := Int.eq_ofNat_of_zero_le hx00
      have HX1 : Hid (∀ u, TEt w w2.heap.size g m t ae ne ce (tE t) u → Calls Try.prog 20 #[.int .i64 12, .slice ae ne ce, .int .i64 (r0 : Int)] u fun e v => ∃ a2 c2, e = .returned (.tuple #[.slice a2 m c2, .bool true]) ∧ Is v v.heap.size a2 m s ∧ Below u.heap.size u v) := fun u hu => by
        refine (iTourOf_yes (tE t) ne ae ce (r0 : Int) s sn (by omega) (tE_eB HB.out.1) (eK_nodup t _) (tE_tree HB.out.1) hx00 hx01 hwk (by omega) u hu.es).mono ?_
        rintro e v ⟨a', m', c', rfl, ho, hb⟩
        have hI := Is_of_own ho
        obtain rfl : m' = m := by have := hI.1; omega
        exact ⟨a', c', rfl, hI, hb⟩
      have HX2 : Hid (∀ u, TEt w w2.heap.size g m t ae ne ce (tE t) u → Calls Try.prog 21 #[.int .i64 12, .slice ae ne ce, .int .i64 (r0 : Int)] u fun e v => ∃ a2 c2, e = .returned (.tuple #[.slice a2 m c2, .bool true]) ∧ Is v v.heap.size a2 m s ∧ Below u.heap.size u v) := fun u hu => by
        refine (show Calls _ _ #[.int .i64 12, .slice ae ne ce, .int .i64 (r0 : Int)] _ _ from sTourOf_any (tE t) 12 ne r0 ae ce s sn (by omega) (by omega) (by omega) (by omega) (tE_eB HB.out.1) hwk (by omega) u hu.es).mono ?_
        rintro e v ⟨a', m', c', rfl, ho, hb⟩
        have hI := Is_of_own ho
        obtain rfl : m' = m := by have := hI.1; omega
        exact ⟨a', c', rfl, hI, hb⟩
      have HK : Hid (∀ u, TEt w w2.heap.size g m t ae ne ce (tE t) u → u.cell? ⟨g, 0, none⟩ = some (.int .i64 (r0 : Int))) := fun u hu => by have := hu.it.at hx0; simpa using this
      have HVs : Hid (∀ u a2 c2, Is u u.heap.size a2 m s → Calls Try.prog 14 #[.slice a2 m c2] u fun e v => ∃ a' c', e = .returned (.slice a' (vsL t).length c') ∧ Is v v.heap.size a' (vsL t).length (vsL t) ∧ Below u.heap.size u v) := fun u a2 c2 hu => by
        have h := iVertsOf_any s m a2 c2 (by omega) u hu
        rw [vs_same hsm] at h
        refine h.mono fun _ _ ⟨a', m', c', he, ho, hb⟩ => ?_
        have hI := Is_of_own ho
        have := hI.1
        subst this
        exact ⟨a', c', he, hI, hb⟩
      have HVt : Hid (∀ u, Is u u.heap.size (some ⟨g, 0, none⟩) m t → Calls Try.prog 14 #[.slice (some ⟨g, 0, none⟩) m c'] u fun e v => ∃ gv cv, e = .returned (.slice (some ⟨gv, 0, none⟩) (vsL t).length cv) ∧ Is v v.heap.size (some ⟨gv, 0, none⟩) (vsL t).length (vsL t) ∧ gv < v.heap.size ∧ Below u.heap.size u v) := fun u hu => by
        have h := iVertsOf_any t m _ c' (by omega) u hu
        refine h.mono fun _ _ ⟨a', m', c', he, ho, hb⟩ => ?_
        have hI := Is_of_own ho
        have := hI.1
        subst this
        have hpos : 0 < (vsL t).length := List.length_pos_of_mem ((vsL_mem t (r0 : Int)).2 ⟨((tB_iff t).1 HB.out.1).1 _ (List.mem_of_getElem? hx0), List.mem_of_getElem? hx0⟩)
        rcases ho.2 with ⟨_, h0⟩ | ⟨gv, cap, cur, hv, _, _, hcap, _⟩
        · omega
        · simp at hv
          obtain ⟨rfl, rfl⟩ := hv
          exact ⟨gv, _, he, hI, (ho.lt gv rfl).2, hb⟩
      have HSm : Hid (∀ u ls n a1 c1 a2 c2, n ≤ 100 → Is u u.heap.size a1 n ls → Is u u.heap.size a2 n ls → Calls Try.prog 13 #[.slice a1 n c1, .slice a2 n c2] u fun e v => e = .returned (.bool true) ∧ Below u.heap.size u v) := fun u ls n a1 c1 a2 c2 hn h1 h2 =>
        sameInts_same ls n a1 a2 c1 c2 (by omega) u h1 h2
      have hvl := vsL_len t
      have HVL := hideIt (show vsL t = vsL t from rfl)
      have HR := hideIt (And.intro hx0 (And.intro hcnt (show r0 < 12 by omega)))
      have e0 := HK.out _ HT.out
      have d1 : decide ((k : Int) + 1 < (m : Int)) = false := decide_eq_false (by omega)
      have q6 : IntKind.i64.wrap ((k : Int) + 1) = (k : Int) + 1 := by rw [IntKind.wrap_i64]; omega
      have b1 : (0 : Int) < (m : Int) := by omega
      have hne22 : ne ≤ 11 := by omega
      have dn0 : (m : Int) = 2 * (ne : Int) + 1 := by omega
      have dn : ((m : Int) != 2 * (ne : Int) + 1) = false := by rw [dn0]; simp
      clear dn0
      clear hwk hsB hsm hsl hslm hx00 hx01 hx0 hET hlt hnek hk hcnt
      go_wp2_with (go_at_call 20; refine (HX1.out _ HT.out).mono ?_; rintro x w3 ⟨a2, c2, rfl, I2, hb3⟩; refine Hid.out ?_)
      refine (show ∀ {p : Prop}, p → Hid p from fun h => h) ?_
      have S3 := HT.out.up hb3
      have e3 := HK.out _ S3
      clear HT e0 hb3 HX1
      go_wp2_with (go_at_call 21; refine (HX2.out _ S3).mono ?_; rintro x w4 ⟨a3, c3, rfl, I3, hb4⟩; refine Hid.out ?_)
      refine (show ∀ {p : Prop}, p → Hid p from fun h => h) ?_
      have S4 := S3.up hb4
      have J2 := I2.up hb4
      clear S3 e3 hb4 HX2 I2
      go_wp2_with (go_at_call 13; refine (HSm.out w4 s m a2 c2 a3 c3 (by omega) J2 I3).mono ?_; rintro x w5 ⟨rfl, hb5⟩; refine Hid.out ?_)
      refine (show ∀ {p : Prop}, p → Hid p from fun h => h) ?_
      have S5 := S4.up hb5
      have K2 := J2.up hb5
      clear S4 J2 I3 hb5
      go_wp2_with (go_at_call 14; refine (HVs.out w5 a2 c2 K2).mono ?_; rintro x w6 ⟨a4, c4, rfl, I4, hb6⟩; refine Hid.out ?_)
      refine (show ∀ {p : Prop}, p → Hid p from fun h => h) ?_
      have S6 := S5.up hb6
      clear S5 K2 hb6
      go_wp2_with (go_at_call 14; refine (HVt.out w6 S6.it).mono ?_; rintro x w7 ⟨g5, c5, rfl, I5, _, hb7⟩; refine Hid.out ?_)
      refine (show ∀ {p : Prop}, p → Hid p from fun h => h) ?_
      have S7 := S6.up hb7
      have J4 := I4.up hb7
      clear S6 I4 hb7
      go_wp2_with (go_at_call 13; refine (HSm.out w7 (vsL t) (vsL t).length a4 c4 (some ⟨g5, 0, none⟩) c5 (by omega) J4 I5).mono ?_; rintro x w8 ⟨rfl, hb8⟩; refine Hid.out ?_)
      refine (show ∀ {p : Prop}, p → Hid p from fun h => h) ?_
      have S8 := S7.up hb8
      clear S7 J4 I5 hb8
      by_cases h2 : ne < 2
      · have d3 : decide ((ne : Int) < 2) = true := decide_eq_true (by omega)
        go_wp2
        go_ret
        exact ⟨rfl, S8.good⟩
      have d3 : decide ((ne : Int) < 2) = false := decide_eq_false (by omega)
      go_wp2_with (go_at_call 14; refine (HVt.out w8 S8.it).mono ?_; rintro x w9 ⟨gv, cv, rfl, I9, hgv, hb9⟩; refine Hid.out ?_)
      refine (show ∀ {p : Prop}, p → Hid p from fun h => h) ?_
      have S9 := S8.up hb9
      clear S8
      obtain ⟨ge, rfl⟩ : ∃ ge, ae = some ⟨ge, 0, none⟩ := by
        rcases S9.own.2 with ⟨_, h0⟩ | ⟨ge, cap, cur, hv, _⟩
        · omega
        · simp at hv
          exact ⟨ge, hv.1⟩
      clear HVs HVt HSm HVL HK
      have HV9 := hideIt (show vsL t = vsL t from rfl)
      generalize hnv : (vsL t).length = nv at *
      generalize hvs : vsL t = vs at I9 hnv
      have hba : Below w9.heap.size w9 (w9.alloc (.cells #[] 40)) := (Below.refl _ _).alloc (Nat.le_refl _) _
      have R0 : TRg w w9.heap.size g m t gv nv vs (some ⟨w9.heap.size, 0, none⟩) 0 0 [] (w9.alloc (.cells #[] 40)) := by
        have h0 := World.ownsRow_lit (base := w9.heap.size) (e := 40) (size := 2) w9 #[] 0 (Nat.le_refl _) (by unfold maxLen; omega) (by simp)
        have S := S9.up hba
        exact ⟨S.good, S.it, by have := S9.high; have := S9.low; omega, I9.up hba, hgv, by have := S9.high; have := S9.base; omega, by simpa [ecells] using h0, hba.size⟩
      have hnews := (S9.es.up hba).newsR
      have hl2 : (ecells (tE t)).length = ne * 2 := by rw [ecells_length, S9.len]
      have HTL := hideIt S9.len
      have HVV := hideIt (And.intro hvs hnv)
      clear S9 I9 hvs hnv hba HV9 hgv hb9
      go_wp2_with (at_builtin; refine wpList_append_own _ rfl _ _ 37 rfl w9.heap.size 40 i0 _ 2 16 Try.underlying37 hi hz0 hz1 hz2 rfl (by decide) _ _ _ rfl R0.own ⟨ge, 0, none⟩ ne ce (ecells (tE t)) rfl hl2 hnews ecells_oneR (by unfold maxLen; omega) (by omega) R0.high ?_; intro v1 w10 hown hg hn; rw [Nat.zero_add] at hown; obtain ⟨a10, c10, hv1⟩ := own_form hown; subst hv1; have R1 := R0.app hown hg; refine Hid.out ?_)
      refine (show ∀ {p : Prop}, p → Hid p from fun h => h) ?_
      rw [List.nil_append] at R1
      have HR1 := hideIt R1
      clear R0 R1 hown hg hn hnews hl2
      go_wp2
      go_loopw [12, 13] (fun r i wr => ∃ (p nr cr : Nat) (ar : Option Addr) (es : List EdgeV), p ≤ nv ∧ i = .int .i64 (p : Int) ∧ r = .slice ar nr cr ∧ nr ≤ ne + 1 ∧ Hid (RP t vs es p (p + 1)) ∧ Hid (TRg w w9.heap.size g m t gv nv vs ar nr cr es wr)) (fun _ i _ => nv - (intOf i).toNat)
      case atStart => exact ⟨0, ne, c10, a10, tE t, by omega, rfl, rfl, by omega, RP.zero t vs, HR1⟩
      case round =>
        obtain ⟨p, nr, cr, ar, es, hp, rfl, rfl, hnr, HP, HG⟩ := hrel
        clear HR1
        by_cases hltp : p < nv
        · obtain ⟨x, hx⟩ : ∃ x, vs[p]? = some x := ⟨vs[p]'(by have := HG.out.iv.1; omega), List.getElem?_eq_getElem _⟩
          have HX := hideIt hx
          have d4 : decide ((p : Int) < (nv : Int)) = true := decide_eq_true (by omega)
          have q7 : IntKind.i64.wrap ((p : Int) + 1) = (p : Int) + 1 := by rw [IntKind.wrap_i64]; omega
          clear hx
          go_wp2
          go_loopw [12, 14] (fun r i wr => ∃ (q nr cr : Nat) (ar : Option Addr) (es : List EdgeV), p + 1 ≤ q ∧ q ≤ nv ∧ i = .int .i64 (q : Int) ∧ r = .slice ar nr cr ∧ nr ≤ ne + 1 ∧ Hid (RP t vs es p q) ∧ Hid (TRg w w9.heap.size g m t gv nv vs ar nr cr es wr)) (fun _ i _ => nv - (intOf i).toNat)
          case atStart => exact ⟨p + 1, nr, cr, ar, es, by omega, by omega, by go_num, rfl, hnr, HP, HG⟩
          case round =>
            obtain ⟨q, nr, cr, ar, es, hq0, hq, rfl, rfl, hnr, HP, HG⟩ := hrel
            by_cases hltq : q < nv
            · obtain ⟨y, hy⟩ : ∃ y, vs[q]? = some y := ⟨vs[q]'(by have := HG.out.iv.1; omega), List.getElem?_eq_getElem _⟩
              have HY := hideIt hy
              have hpq : p < q := by omega
              have HC : Hid (∀ u, TRg w w9.heap.size g m t gv nv vs ar nr cr es u → u.cell? ⟨gv, p, none⟩ = some (.int .i64 x) ∧ u.cell? ⟨gv, q, none⟩ = some (.int .i64 y)) := fun u hu =>
                ⟨by have := hu.iv.at HX.out; simpa using this, by have := hu.iv.at hy; simpa using this⟩
              have HH : Hid (∀ u, TRg w w9.heap.size g m t gv nv vs ar nr cr es u → Calls Try.prog 19 #[.slice ar nr cr, .agg #[.int .i64 x, .int .i64 y]] u fun e v => e = .returned (.bool (hasB es (x, y))) ∧ Below u.heap.size u v) := fun u hu =>
                has_any es (x, y) nr ar cr (by omega) u hu.es
              have S0 : TRg w w9.heap.size g m t gv nv vs ar nr cr es wr.drew := HG.out.up (Below.refl _ _).drew
              have SA : TRg w w9.heap.size g m t gv nv vs ar nr cr es (wr.alloc (.cells #[.int .i64 0, .int .i64 0] 40)).drew := HG.out.up ((Below.refl _ _).alloc (Nat.le_refl _) _).drew
              have SC : TRg w w9.heap.size g m t gv nv vs ar nr cr es (wr.alloc (.cells #[.int .i64 x, .int .i64 y] 40)).drew := HG.out.up ((Below.refl _ _).alloc (Nat.le_refl _) _).drew
              obtain ⟨e1, e2⟩ := HC.out _ HG.out
              have d5 : decide ((q : Int) < (nv : Int)) = true := decide_eq_true (by omega)
              have z1 : (0 : Int) ≤ (p : Int) := by omega
              have z2 : (p : Int) < (nv : Int) := by omega
              have z3 : (0 : Int) ≤ (q : Int) := by omega
              have z4 : (q : Int) < (nv : Int) := by omega
              have z5 : IntKind.i64.wrap ((q : Int) + 1) = (q : Int) + 1 := by rw [IntKind.wrap_i64]; omega
              clear hy
              go_wp2
              go_region_held3 (fun u => u.cell? ⟨gv, p, none⟩ = some (.int .i64 x) ∧ u.cell? ⟨gv, q, none⟩ = some (.int .i64 y))
                (first | exact HC.out _ S0 | exact HC.out _ SA | exact HC.out _ SC)
                (fail)
              have HF : Hid (∀ v : World, Below (wr.alloc (.cells #[.int .i64 x, .int .i64 y] 40)).drew.heap.size (wr.alloc (.cells #[.int .i64 x, .int .i64 y] 40)).drew v → TRg w w9.heap.size g m t gv nv vs ar nr cr es v ∧ v.cell? ⟨wr.heap.size, 0, none⟩ = some (.int .i64 x) ∧ v.cell? ⟨wr.heap.size, 1, none⟩ = some (.int .i64 y)) := fun v hv =>
                ⟨SC.up hv, by rw [hv.cell (p := ⟨wr.heap.size, 0, none⟩) (by simp)]; simp, by rw [hv.cell (p := ⟨wr.heap.size, 1, none⟩) (by simp)]; simp⟩
              have HSC := hideIt SC
              clear S0 SA SC e1 e2
              cases hh : hasB es (x, y) with
              | true =>
                rw [hh] at HH
                have HP2 := hideIt (HP.out.no HX.out HY.out (fun h => h ▸ of_decide_eq_true hh))
                clear hh HP
                go_wp2_with (go_at_call 19; refine (HH.out _ HSC.out).mono ?_; rintro e11 w11 ⟨rfl, hb11⟩; refine Hid.out ?_)
                refine (show ∀ {p : Prop}, p → Hid p from fun h => h) ?_
                have HG2 := hideIt (HF.out _ hb11).1
                clear hb11 HF HSC
                go_wp2
                exact ⟨⟨q + 1, nr, cr, ar, es, by omega, by omega, by go_num, rfl, hnr, HP2, HG2⟩, by simp [intOf]; omega⟩
              | false =>
                rw [hh] at HH
                by_cases hne : nr = ne
                · have HP2 : Hid (RP t vs (es ++ [(x, y)]) p (q + 1)) := HP.out.put (by rw [HG.out.len, HTL.out]; exact hne) HVV.out.1.symm hpq HX.out HY.out
                  have hne2 := hne.symm
                  clear hh HP hne
                  subst hne2
                  have d6 : ((ne : Int) == (ne : Int)) = true := by simp
                  go_wp2_with (go_at_call 19; refine (HH.out _ HSC.out).mono ?_; rintro e11 w11 ⟨rfl, hb11⟩; refine Hid.out ?_)
                  refine (show ∀ {p : Prop}, p → Hid p from fun h => h) ?_
                  obtain ⟨G2, f1, f2⟩ := HF.out _ hb11
                  have hba : Below w11.heap.size w11 (w11.alloc (.cells #[.int .i64 x, .int .i64 y] 40)) := (Below.refl _ _).alloc (Nat.le_refl _) _
                  have G3 := G2.up hba
                  clear hb11 HF HSC hba G2
                  go_wp2_with (at_builtin; refine wpList_append_own _ rfl _ _ 37 rfl w9.heap.size 40 i0 _ 2 16 Try.underlying37 hi hz0 hz1 hz2 rfl (by decide) _ _ _ rfl G3.own ⟨w11.heap.size, 0, none⟩ 1 1 [.int .i64 x, .int .i64 y] rfl rfl (news1 w11 (x, y)) (by intro u hu; simp at hu; rcases hu with rfl | rfl <;> rfl) (by unfold maxLen; omega) (by omega) G3.high ?_; intro v1 w12 hown hg hn; obtain ⟨a12, c12, hv1⟩ := own_form hown; subst hv1; have G4 := G3.app (xs := [(x, y)]) (by simpa [ecells, ecell] using hown) hg; refine Hid.out ?_)
                  refine (show ∀ {p : Prop}, p → Hid p from fun h => h) ?_
                  have HG2 := hideIt G4
                  clear G4 G3 hown hg hn f1 f2
                  go_wp2
                  exact ⟨⟨q + 1, ne + 1, c12, a12, es ++ [(x, y)], by omega, by omega, by go_num, rfl, by omega, HP2, HG2⟩, by simp [intOf]; omega⟩
                · have d6 : ((nr : Int) == (ne : Int)) = false := by
                    have : (nr : Int) ≠ (ne : Int) := by omega
                    simpa using this
                  have HP2 := hideIt (HP.out.no HX.out HY.out (fun h => absurd (by rw [← HG.out.len, ← HTL.out, h]) hne))
                  clear hh HP
                  go_wp2_with (go_at_call 19; refine (HH.out _ HSC.out).mono ?_; rintro e11 w11 ⟨rfl, hb11⟩; refine Hid.out ?_)
                  refine (show ∀ {p : Prop}, p → Hid p from fun h => h) ?_
                  have HG2 := hideIt (HF.out _ hb11).1
                  clear hb11 HF HSC
                  go_wp2
                  exact ⟨⟨q + 1, nr, cr, ar, es, by omega, by omega, by go_num, rfl, hnr, HP2, HG2⟩, by simp [intOf]; omega⟩
            · have d5 : decide ((q : Int) < (nv : Int)) = false := decide_eq_false (by omega)
              have HP2 := hideIt (HP.out.row (by have := HVV.out.2; omega))
              clear HP
              go_wp2
              exact ⟨⟨p + 1, nr, cr, ar, es, by omega, by go_num, rfl, hnr, HP2, HG⟩, by simp [intOf]; omega⟩
        · have d4 : decide ((p : Int) < (nv : Int)) = false := decide_eq_false (by omega)
          obtain ⟨e9, hes, h91, h92, h93⟩ := RP.all HB.out.1 (by have := HTL.out; omega) (show RP t (vsL t) es p (p + 1) by rw [HVV.out.1]; exact HP.out) (by rw [HVV.out.1]; have := HVV.out.2; omega)
          have HX3 : Hid (Calls Try.prog 20 #[.int .i64 12, .slice ar nr cr, .int .i64 (r0 : Int)] wr fun e w' => e = .returned (.tuple #[.slice none 0 0, .bool false]) ∧ Below wr.heap.size wr w') := by
            refine iTourOf_no es nr ar cr (r0 : Int) (by omega) ?_ ?_ wr HG.out.es
            · rw [hes]; exact RP.eB HB.out.1 h91 h92 h93
            · rw [hes]; exact tE_ring HB.out.1 h91 h92
          have e0 : wr.cell? ⟨g, 0, none⟩ = some (.int .i64 (r0 : Int)) := by have := HG.out.it.at HR.out.1; simpa using this
          clear hes h91 h92 h93 HP
          go_wp2_with (go_at_call 20; refine HX3.out.mono ?_; rintro e13 w13 ⟨rfl, hb13⟩)
          go_ret
          exact ⟨rfl, HG.out.good.up hb13⟩
end Go.Proofs.Ytcppbgkocipnlaa
