/- The program's SplitTour. -/
import Derived.Test.YtklalfkdikjkfaaGreatKSplit
namespace Go.Proofs.YtklalfkdikjkfaaGreat
open Go.RowKit

theorem parts_of2 {x : World} {B : Nat} {p1 p2 : PartI} (hB : B < x.heap.size) (c1 : x.cell? ⟨B, 0, none⟩ = some (.slice p1.a p1.m p1.c)) (c2 : x.cell? ⟨B, 1, none⟩ = some (.slice p2.a p2.m p2.c)) (h1 : Is x x.heap.size p1.a p1.m p1.ls) (h2 : Is x x.heap.size p2.a p2.m p2.ls) : PartsI x B [p1, p2] := by
  refine ⟨hB, fun j q hq => ?_⟩
  rcases j with _ | _ | j
  · simp at hq; subst hq; exact ⟨c1, h1⟩
  · simp at hq; subst hq; exact ⟨c2, h2⟩
  · simp at hq
theorem parts_of1 {x : World} {B : Nat} {p1 : PartI} (hB : B < x.heap.size) (c1 : x.cell? ⟨B, 0, none⟩ = some (.slice p1.a p1.m p1.c)) (h1 : Is x x.heap.size p1.a p1.m p1.ls) : PartsI x B [p1] := by
  refine ⟨hB, fun j q hq => ?_⟩
  rcases j with _ | j
  · simp at hq; subst hq; exact ⟨c1, h1⟩
  · simp at hq

theorem RBox.lower {u : World} {lo lo' hi : Nat} {a : Option Addr} {m c : Nat} {ls : List Int} (h : RBox u lo hi a m c ls) (hl : lo' ≤ lo) : RBox u lo' hi a m c ls := ⟨own_mono h.own hl, h.row, h.there⟩
/-- the part with the root is laid -/
theorem laidTwo {t : List Int} {b off n d q : Nat} {w2 : World} {a2 : Option Addr} {cc : Nat} (hI : Is w2 w2.heap.size (some ⟨b, off, none⟩) n t) (hd : d + 1 ≤ n) (hq : q + 2 ≤ n) (hn : n ≤ 1048576) (ha : n = q + 2 ∨ a2 = some ⟨b, off + (q + 2), none⟩) (x : World) (B : Nat) (hx : Below w2.heap.size w2 x) (hB : B < x.heap.size)
    (c1 : x.cell? ⟨B, 0, none⟩ = some (.slice (some ⟨b, off, none⟩) (d + 1) (d + 1))) (c2 : x.cell? ⟨B, 1, none⟩ = some (.slice a2 (n - (q + 2)) cc)) :
    Calls Tryz.prog 104 #[.slice (some ⟨B, 0, none⟩) 2 2] x fun e y => ∃ g m, e = .returned (.slice (some ⟨g, 0, none⟩) m m) ∧ RBox y x.heap.size y.heap.size (some ⟨g, 0, none⟩) m m (t.take (d + 1) ++ t.drop (q + 2)) ∧ Below x.heap.size x y ∧ Below w2.heap.size w2 y := by
  have hi := hI.up hx
  have h2 : Is x x.heap.size a2 (n - (q + 2)) (t.drop (q + 2)) := by
    rcases ha with ha | ha
    · rw [show n - (q + 2) = 0 by omega]
      exact Is.none_of (by rw [List.length_drop, hi.1]; omega)
    · rw [ha]; exact hi.drop hq
  have hP := parts_of2 (p1 := ⟨some ⟨b, off, none⟩, d + 1, d + 1, t.take (d + 1)⟩) (p2 := ⟨a2, n - (q + 2), cc, t.drop (q + 2)⟩) hB c1 c2 (hi.take hd) h2
  refine (laid_any _ _ 2 rfl (by omega) _ hP (by simp [qLen]; omega)).mono fun e y ⟨g, m, he, ho, hb⟩ => ⟨g, m, he, ?_, hb, hx.trans (hb.mono hx.size)⟩
  have hq : qAll [⟨some ⟨b, off, none⟩, d + 1, d + 1, t.take (d + 1)⟩, ⟨a2, n - (q + 2), cc, t.drop (q + 2)⟩] = t.take (d + 1) ++ t.drop (q + 2) := by simp [qAll]
  rw [hq] at ho
  exact RBox.laid ho
/-- the other part is laid -/
theorem laidOne {t : List Int} {b off n d q : Nat} {w2 : World} {a3 : Option Addr} {cc : Nat} (hI : Is w2 w2.heap.size (some ⟨b, off, none⟩) n t) (hd : d ≤ q) (hq : q + 1 ≤ n) (hn : n ≤ 1048576) (ha : q = d ∨ a3 = some ⟨b, off + (d + 1), none⟩) (x : World) (B : Nat) (hx : Below w2.heap.size w2 x) (hB : B < x.heap.size)
    (c1 : x.cell? ⟨B, 0, none⟩ = some (.slice a3 (q - d) cc)) :
    Calls Tryz.prog 104 #[.slice (some ⟨B, 0, none⟩) 1 1] x fun e y => ∃ g m, e = .returned (.slice (some ⟨g, 0, none⟩) m m) ∧ RBox y x.heap.size y.heap.size (some ⟨g, 0, none⟩) m m ((t.take (q + 1)).drop (d + 1)) ∧ Below x.heap.size x y ∧ Below w2.heap.size w2 y := by
  have hi := hI.up hx
  have h2 : Is x x.heap.size a3 (q - d) ((t.take (q + 1)).drop (d + 1)) := by
    rcases ha with ha | ha
    · rw [show q - d = 0 by omega]
      exact Is.none_of (by rw [List.length_drop, List.length_take, hi.1]; omega)
    · rw [ha, show q - d = q + 1 - (d + 1) by omega]; exact (hi.take hq).drop (by omega)
  have hP := parts_of1 (p1 := ⟨a3, q - d, cc, (t.take (q + 1)).drop (d + 1)⟩) hB c1 h2
  refine (laid_any _ _ 1 rfl (by omega) _ hP (by simp [qLen]; omega)).mono fun e y ⟨g, m, he, ho, hb⟩ => ⟨g, m, he, ?_, hb, hx.trans (hb.mono hx.size)⟩
  have hq : qAll [⟨a3, q - d, cc, (t.take (q + 1)).drop (d + 1)⟩] = (t.take (q + 1)).drop (d + 1) := by simp [qAll]
  rw [hq] at ho
  exact RBox.laid ho
theorem t2_yes {w w3 w4 : World} {o : List Int × List Int × Bool} {t : List Int} {d q : Nat} (ho : o = spT t d q) {l1 h1 l2 : Nat} {a a' : Option Addr} {m c m' c' : Nat} (hw : w.heap.size ≤ l1) (h12 : h1 = w3.heap.size) (h23 : w3.heap.size ≤ l2) (hl : l1 ≤ h1)
    (R1 : RBox w3 l1 h1 a m c (t.take (d + 1) ++ t.drop (q + 2))) (hb : Below w3.heap.size w3 w4) (R2 : RBox w4 l2 w4.heap.size a' m' c' ((t.take (q + 1)).drop (d + 1))) (h : Below w.heap.size w w4) :
    T2Ans w o (.returned (.tuple #[.slice a m c, .slice a' m' c', .bool true])) w4 := by
  subst ho
  exact ⟨a, m, c, a', m', c', h1, rfl, by omega, (R1.up hb).lower hw, R2.lower (by omega), h⟩

set_option maxRecDepth 100000 in
set_option maxHeartbeats 40000000 in
theorem iSplitTour_any (t : List Int) (u v : Int) (n : Nat) (a : Option Addr) (c : Nat) (hn : n ≤ 1048576) (hc : n ≤ c) (w : World) (h : Is w w.heap.size a n t) :
    Calls Tryz.prog 58 #[.slice a n c, .int .i64 u, .int .i64 v] w fun e w' => T2Ans w (spO t u v) e w' := by
  have HG1 := hideIt (stepAt_any t u v n a c (by omega) w h)
  have HG2 := hideIt (stepAt_any t v u n a c (by omega) w h)
  have HT := hideIt (iTourOk_any t n a c (by omega) w h)
  have HI := hideIt h
  have hlen := h.1
  cases hT : tB t with
  | false =>
    have HO := hideIt (show spO t u v = ([], [], false) by unfold spO; rw [if_neg (fun hh => by have := hh.1; rw [hT] at this; simp at this)])
    rw [hT] at HT
    clear hT h
    go_enter Tryz.func58, Tryz.ntmps58
    go_wp2_with (first | (go_at_call 108; refine HG1.out.mono ?_; clear HG1; rintro e w1 ⟨rfl, hw⟩; have hw' := hw.symm; subst hw'; clear hw) | (go_at_call 108; refine HG2.out.mono ?_; rintro e w1 ⟨rfl, hw⟩; have hw' := hw.symm; subst hw'; clear hw) | (go_at_call 103; refine HT.out.mono ?_; rintro e w2 ⟨rfl, hb2⟩))
    go_ret3
    exact t2_no HO.out hb2
  | true =>
    rw [hT] at HT
    rcases go_at (t := t) (u := u) (v := v) with ⟨k, hk, _⟩ | ⟨hk, _⟩
    · obtain ⟨p, hp, hpn, hkn⟩ := go_both hT hk
      rw [hk] at HG1
      rw [hp] at HG2
      rw [hlen] at hpn hkn
      obtain ⟨d, hd⟩ : ∃ d, d = min k p := ⟨_, rfl⟩
      obtain ⟨q, hq⟩ : ∃ q, q = max k p := ⟨_, rfl⟩
      have hm1 : min (k : Int) (p : Int) = (d : Int) := by rw [hd]; omega
      have hm2 : max (k : Int) (p : Int) = (q : Int) := by rw [hq]; omega
      have HO := hideIt (show spO t u v = spT t d q by unfold spO; rw [if_pos ⟨hT, by rw [hk]; omega⟩, hk, hp, hm1, hm2]; rfl)
      have hdq : d ≤ q := by omega
      have hqn : q + 1 < n := by omega
      have d1 : decide ((k : Int) < 0) = false := decide_eq_false (by omega)
      obtain ⟨b, off, rfl⟩ : ∃ b off, a = some ⟨b, off, none⟩ := by
        rcases h.2 with hz | ⟨b, off, h1, _⟩
        · omega
        · exact ⟨b, off, h1⟩
      clear hT h hk hp hd hq
      go_enter Tryz.func58, Tryz.ntmps58
      go_wp2_with (first | (go_at_call 108; refine HG1.out.mono ?_; clear HG1; rintro e w1 ⟨rfl, hw⟩; have hw' := hw.symm; subst hw'; clear hw) | (go_at_call 108; refine HG2.out.mono ?_; rintro e w1 ⟨rfl, hw⟩; have hw' := hw.symm; subst hw'; clear hw) | (go_at_call 103; refine HT.out.mono ?_; rintro e w2 ⟨rfl, hb2⟩; refine Hid.out ?_))
      refine (show ∀ {p : Prop}, p → Hid p from fun h => h) ?_
      rcases Nat.lt_trichotomy k p with hkp | hkp | hkp
      · have hkp2 : ¬ (p < k) := by omega
        obtain rfl : d = k := by omega
        obtain rfl : q = p := by omega
        have hqd : ¬ (q = d) := by omega
        by_cases hz : n = q + 2
        · have e1 : ((d : Int) + 1).toNat = d + 1 := by omega
          have e2 : ((q : Int) + 1).toNat = q + 1 := by omega
          have pw2 : IntKind.i64.wrap ((q : Int) + 1) = (q : Int) + 1 := by rw [IntKind.wrap_i64]; omega
          have e3 : ((q : Int) + 1 + 1).toNat = q + 2 := by omega
          have pw1 : IntKind.i64.wrap ((d : Int) + 1) = (d : Int) + 1 := by rw [IntKind.wrap_i64]; omega
          have pw3 : IntKind.i64.wrap ((q : Int) + 1 + 1) = (q : Int) + 1 + 1 := by rw [IntKind.wrap_i64]; omega
          have p1 : (0 : Int) ≤ (d : Int) + 1 := by omega
          have p2 : (d : Int) + 1 ≤ (c : Int) := by omega
          have p3 : (0 : Int) ≤ (q : Int) + 1 + 1 := by omega
          have p4 : (q : Int) + 1 + 1 ≤ (n : Int) := by omega
          have p5 : (n : Int) ≤ (c : Int) := by omega
          have p6 : (d : Int) + 1 ≤ (q : Int) + 1 := by omega
          have p7 : (q : Int) + 1 ≤ (c : Int) := by omega
          have p8 : (0 : Int) ≤ (q : Int) + 1 := by omega
          have HL2 : Hid (∀ x B, Below w2.heap.size w2 x → B < x.heap.size → x.cell? ⟨B, 0, none⟩ = some (.slice (some ⟨b, off, none⟩) (d + 1) (d + 1)) → x.cell? ⟨B, 1, none⟩ = some (.slice (some ⟨b, off, none⟩) 0 0) →
              Calls Tryz.prog 104 #[.slice (some ⟨B, 0, none⟩) 2 2] x fun e y => ∃ g m, e = .returned (.slice (some ⟨g, 0, none⟩) m m) ∧ RBox y x.heap.size y.heap.size (some ⟨g, 0, none⟩) m m (t.take (d + 1) ++ t.drop (q + 2)) ∧ Below x.heap.size x y ∧ Below w2.heap.size w2 y) := fun x B hx hB c1 c2 =>
            laidTwo (a2 := some ⟨b, off, none⟩) (cc := 0) (HI.out.up hb2) (by omega) (by omega) hn (.inl hz) x B hx hB c1 (by rw [show n - (q + 2) = 0 by omega]; exact c2)
          have HL1 : Hid (∀ x B, Below w2.heap.size w2 x → B < x.heap.size → x.cell? ⟨B, 0, none⟩ = some (.slice (some ⟨b, off + (d + 1), none⟩) (q - d) (q - d)) →
              Calls Tryz.prog 104 #[.slice (some ⟨B, 0, none⟩) 1 1] x fun e y => ∃ g m, e = .returned (.slice (some ⟨g, 0, none⟩) m m) ∧ RBox y x.heap.size y.heap.size (some ⟨g, 0, none⟩) m m ((t.take (q + 1)).drop (d + 1)) ∧ Below x.heap.size x y ∧ Below w2.heap.size w2 y) := fun x B hx hB c1 =>
            laidOne (a3 := some ⟨b, off + (d + 1), none⟩) (cc := (q - d)) (HI.out.up hb2) (by omega) (by omega) hn (.inr rfl) x B hx hB (c1)
          clear hm1 hm2 HI HT HG2
          go_wp2
          go_region_with (first
            | (go_at_call 104; refine (HL2.out _ _ (by first | exact ((Below.refl _ _).alloc (Nat.le_refl _) _).drew | exact (((Below.refl _ _).alloc (Nat.le_refl _) _).alloc (by simp) _).drew) (by first | (simp; done) | (simp; omega)) (by simp [go_sem]) (by simp [go_sem])).mono ?_; clear HL2; rintro e w3 ⟨g3, m3, rfl, R3, hb3, B3⟩)
            | (go_at_call 104; refine (HL1.out _ _ (by first | exact B3 | exact B3.alloc B3.size _) (by first | (simp; done) | (have hz3 := hb3.size; simp at hz3 ⊢; omega)) (by first | (simp [go_sem]; done) | (simp [go_sem, hqd]; done) | (rw [hb3.cell (by first | (simp; done) | (simp; omega))]; simp [go_sem]; done) | (rw [hb3.cell (by first | (simp; done) | (simp; omega))]; simp [go_sem, hqd]; done))).mono ?_; rintro e w4 ⟨g4, m4, rfl, R4, hb4, B4⟩))
          all_goals
            go_wp2
            go_ret3
            exact t2_yes HO.out (by have := hb2.size; simp; omega) rfl (by simp) (by have := hb3.size; simpa using this) R3 (by first | exact hb4 | exact ((Below.refl _ _).alloc (Nat.le_refl _) _).trans (hb4.mono (by simp))) R4 (hb2.trans (B4.mono hb2.size))
        · have e1 : ((d : Int) + 1).toNat = d + 1 := by omega
          have e2 : ((q : Int) + 1).toNat = q + 1 := by omega
          have pw2 : IntKind.i64.wrap ((q : Int) + 1) = (q : Int) + 1 := by rw [IntKind.wrap_i64]; omega
          have e3 : ((q : Int) + 1 + 1).toNat = q + 2 := by omega
          have pw1 : IntKind.i64.wrap ((d : Int) + 1) = (d : Int) + 1 := by rw [IntKind.wrap_i64]; omega
          have pw3 : IntKind.i64.wrap ((q : Int) + 1 + 1) = (q : Int) + 1 + 1 := by rw [IntKind.wrap_i64]; omega
          have p1 : (0 : Int) ≤ (d : Int) + 1 := by omega
          have p2 : (d : Int) + 1 ≤ (c : Int) := by omega
          have p3 : (0 : Int) ≤ (q : Int) + 1 + 1 := by omega
          have p4 : (q : Int) + 1 + 1 ≤ (n : Int) := by omega
          have p5 : (n : Int) ≤ (c : Int) := by omega
          have p6 : (d : Int) + 1 ≤ (q : Int) + 1 := by omega
          have p7 : (q : Int) + 1 ≤ (c : Int) := by omega
          have p8 : (0 : Int) ≤ (q : Int) + 1 := by omega
          have HL2 : Hid (∀ x B, Below w2.heap.size w2 x → B < x.heap.size → x.cell? ⟨B, 0, none⟩ = some (.slice (some ⟨b, off, none⟩) (d + 1) (d + 1)) → x.cell? ⟨B, 1, none⟩ = some (.slice (some ⟨b, off + (q + 2), none⟩) (n - (q + 2)) (n - (q + 2))) →
              Calls Tryz.prog 104 #[.slice (some ⟨B, 0, none⟩) 2 2] x fun e y => ∃ g m, e = .returned (.slice (some ⟨g, 0, none⟩) m m) ∧ RBox y x.heap.size y.heap.size (some ⟨g, 0, none⟩) m m (t.take (d + 1) ++ t.drop (q + 2)) ∧ Below x.heap.size x y ∧ Below w2.heap.size w2 y) := fun x B hx hB c1 c2 =>
            laidTwo (a2 := some ⟨b, off + (q + 2), none⟩) (cc := (n - (q + 2))) (HI.out.up hb2) (by omega) (by omega) hn (.inr rfl) x B hx hB c1 (c2)
          have HL1 : Hid (∀ x B, Below w2.heap.size w2 x → B < x.heap.size → x.cell? ⟨B, 0, none⟩ = some (.slice (some ⟨b, off + (d + 1), none⟩) (q - d) (q - d)) →
              Calls Tryz.prog 104 #[.slice (some ⟨B, 0, none⟩) 1 1] x fun e y => ∃ g m, e = .returned (.slice (some ⟨g, 0, none⟩) m m) ∧ RBox y x.heap.size y.heap.size (some ⟨g, 0, none⟩) m m ((t.take (q + 1)).drop (d + 1)) ∧ Below x.heap.size x y ∧ Below w2.heap.size w2 y) := fun x B hx hB c1 =>
            laidOne (a3 := some ⟨b, off + (d + 1), none⟩) (cc := (q - d)) (HI.out.up hb2) (by omega) (by omega) hn (.inr rfl) x B hx hB (c1)
          clear hm1 hm2 HI HT HG2
          go_wp2
          go_region_with (first
            | (go_at_call 104; refine (HL2.out _ _ (by first | exact ((Below.refl _ _).alloc (Nat.le_refl _) _).drew | exact (((Below.refl _ _).alloc (Nat.le_refl _) _).alloc (by simp) _).drew) (by first | (simp; done) | (simp; omega)) (by simp [go_sem]) (by simp [go_sem])).mono ?_; clear HL2; rintro e w3 ⟨g3, m3, rfl, R3, hb3, B3⟩)
            | (go_at_call 104; refine (HL1.out _ _ (by first | exact B3 | exact B3.alloc B3.size _) (by first | (simp; done) | (have hz3 := hb3.size; simp at hz3 ⊢; omega)) (by first | (simp [go_sem]; done) | (simp [go_sem, hqd]; done) | (rw [hb3.cell (by first | (simp; done) | (simp; omega))]; simp [go_sem]; done) | (rw [hb3.cell (by first | (simp; done) | (simp; omega))]; simp [go_sem, hqd]; done))).mono ?_; rintro e w4 ⟨g4, m4, rfl, R4, hb4, B4⟩))
          all_goals
            go_wp2
            go_ret3
            exact t2_yes HO.out (by have := hb2.size; simp; omega) rfl (by simp) (by have := hb3.size; simpa using this) R3 (by first | exact hb4 | exact ((Below.refl _ _).alloc (Nat.le_refl _) _).trans (hb4.mono (by simp))) R4 (hb2.trans (B4.mono hb2.size))
      · subst hkp
        obtain rfl : d = k := by omega
        obtain rfl : q = d := by omega
        have hkp2 : ¬ (q < q) := by omega
        by_cases hz : n = q + 2
        · have e1 : ((q : Int) + 1).toNat = q + 1 := by omega
          have e3 : ((q : Int) + 1 + 1).toNat = q + 2 := by omega
          have pw1 : IntKind.i64.wrap ((q : Int) + 1) = (q : Int) + 1 := by rw [IntKind.wrap_i64]; omega
          have pw3 : IntKind.i64.wrap ((q : Int) + 1 + 1) = (q : Int) + 1 + 1 := by rw [IntKind.wrap_i64]; omega
          have p1 : (0 : Int) ≤ (q : Int) + 1 := by omega
          have p2 : (q : Int) + 1 ≤ (c : Int) := by omega
          have p3 : (0 : Int) ≤ (q : Int) + 1 + 1 := by omega
          have p4 : (q : Int) + 1 + 1 ≤ (n : Int) := by omega
          have p5 : (n : Int) ≤ (c : Int) := by omega
          have p6 : (q : Int) + 1 ≤ (q : Int) + 1 := by omega
          have p7 : (q : Int) + 1 ≤ (c : Int) := by omega
          have p8 : (0 : Int) ≤ (q : Int) + 1 := by omega
          have HL2 : Hid (∀ x B, Below w2.heap.size w2 x → B < x.heap.size → x.cell? ⟨B, 0, none⟩ = some (.slice (some ⟨b, off, none⟩) (q + 1) (q + 1)) → x.cell? ⟨B, 1, none⟩ = some (.slice (some ⟨b, off, none⟩) 0 0) →
              Calls Tryz.prog 104 #[.slice (some ⟨B, 0, none⟩) 2 2] x fun e y => ∃ g m, e = .returned (.slice (some ⟨g, 0, none⟩) m m) ∧ RBox y x.heap.size y.heap.size (some ⟨g, 0, none⟩) m m (t.take (q + 1) ++ t.drop (q + 2)) ∧ Below x.heap.size x y ∧ Below w2.heap.size w2 y) := fun x B hx hB c1 c2 =>
            laidTwo (a2 := some ⟨b, off, none⟩) (cc := 0) (HI.out.up hb2) (by omega) (by omega) hn (.inl hz) x B hx hB c1 (by rw [show n - (q + 2) = 0 by omega]; exact c2)
          have HL1 : Hid (∀ x B, Below w2.heap.size w2 x → B < x.heap.size → x.cell? ⟨B, 0, none⟩ = some (.slice (some ⟨b, off, none⟩) 0 0) →
              Calls Tryz.prog 104 #[.slice (some ⟨B, 0, none⟩) 1 1] x fun e y => ∃ g m, e = .returned (.slice (some ⟨g, 0, none⟩) m m) ∧ RBox y x.heap.size y.heap.size (some ⟨g, 0, none⟩) m m ((t.take (q + 1)).drop (q + 1)) ∧ Below x.heap.size x y ∧ Below w2.heap.size w2 y) := fun x B hx hB c1 =>
            laidOne (a3 := some ⟨b, off, none⟩) (cc := 0) (HI.out.up hb2) (by omega) (by omega) hn (.inl rfl) x B hx hB (by rw [Nat.sub_self]; exact c1)
          clear hm1 hm2 HI HT HG2
          go_wp2
          go_region_with (first
            | (go_at_call 104; refine (HL2.out _ _ (by first | exact ((Below.refl _ _).alloc (Nat.le_refl _) _).drew | exact (((Below.refl _ _).alloc (Nat.le_refl _) _).alloc (by simp) _).drew) (by first | (simp; done) | (simp; omega)) (by simp [go_sem]) (by simp [go_sem])).mono ?_; clear HL2; rintro e w3 ⟨g3, m3, rfl, R3, hb3, B3⟩)
            | (go_at_call 104; refine (HL1.out _ _ (by first | exact B3 | exact B3.alloc B3.size _) (by first | (simp; done) | (have hz3 := hb3.size; simp at hz3 ⊢; omega)) (by first | (simp [go_sem]; done) | (rw [hb3.cell (by first | (simp; done) | (simp; omega))]; simp [go_sem]; done))).mono ?_; rintro e w4 ⟨g4, m4, rfl, R4, hb4, B4⟩))
          all_goals
            go_wp2
            go_ret3
            exact t2_yes HO.out (by have := hb2.size; simp; omega) rfl (by simp) (by have := hb3.size; simpa using this) R3 (by first | exact hb4 | exact ((Below.refl _ _).alloc (Nat.le_refl _) _).trans (hb4.mono (by simp))) R4 (hb2.trans (B4.mono hb2.size))
        · have e1 : ((q : Int) + 1).toNat = q + 1 := by omega
          have e3 : ((q : Int) + 1 + 1).toNat = q + 2 := by omega
          have pw1 : IntKind.i64.wrap ((q : Int) + 1) = (q : Int) + 1 := by rw [IntKind.wrap_i64]; omega
          have pw3 : IntKind.i64.wrap ((q : Int) + 1 + 1) = (q : Int) + 1 + 1 := by rw [IntKind.wrap_i64]; omega
          have p1 : (0 : Int) ≤ (q : Int) + 1 := by omega
          have p2 : (q : Int) + 1 ≤ (c : Int) := by omega
          have p3 : (0 : Int) ≤ (q : Int) + 1 + 1 := by omega
          have p4 : (q : Int) + 1 + 1 ≤ (n : Int) := by omega
          have p5 : (n : Int) ≤ (c : Int) := by omega
          have p6 : (q : Int) + 1 ≤ (q : Int) + 1 := by omega
          have p7 : (q : Int) + 1 ≤ (c : Int) := by omega
          have p8 : (0 : Int) ≤ (q : Int) + 1 := by omega
          have HL2 : Hid (∀ x B, Below w2.heap.size w2 x → B < x.heap.size → x.cell? ⟨B, 0, none⟩ = some (.slice (some ⟨b, off, none⟩) (q + 1) (q + 1)) → x.cell? ⟨B, 1, none⟩ = some (.slice (some ⟨b, off + (q + 2), none⟩) (n - (q + 2)) (n - (q + 2))) →
              Calls Tryz.prog 104 #[.slice (some ⟨B, 0, none⟩) 2 2] x fun e y => ∃ g m, e = .returned (.slice (some ⟨g, 0, none⟩) m m) ∧ RBox y x.heap.size y.heap.size (some ⟨g, 0, none⟩) m m (t.take (q + 1) ++ t.drop (q + 2)) ∧ Below x.heap.size x y ∧ Below w2.heap.size w2 y) := fun x B hx hB c1 c2 =>
            laidTwo (a2 := some ⟨b, off + (q + 2), none⟩) (cc := (n - (q + 2))) (HI.out.up hb2) (by omega) (by omega) hn (.inr rfl) x B hx hB c1 (c2)
          have HL1 : Hid (∀ x B, Below w2.heap.size w2 x → B < x.heap.size → x.cell? ⟨B, 0, none⟩ = some (.slice (some ⟨b, off, none⟩) 0 0) →
              Calls Tryz.prog 104 #[.slice (some ⟨B, 0, none⟩) 1 1] x fun e y => ∃ g m, e = .returned (.slice (some ⟨g, 0, none⟩) m m) ∧ RBox y x.heap.size y.heap.size (some ⟨g, 0, none⟩) m m ((t.take (q + 1)).drop (q + 1)) ∧ Below x.heap.size x y ∧ Below w2.heap.size w2 y) := fun x B hx hB c1 =>
            laidOne (a3 := some ⟨b, off, none⟩) (cc := 0) (HI.out.up hb2) (by omega) (by omega) hn (.inl rfl) x B hx hB (by rw [Nat.sub_self]; exact c1)
          clear hm1 hm2 HI HT HG2
          go_wp2
          go_region_with (first
            | (go_at_call 104; refine (HL2.out _ _ (by first | exact ((Below.refl _ _).alloc (Nat.le_refl _) _).drew | exact (((Below.refl _ _).alloc (Nat.le_refl _) _).alloc (by simp) _).drew) (by first | (simp; done) | (simp; omega)) (by simp [go_sem]) (by simp [go_sem])).mono ?_; clear HL2; rintro e w3 ⟨g3, m3, rfl, R3, hb3, B3⟩)
            | (go_at_call 104; refine (HL1.out _ _ (by first | exact B3 | exact B3.alloc B3.size _) (by first | (simp; done) | (have hz3 := hb3.size; simp at hz3 ⊢; omega)) (by first | (simp [go_sem]; done) | (rw [hb3.cell (by first | (simp; done) | (simp; omega))]; simp [go_sem]; done))).mono ?_; rintro e w4 ⟨g4, m4, rfl, R4, hb4, B4⟩))
          all_goals
            go_wp2
            go_ret3
            exact t2_yes HO.out (by have := hb2.size; simp; omega) rfl (by simp) (by have := hb3.size; simpa using this) R3 (by first | exact hb4 | exact ((Below.refl _ _).alloc (Nat.le_refl _) _).trans (hb4.mono (by simp))) R4 (hb2.trans (B4.mono hb2.size))
      · have hkp2 : ¬ (k < p) := by omega
        obtain rfl : d = p := by omega
        obtain rfl : q = k := by omega
        have hqd : ¬ (q = d) := by omega
        by_cases hz : n = q + 2
        · have e1 : ((d : Int) + 1).toNat = d + 1 := by omega
          have e2 : ((q : Int) + 1).toNat = q + 1 := by omega
          have pw2 : IntKind.i64.wrap ((q : Int) + 1) = (q : Int) + 1 := by rw [IntKind.wrap_i64]; omega
          have e3 : ((q : Int) + 1 + 1).toNat = q + 2 := by omega
          have pw1 : IntKind.i64.wrap ((d : Int) + 1) = (d : Int) + 1 := by rw [IntKind.wrap_i64]; omega
          have pw3 : IntKind.i64.wrap ((q : Int) + 1 + 1) = (q : Int) + 1 + 1 := by rw [IntKind.wrap_i64]; omega
          have p1 : (0 : Int) ≤ (d : Int) + 1 := by omega
          have p2 : (d : Int) + 1 ≤ (c : Int) := by omega
          have p3 : (0 : Int) ≤ (q : Int) + 1 + 1 := by omega
          have p4 : (q : Int) + 1 + 1 ≤ (n : Int) := by omega
          have p5 : (n : Int) ≤ (c : Int) := by omega
          have p6 : (d : Int) + 1 ≤ (q : Int) + 1 := by omega
          have p7 : (q : Int) + 1 ≤ (c : Int) := by omega
          have p8 : (0 : Int) ≤ (q : Int) + 1 := by omega
          have HL2 : Hid (∀ x B, Below w2.heap.size w2 x → B < x.heap.size → x.cell? ⟨B, 0, none⟩ = some (.slice (some ⟨b, off, none⟩) (d + 1) (d + 1)) → x.cell? ⟨B, 1, none⟩ = some (.slice (some ⟨b, off, none⟩) 0 0) →
              Calls Tryz.prog 104 #[.slice (some ⟨B, 0, none⟩) 2 2] x fun e y => ∃ g m, e = .returned (.slice (some ⟨g, 0, none⟩) m m) ∧ RBox y x.heap.size y.heap.size (some ⟨g, 0, none⟩) m m (t.take (d + 1) ++ t.drop (q + 2)) ∧ Below x.heap.size x y ∧ Below w2.heap.size w2 y) := fun x B hx hB c1 c2 =>
            laidTwo (a2 := some ⟨b, off, none⟩) (cc := 0) (HI.out.up hb2) (by omega) (by omega) hn (.inl hz) x B hx hB c1 (by rw [show n - (q + 2) = 0 by omega]; exact c2)
          have HL1 : Hid (∀ x B, Below w2.heap.size w2 x → B < x.heap.size → x.cell? ⟨B, 0, none⟩ = some (.slice (some ⟨b, off + (d + 1), none⟩) (q - d) (q - d)) →
              Calls Tryz.prog 104 #[.slice (some ⟨B, 0, none⟩) 1 1] x fun e y => ∃ g m, e = .returned (.slice (some ⟨g, 0, none⟩) m m) ∧ RBox y x.heap.size y.heap.size (some ⟨g, 0, none⟩) m m ((t.take (q + 1)).drop (d + 1)) ∧ Below x.heap.size x y ∧ Below w2.heap.size w2 y) := fun x B hx hB c1 =>
            laidOne (a3 := some ⟨b, off + (d + 1), none⟩) (cc := (q - d)) (HI.out.up hb2) (by omega) (by omega) hn (.inr rfl) x B hx hB (c1)
          clear hm1 hm2 HI HT HG2
          go_wp2
          go_region_with (first
            | (go_at_call 104; refine (HL2.out _ _ (by first | exact ((Below.refl _ _).alloc (Nat.le_refl _) _).drew | exact (((Below.refl _ _).alloc (Nat.le_refl _) _).alloc (by simp) _).drew) (by first | (simp; done) | (simp; omega)) (by simp [go_sem]) (by simp [go_sem])).mono ?_; clear HL2; rintro e w3 ⟨g3, m3, rfl, R3, hb3, B3⟩)
            | (go_at_call 104; refine (HL1.out _ _ (by first | exact B3 | exact B3.alloc B3.size _) (by first | (simp; done) | (have hz3 := hb3.size; simp at hz3 ⊢; omega)) (by first | (simp [go_sem]; done) | (simp [go_sem, hqd]; done) | (rw [hb3.cell (by first | (simp; done) | (simp; omega))]; simp [go_sem]; done) | (rw [hb3.cell (by first | (simp; done) | (simp; omega))]; simp [go_sem, hqd]; done))).mono ?_; rintro e w4 ⟨g4, m4, rfl, R4, hb4, B4⟩))
          all_goals
            go_wp2
            go_ret3
            exact t2_yes HO.out (by have := hb2.size; simp; omega) rfl (by simp) (by have := hb3.size; simpa using this) R3 (by first | exact hb4 | exact ((Below.refl _ _).alloc (Nat.le_refl _) _).trans (hb4.mono (by simp))) R4 (hb2.trans (B4.mono hb2.size))
        · have e1 : ((d : Int) + 1).toNat = d + 1 := by omega
          have e2 : ((q : Int) + 1).toNat = q + 1 := by omega
          have pw2 : IntKind.i64.wrap ((q : Int) + 1) = (q : Int) + 1 := by rw [IntKind.wrap_i64]; omega
          have e3 : ((q : Int) + 1 + 1).toNat = q + 2 := by omega
          have pw1 : IntKind.i64.wrap ((d : Int) + 1) = (d : Int) + 1 := by rw [IntKind.wrap_i64]; omega
          have pw3 : IntKind.i64.wrap ((q : Int) + 1 + 1) = (q : Int) + 1 + 1 := by rw [IntKind.wrap_i64]; omega
          have p1 : (0 : Int) ≤ (d : Int) + 1 := by omega
          have p2 : (d : Int) + 1 ≤ (c : Int) := by omega
          have p3 : (0 : Int) ≤ (q : Int) + 1 + 1 := by omega
          have p4 : (q : Int) + 1 + 1 ≤ (n : Int) := by omega
          have p5 : (n : Int) ≤ (c : Int) := by omega
          have p6 : (d : Int) + 1 ≤ (q : Int) + 1 := by omega
          have p7 : (q : Int) + 1 ≤ (c : Int) := by omega
          have p8 : (0 : Int) ≤ (q : Int) + 1 := by omega
          have HL2 : Hid (∀ x B, Below w2.heap.size w2 x → B < x.heap.size → x.cell? ⟨B, 0, none⟩ = some (.slice (some ⟨b, off, none⟩) (d + 1) (d + 1)) → x.cell? ⟨B, 1, none⟩ = some (.slice (some ⟨b, off + (q + 2), none⟩) (n - (q + 2)) (n - (q + 2))) →
              Calls Tryz.prog 104 #[.slice (some ⟨B, 0, none⟩) 2 2] x fun e y => ∃ g m, e = .returned (.slice (some ⟨g, 0, none⟩) m m) ∧ RBox y x.heap.size y.heap.size (some ⟨g, 0, none⟩) m m (t.take (d + 1) ++ t.drop (q + 2)) ∧ Below x.heap.size x y ∧ Below w2.heap.size w2 y) := fun x B hx hB c1 c2 =>
            laidTwo (a2 := some ⟨b, off + (q + 2), none⟩) (cc := (n - (q + 2))) (HI.out.up hb2) (by omega) (by omega) hn (.inr rfl) x B hx hB c1 (c2)
          have HL1 : Hid (∀ x B, Below w2.heap.size w2 x → B < x.heap.size → x.cell? ⟨B, 0, none⟩ = some (.slice (some ⟨b, off + (d + 1), none⟩) (q - d) (q - d)) →
              Calls Tryz.prog 104 #[.slice (some ⟨B, 0, none⟩) 1 1] x fun e y => ∃ g m, e = .returned (.slice (some ⟨g, 0, none⟩) m m) ∧ RBox y x.heap.size y.heap.size (some ⟨g, 0, none⟩) m m ((t.take (q + 1)).drop (d + 1)) ∧ Below x.heap.size x y ∧ Below w2.heap.size w2 y) := fun x B hx hB c1 =>
            laidOne (a3 := some ⟨b, off + (d + 1), none⟩) (cc := (q - d)) (HI.out.up hb2) (by omega) (by omega) hn (.inr rfl) x B hx hB (c1)
          clear hm1 hm2 HI HT HG2
          go_wp2
          go_region_with (first
            | (go_at_call 104; refine (HL2.out _ _ (by first | exact ((Below.refl _ _).alloc (Nat.le_refl _) _).drew | exact (((Below.refl _ _).alloc (Nat.le_refl _) _).alloc (by simp) _).drew) (by first | (simp; done) | (simp; omega)) (by simp [go_sem]) (by simp [go_sem])).mono ?_; clear HL2; rintro e w3 ⟨g3, m3, rfl, R3, hb3, B3⟩)
            | (go_at_call 104; refine (HL1.out _ _ (by first | exact B3 | exact B3.alloc B3.size _) (by first | (simp; done) | (have hz3 := hb3.size; simp at hz3 ⊢; omega)) (by first | (simp [go_sem]; done) | (simp [go_sem, hqd]; done) | (rw [hb3.cell (by first | (simp; done) | (simp; omega))]; simp [go_sem]; done) | (rw [hb3.cell (by first | (simp; done) | (simp; omega))]; simp [go_sem, hqd]; done))).mono ?_; rintro e w4 ⟨g4, m4, rfl, R4, hb4, B4⟩))
          all_goals
            go_wp2
            go_ret3
            exact t2_yes HO.out (by have := hb2.size; simp; omega) rfl (by simp) (by have := hb3.size; simpa using this) R3 (by first | exact hb4 | exact ((Below.refl _ _).alloc (Nat.le_refl _) _).trans (hb4.mono (by simp))) R4 (hb2.trans (B4.mono hb2.size))
    · have HO := hideIt (show spO t u v = ([], [], false) by unfold spO; rw [if_neg (fun hh => by have := hh.2; omega)])
      rw [hk] at HG1
      clear hT h
      go_enter Tryz.func58, Tryz.ntmps58
      go_wp2_with (first | (go_at_call 108; refine HG1.out.mono ?_; clear HG1; rintro e w1 ⟨rfl, hw⟩; have hw' := hw.symm; subst hw'; clear hw) | (go_at_call 108; refine HG2.out.mono ?_; rintro e w1 ⟨rfl, hw⟩; have hw' := hw.symm; subst hw'; clear hw) | (go_at_call 103; refine HT.out.mono ?_; rintro e w2 ⟨rfl, hb2⟩))
      go_ret3
      exact t2_no HO.out hb2
end Go.Proofs.YtklalfkdikjkfaaGreat
