/- What a record's kind tells: the program's side. -/
import Derived.Test.YthnibebljbljdaaGreatDoorKSx14
import Derived.Deep.DeepCutAuto
import Derived.Deep.RegionHeld3
namespace Go.Proofs.YthnibebljbljdaaGreatDoor
open Go.RowKit Vt

set_option maxRecDepth 100000 in
theorem isZero_any (num : Int) (ok : Bool) (a1 a2 : Option Addr) (n1 c1 n2 c2 : Nat) (w : World) :
    Calls Tryz.prog 102 #[.agg #[.int .i64 num, .bool ok, .slice a1 n1 c1, .slice a2 n2 c2]] w fun e w' => e = .returned (.bool (azB num ok n1 n2)) ∧ Below w.heap.size w w' := by
  by_cases h1 : num = 0
  · subst h1
    cases ok with
    | true =>
      have e : azB 0 true n1 n2 = false := by simp [azB]
      rw [e]
      go_enter Tryz.func102, Tryz.ntmps102
      go_wp2
      go_ret
      exact ⟨rfl, (Below.refl _ _).alloc (Nat.le_refl _) _⟩
    | false =>
      by_cases h2 : n1 = 0
      · subst h2
        by_cases h3 : n2 = 0
        · subst h3
          have e : azB 0 false 0 0 = true := by simp [azB]
          rw [e]
          go_enter Tryz.func102, Tryz.ntmps102
          go_wp2
          go_ret
          exact ⟨rfl, (Below.refl _ _).alloc (Nat.le_refl _) _⟩
        · have e : azB 0 false 0 n2 = false := by simp [azB, h3]
          have d : ((n2 : Int) == 0) = false := by simpa using h3
          rw [e]
          go_enter Tryz.func102, Tryz.ntmps102
          go_wp2
          go_ret
          exact ⟨rfl, (Below.refl _ _).alloc (Nat.le_refl _) _⟩
      · have e : azB 0 false n1 n2 = false := by simp [azB, h2]
        have d : ((n1 : Int) == 0) = false := by simpa using h2
        rw [e]
        go_enter Tryz.func102, Tryz.ntmps102
        go_wp2
        go_ret
        exact ⟨rfl, (Below.refl _ _).alloc (Nat.le_refl _) _⟩
  · have e : azB num ok n1 n2 = false := by simp [azB, h1]
    have d : (num == 0) = false := by simpa using h1
    rw [e]
    go_enter Tryz.func102, Tryz.ntmps102
    go_wp2
    go_ret
    exact ⟨rfl, (Below.refl _ _).alloc (Nat.le_refl _) _⟩
set_option maxRecDepth 100000 in
theorem ordZ_any (num op v : Int) (a1 : Option Addr) (n1 c1 : Nat) (w : World) :
    Calls Tryz.prog 103 #[.agg #[.int .i64 num, .int .i64 op, .slice a1 n1 c1, .int .i64 v]] w fun e w' => e = .returned (.bool (ozB num op n1 v)) ∧ Below w.heap.size w w' := by
  have HV : Hid (ozB num op n1 v = (decide (num = 0) && (decide (op = 0) && (decide (n1 = 0) && decide (v = 0))))) := by
    show _ = _
    unfold ozB
    by_cases e1 : num = 0 <;> by_cases e2 : op = 0 <;> by_cases e3 : v = 0 <;> by_cases e4 : n1 = 0 <;> simp [e1, e2, e3, e4]
  have d1 : (num == 0) = decide (num = 0) := rfl
  have d2 : (op == 0) = decide (op = 0) := rfl
  have d3 : (v == 0) = decide (v = 0) := rfl
  have d4 : ((n1 : Int) == 0) = decide (n1 = 0) := by
    by_cases h : n1 = 0
    · subst h; rfl
    · rw [decide_eq_false h]; simpa using h
  generalize decide (num = 0) = v1 at *
  generalize decide (op = 0) = v2 at *
  generalize decide (v = 0) = v3 at *
  generalize decide (n1 = 0) = v4 at *
  cases v1 <;> cases v2 <;> cases v4 <;>
    (go_enter Tryz.func103, Tryz.ntmps103
     go_wp2
     go_ret
     exact ⟨by rw [HV.out]; first | rfl | (cases v3 <;> rfl), (Below.refl _ _).alloc (Nat.le_refl _) _⟩)
/-- does it tell what its kind tells, and nothing else? -/
def tkB (kind sh : Int) (kz az oz : Bool) : Bool := if kind = 1 then decide (sh = 0) && (az && oz) else if kind = 2 then kz && oz else if kind = 3 then kz && (decide (sh = 0) && az) else false
set_option maxRecDepth 100000 in
set_option maxHeartbeats 4000000 in
theorem tells_any (kind id op a b sh anum : Int) (aok : Bool) (onum oop ov : Int) (a1 : Option Addr) (k1 c1 : Nat) (a2 : Option Addr) (k2 c2 : Nat) (a3 : Option Addr) (k3 c3 : Nat) (w : World) :
    Calls Tryz.prog 75 #[.agg #[.int .i64 kind, .int .i64 id, .int .i64 op, .int .i64 a, .int .i64 b, .int .i64 sh, .int .i64 anum, .bool aok, .slice a1 k1 c1, .slice a2 k2 c2, .int .i64 onum, .int .i64 oop, .slice a3 k3 c3, .int .i64 ov]] w fun e w' => e = .returned (.bool (tkB kind sh (kzB id op a b) (azB anum aok k1 k2) (ozB onum oop k3 ov))) ∧ Below w.heap.size w w' := by
  obtain ⟨W, hW⟩ : ∃ W, W = w.alloc (.cells #[.int .i64 kind, .int .i64 id, .int .i64 op, .int .i64 a, .int .i64 b, .int .i64 sh, .int .i64 anum, .bool aok, .slice a1 k1 c1, .slice a2 k2 c2, .int .i64 onum, .int .i64 oop, .slice a3 k3 c3, .int .i64 ov] 57) := ⟨_, rfl⟩
  have G0 : Good w W := by rw [hW]; exact (Good.refl w).alloc _
  have HX : Hid (BxQ W w.heap.size 57 #[.int .i64 kind, .int .i64 id, .int .i64 op, .int .i64 a, .int .i64 b, .int .i64 sh, .int .i64 anum, .bool aok, .slice a1 k1 c1, .slice a2 k2 c2, .int .i64 onum, .int .i64 oop, .slice a3 k3 c3, .int .i64 ov]) := by show BxQ _ _ _ _; rw [hW]; exact BxQ.new _ _ _
  have HC : Hid (∀ u, Good W u → u.cell? ⟨w.heap.size, 0, none⟩ = some (.int .i64 kind) ∧ u.cell? ⟨w.heap.size, 1, none⟩ = some (.int .i64 id) ∧ u.cell? ⟨w.heap.size, 2, none⟩ = some (.int .i64 op) ∧ u.cell? ⟨w.heap.size, 3, none⟩ = some (.int .i64 a) ∧ u.cell? ⟨w.heap.size, 4, none⟩ = some (.int .i64 b) ∧ u.cell? ⟨w.heap.size, 5, none⟩ = some (.int .i64 sh) ∧ u.cell? ⟨w.heap.size, 6, none⟩ = some (.int .i64 anum) ∧ u.cell? ⟨w.heap.size, 7, none⟩ = some (.bool aok) ∧ u.cell? ⟨w.heap.size, 8, none⟩ = some (.slice a1 k1 c1) ∧ u.cell? ⟨w.heap.size, 9, none⟩ = some (.slice a2 k2 c2) ∧ u.cell? ⟨w.heap.size, 10, none⟩ = some (.int .i64 onum) ∧ u.cell? ⟨w.heap.size, 11, none⟩ = some (.int .i64 oop) ∧ u.cell? ⟨w.heap.size, 12, none⟩ = some (.slice a3 k3 c3) ∧ u.cell? ⟨w.heap.size, 13, none⟩ = some (.int .i64 ov) ∧ Good W u) := fun u hu => by
    have B := HX.out.gr (gr_below hu none) (by simp)
    exact ⟨B.at 0 rfl, B.at 1 rfl, B.at 2 rfl, B.at 3 rfl, B.at 4 rfl, B.at 5 rfl, B.at 6 rfl, B.at 7 rfl, B.at 8 rfl, B.at 9 rfl, B.at 10 rfl, B.at 11 rfl, B.at 12 rfl, B.at 13 rfl, hu⟩
  have HA : Hid (∀ u, Good W u → Calls Tryz.prog 102 #[.agg #[.int .i64 anum, .bool aok, .slice a1 k1 c1, .slice a2 k2 c2]] u fun e v => e = .returned (.bool (azB anum aok k1 k2)) ∧ Good W v) := fun u hu => (isZero_any anum aok a1 a2 k1 c1 k2 c2 u).mono fun e v ⟨he, hb⟩ => ⟨he, Good.up hu hb⟩
  have HO : Hid (∀ u, Good W u → Calls Tryz.prog 103 #[.agg #[.int .i64 onum, .int .i64 oop, .slice a3 k3 c3, .int .i64 ov]] u fun e v => e = .returned (.bool (ozB onum oop k3 ov)) ∧ Good W v) := fun u hu => (ordZ_any onum oop ov a3 k3 c3 u).mono fun e v ⟨he, hb⟩ => ⟨he, Good.up hu hb⟩
  have HG := hideIt G0
  have hS0 := HC.out _ (Good.refl W).drew
  clear G0 HX
  generalize azB anum aok k1 k2 = az at *
  generalize ozB onum oop k3 ov = oz at *
  have hsh : (sh == 0) = decide (sh = 0) := rfl
  generalize hs0 : decide (sh = 0) = zs at *
  have Hs0 := hideIt hs0
  clear hs0
  by_cases p1 : id = 0
  · subst p1
    by_cases p2 : op = 0
    · subst p2
      by_cases p3 : a = 0
      · subst p3
        by_cases p4 : b = 0
        · subst p4
          have kz : Hid (kzB 0 0 0 0 = true) := by show _ = _; simp [kzB]
          go_enter Tryz.func75, Tryz.ntmps75
          go_upto_region 1 with fail
          rw [← hW]
          clear hW
          go_region_held3 (fun u => u.cell? ⟨w.heap.size, 0, none⟩ = some (.int .i64 kind) ∧ u.cell? ⟨w.heap.size, 1, none⟩ = some (.int .i64 0) ∧ u.cell? ⟨w.heap.size, 2, none⟩ = some (.int .i64 0) ∧ u.cell? ⟨w.heap.size, 3, none⟩ = some (.int .i64 0) ∧ u.cell? ⟨w.heap.size, 4, none⟩ = some (.int .i64 0) ∧ u.cell? ⟨w.heap.size, 5, none⟩ = some (.int .i64 sh) ∧ u.cell? ⟨w.heap.size, 6, none⟩ = some (.int .i64 anum) ∧ u.cell? ⟨w.heap.size, 7, none⟩ = some (.bool aok) ∧ u.cell? ⟨w.heap.size, 8, none⟩ = some (.slice a1 k1 c1) ∧ u.cell? ⟨w.heap.size, 9, none⟩ = some (.slice a2 k2 c2) ∧ u.cell? ⟨w.heap.size, 10, none⟩ = some (.int .i64 onum) ∧ u.cell? ⟨w.heap.size, 11, none⟩ = some (.int .i64 oop) ∧ u.cell? ⟨w.heap.size, 12, none⟩ = some (.slice a3 k3 c3) ∧ u.cell? ⟨w.heap.size, 13, none⟩ = some (.int .i64 ov) ∧ Good W u) (first | assumption)
            (first
              | (go_at_call 102; refine (HA.out _ (And.right (And.right (And.right (And.right (And.right (And.right (And.right (And.right (And.right (And.right (And.right (And.right (And.right (And.right (by assumption)))))))))))))))).mono ?_; rintro e z1 ⟨rfl, gz1⟩; have hz1 := HC.out _ gz1)
              | (go_at_call 103; refine (HO.out _ (And.right (And.right (And.right (And.right (And.right (And.right (And.right (And.right (And.right (And.right (And.right (And.right (And.right (And.right (by assumption)))))))))))))))).mono ?_; rintro e z2 ⟨rfl, gz2⟩; have hz2 := HC.out _ gz2))
          have HGz := hideIt (HG.out.up gz2)
          have c0 := hz2.1
          clear hS0 hz1 hz2 gz1 gz2 HA HO HC
          by_cases q1 : kind = 1
          · subst q1
            cases zs <;> cases az <;>
              (go_wp2
               go_ret
               exact ⟨by unfold tkB; rw [if_pos rfl, Hs0.out]; rfl, HGz.out⟩)
          · have d1 : (kind == 1) = false := by simpa using q1
            by_cases q2 : kind = 2
            · subst q2
              go_wp2
              go_ret
              exact ⟨by unfold tkB; rw [if_neg (by simp), if_pos rfl, kz.out]; rfl, HGz.out⟩
            · have d2 : (kind == 2) = false := by simpa using q2
              by_cases q3 : kind = 3
              · subst q3
                cases zs <;>
                  (go_wp2
                   go_ret
                   exact ⟨by unfold tkB; rw [if_neg (by simp), if_neg (by simp), if_pos rfl, kz.out, Hs0.out]; rfl, HGz.out⟩)
              · have d3 : (kind == 3) = false := by simpa using q3
                go_wp2
                go_ret
                exact ⟨by unfold tkB; rw [if_neg q1, if_neg q2, if_neg q3]; rfl, HGz.out⟩
        · have kz : Hid (kzB 0 0 0 b = false) := by show _ = _; simp [kzB, p4]
          go_enter Tryz.func75, Tryz.ntmps75
          go_upto_region 1 with fail
          rw [← hW]
          clear hW
          go_region_held3 (fun u => u.cell? ⟨w.heap.size, 0, none⟩ = some (.int .i64 kind) ∧ u.cell? ⟨w.heap.size, 1, none⟩ = some (.int .i64 0) ∧ u.cell? ⟨w.heap.size, 2, none⟩ = some (.int .i64 0) ∧ u.cell? ⟨w.heap.size, 3, none⟩ = some (.int .i64 0) ∧ u.cell? ⟨w.heap.size, 4, none⟩ = some (.int .i64 b) ∧ u.cell? ⟨w.heap.size, 5, none⟩ = some (.int .i64 sh) ∧ u.cell? ⟨w.heap.size, 6, none⟩ = some (.int .i64 anum) ∧ u.cell? ⟨w.heap.size, 7, none⟩ = some (.bool aok) ∧ u.cell? ⟨w.heap.size, 8, none⟩ = some (.slice a1 k1 c1) ∧ u.cell? ⟨w.heap.size, 9, none⟩ = some (.slice a2 k2 c2) ∧ u.cell? ⟨w.heap.size, 10, none⟩ = some (.int .i64 onum) ∧ u.cell? ⟨w.heap.size, 11, none⟩ = some (.int .i64 oop) ∧ u.cell? ⟨w.heap.size, 12, none⟩ = some (.slice a3 k3 c3) ∧ u.cell? ⟨w.heap.size, 13, none⟩ = some (.int .i64 ov) ∧ Good W u) (first | assumption)
            (first
              | (go_at_call 102; refine (HA.out _ (And.right (And.right (And.right (And.right (And.right (And.right (And.right (And.right (And.right (And.right (And.right (And.right (And.right (And.right (by assumption)))))))))))))))).mono ?_; rintro e z1 ⟨rfl, gz1⟩; have hz1 := HC.out _ gz1)
              | (go_at_call 103; refine (HO.out _ (And.right (And.right (And.right (And.right (And.right (And.right (And.right (And.right (And.right (And.right (And.right (And.right (And.right (And.right (by assumption)))))))))))))))).mono ?_; rintro e z2 ⟨rfl, gz2⟩; have hz2 := HC.out _ gz2))
          have HGz := hideIt (HG.out.up gz2)
          have c0 := hz2.1
          clear hS0 hz1 hz2 gz1 gz2 HA HO HC
          by_cases q1 : kind = 1
          · subst q1
            cases zs <;> cases az <;>
              (go_wp2
               go_ret
               exact ⟨by unfold tkB; rw [if_pos rfl, Hs0.out]; rfl, HGz.out⟩)
          · have d1 : (kind == 1) = false := by simpa using q1
            by_cases q2 : kind = 2
            · subst q2
              go_wp2
              go_ret
              exact ⟨by unfold tkB; rw [if_neg (by simp), if_pos rfl, kz.out]; rfl, HGz.out⟩
            · have d2 : (kind == 2) = false := by simpa using q2
              by_cases q3 : kind = 3
              · subst q3
                cases zs <;>
                  (go_wp2
                   go_ret
                   exact ⟨by unfold tkB; rw [if_neg (by simp), if_neg (by simp), if_pos rfl, kz.out, Hs0.out]; rfl, HGz.out⟩)
              · have d3 : (kind == 3) = false := by simpa using q3
                go_wp2
                go_ret
                exact ⟨by unfold tkB; rw [if_neg q1, if_neg q2, if_neg q3]; rfl, HGz.out⟩
      · have kz : Hid (kzB 0 0 a b = false) := by show _ = _; simp [kzB, p3]
        go_enter Tryz.func75, Tryz.ntmps75
        go_upto_region 1 with fail
        rw [← hW]
        clear hW
        go_region_held3 (fun u => u.cell? ⟨w.heap.size, 0, none⟩ = some (.int .i64 kind) ∧ u.cell? ⟨w.heap.size, 1, none⟩ = some (.int .i64 0) ∧ u.cell? ⟨w.heap.size, 2, none⟩ = some (.int .i64 0) ∧ u.cell? ⟨w.heap.size, 3, none⟩ = some (.int .i64 a) ∧ u.cell? ⟨w.heap.size, 4, none⟩ = some (.int .i64 b) ∧ u.cell? ⟨w.heap.size, 5, none⟩ = some (.int .i64 sh) ∧ u.cell? ⟨w.heap.size, 6, none⟩ = some (.int .i64 anum) ∧ u.cell? ⟨w.heap.size, 7, none⟩ = some (.bool aok) ∧ u.cell? ⟨w.heap.size, 8, none⟩ = some (.slice a1 k1 c1) ∧ u.cell? ⟨w.heap.size, 9, none⟩ = some (.slice a2 k2 c2) ∧ u.cell? ⟨w.heap.size, 10, none⟩ = some (.int .i64 onum) ∧ u.cell? ⟨w.heap.size, 11, none⟩ = some (.int .i64 oop) ∧ u.cell? ⟨w.heap.size, 12, none⟩ = some (.slice a3 k3 c3) ∧ u.cell? ⟨w.heap.size, 13, none⟩ = some (.int .i64 ov) ∧ Good W u) (first | assumption)
          (first
            | (go_at_call 102; refine (HA.out _ (And.right (And.right (And.right (And.right (And.right (And.right (And.right (And.right (And.right (And.right (And.right (And.right (And.right (And.right (by assumption)))))))))))))))).mono ?_; rintro e z1 ⟨rfl, gz1⟩; have hz1 := HC.out _ gz1)
            | (go_at_call 103; refine (HO.out _ (And.right (And.right (And.right (And.right (And.right (And.right (And.right (And.right (And.right (And.right (And.right (And.right (And.right (And.right (by assumption)))))))))))))))).mono ?_; rintro e z2 ⟨rfl, gz2⟩; have hz2 := HC.out _ gz2))
        have HGz := hideIt (HG.out.up gz2)
        have c0 := hz2.1
        clear hS0 hz1 hz2 gz1 gz2 HA HO HC
        by_cases q1 : kind = 1
        · subst q1
          cases zs <;> cases az <;>
            (go_wp2
             go_ret
             exact ⟨by unfold tkB; rw [if_pos rfl, Hs0.out]; rfl, HGz.out⟩)
        · have d1 : (kind == 1) = false := by simpa using q1
          by_cases q2 : kind = 2
          · subst q2
            go_wp2
            go_ret
            exact ⟨by unfold tkB; rw [if_neg (by simp), if_pos rfl, kz.out]; rfl, HGz.out⟩
          · have d2 : (kind == 2) = false := by simpa using q2
            by_cases q3 : kind = 3
            · subst q3
              cases zs <;>
                (go_wp2
                 go_ret
                 exact ⟨by unfold tkB; rw [if_neg (by simp), if_neg (by simp), if_pos rfl, kz.out, Hs0.out]; rfl, HGz.out⟩)
            · have d3 : (kind == 3) = false := by simpa using q3
              go_wp2
              go_ret
              exact ⟨by unfold tkB; rw [if_neg q1, if_neg q2, if_neg q3]; rfl, HGz.out⟩
    · have kz : Hid (kzB 0 op a b = false) := by show _ = _; simp [kzB, p2]
      go_enter Tryz.func75, Tryz.ntmps75
      go_upto_region 1 with fail
      rw [← hW]
      clear hW
      go_region_held3 (fun u => u.cell? ⟨w.heap.size, 0, none⟩ = some (.int .i64 kind) ∧ u.cell? ⟨w.heap.size, 1, none⟩ = some (.int .i64 0) ∧ u.cell? ⟨w.heap.size, 2, none⟩ = some (.int .i64 op) ∧ u.cell? ⟨w.heap.size, 3, none⟩ = some (.int .i64 a) ∧ u.cell? ⟨w.heap.size, 4, none⟩ = some (.int .i64 b) ∧ u.cell? ⟨w.heap.size, 5, none⟩ = some (.int .i64 sh) ∧ u.cell? ⟨w.heap.size, 6, none⟩ = some (.int .i64 anum) ∧ u.cell? ⟨w.heap.size, 7, none⟩ = some (.bool aok) ∧ u.cell? ⟨w.heap.size, 8, none⟩ = some (.slice a1 k1 c1) ∧ u.cell? ⟨w.heap.size, 9, none⟩ = some (.slice a2 k2 c2) ∧ u.cell? ⟨w.heap.size, 10, none⟩ = some (.int .i64 onum) ∧ u.cell? ⟨w.heap.size, 11, none⟩ = some (.int .i64 oop) ∧ u.cell? ⟨w.heap.size, 12, none⟩ = some (.slice a3 k3 c3) ∧ u.cell? ⟨w.heap.size, 13, none⟩ = some (.int .i64 ov) ∧ Good W u) (first | assumption)
        (first
          | (go_at_call 102; refine (HA.out _ (And.right (And.right (And.right (And.right (And.right (And.right (And.right (And.right (And.right (And.right (And.right (And.right (And.right (And.right (by assumption)))))))))))))))).mono ?_; rintro e z1 ⟨rfl, gz1⟩; have hz1 := HC.out _ gz1)
          | (go_at_call 103; refine (HO.out _ (And.right (And.right (And.right (And.right (And.right (And.right (And.right (And.right (And.right (And.right (And.right (And.right (And.right (And.right (by assumption)))))))))))))))).mono ?_; rintro e z2 ⟨rfl, gz2⟩; have hz2 := HC.out _ gz2))
      have HGz := hideIt (HG.out.up gz2)
      have c0 := hz2.1
      clear hS0 hz1 hz2 gz1 gz2 HA HO HC
      by_cases q1 : kind = 1
      · subst q1
        cases zs <;> cases az <;>
          (go_wp2
           go_ret
           exact ⟨by unfold tkB; rw [if_pos rfl, Hs0.out]; rfl, HGz.out⟩)
      · have d1 : (kind == 1) = false := by simpa using q1
        by_cases q2 : kind = 2
        · subst q2
          go_wp2
          go_ret
          exact ⟨by unfold tkB; rw [if_neg (by simp), if_pos rfl, kz.out]; rfl, HGz.out⟩
        · have d2 : (kind == 2) = false := by simpa using q2
          by_cases q3 : kind = 3
          · subst q3
            cases zs <;>
              (go_wp2
               go_ret
               exact ⟨by unfold tkB; rw [if_neg (by simp), if_neg (by simp), if_pos rfl, kz.out, Hs0.out]; rfl, HGz.out⟩)
          · have d3 : (kind == 3) = false := by simpa using q3
            go_wp2
            go_ret
            exact ⟨by unfold tkB; rw [if_neg q1, if_neg q2, if_neg q3]; rfl, HGz.out⟩
  · have kz : Hid (kzB id op a b = false) := by show _ = _; simp [kzB, p1]
    go_enter Tryz.func75, Tryz.ntmps75
    go_upto_region 1 with fail
    rw [← hW]
    clear hW
    go_region_held3 (fun u => u.cell? ⟨w.heap.size, 0, none⟩ = some (.int .i64 kind) ∧ u.cell? ⟨w.heap.size, 1, none⟩ = some (.int .i64 id) ∧ u.cell? ⟨w.heap.size, 2, none⟩ = some (.int .i64 op) ∧ u.cell? ⟨w.heap.size, 3, none⟩ = some (.int .i64 a) ∧ u.cell? ⟨w.heap.size, 4, none⟩ = some (.int .i64 b) ∧ u.cell? ⟨w.heap.size, 5, none⟩ = some (.int .i64 sh) ∧ u.cell? ⟨w.heap.size, 6, none⟩ = some (.int .i64 anum) ∧ u.cell? ⟨w.heap.size, 7, none⟩ = some (.bool aok) ∧ u.cell? ⟨w.heap.size, 8, none⟩ = some (.slice a1 k1 c1) ∧ u.cell? ⟨w.heap.size, 9, none⟩ = some (.slice a2 k2 c2) ∧ u.cell? ⟨w.heap.size, 10, none⟩ = some (.int .i64 onum) ∧ u.cell? ⟨w.heap.size, 11, none⟩ = some (.int .i64 oop) ∧ u.cell? ⟨w.heap.size, 12, none⟩ = some (.slice a3 k3 c3) ∧ u.cell? ⟨w.heap.size, 13, none⟩ = some (.int .i64 ov) ∧ Good W u) (first | assumption)
      (first
        | (go_at_call 102; refine (HA.out _ (And.right (And.right (And.right (And.right (And.right (And.right (And.right (And.right (And.right (And.right (And.right (And.right (And.right (And.right (by assumption)))))))))))))))).mono ?_; rintro e z1 ⟨rfl, gz1⟩; have hz1 := HC.out _ gz1)
        | (go_at_call 103; refine (HO.out _ (And.right (And.right (And.right (And.right (And.right (And.right (And.right (And.right (And.right (And.right (And.right (And.right (And.right (And.right (by assumption)))))))))))))))).mono ?_; rintro e z2 ⟨rfl, gz2⟩; have hz2 := HC.out _ gz2))
    have HGz := hideIt (HG.out.up gz2)
    have c0 := hz2.1
    clear hS0 hz1 hz2 gz1 gz2 HA HO HC
    by_cases q1 : kind = 1
    · subst q1
      cases zs <;> cases az <;>
        (go_wp2
         go_ret
         exact ⟨by unfold tkB; rw [if_pos rfl, Hs0.out]; rfl, HGz.out⟩)
    · have d1 : (kind == 1) = false := by simpa using q1
      by_cases q2 : kind = 2
      · subst q2
        go_wp2
        go_ret
        exact ⟨by unfold tkB; rw [if_neg (by simp), if_pos rfl, kz.out]; rfl, HGz.out⟩
      · have d2 : (kind == 2) = false := by simpa using q2
        by_cases q3 : kind = 3
        · subst q3
          cases zs <;>
            (go_wp2
             go_ret
             exact ⟨by unfold tkB; rw [if_neg (by simp), if_neg (by simp), if_pos rfl, kz.out, Hs0.out]; rfl, HGz.out⟩)
        · have d3 : (kind == 3) = false := by simpa using q3
          go_wp2
          go_ret
          exact ⟨by unfold tkB; rw [if_neg q1, if_neg q2, if_neg q3]; rfl, HGz.out⟩
end Go.Proofs.YthnibebljbljdaaGreatDoor
