/- The program's members: least and join. -/
import Derived.Test.YtcppbgkocipnlaaLab6
import Derived.Test.YtcppbgkocipnlaaCmp6
namespace Go.Proofs.Ytcppbgkocipnlaa
open Go.RowKit

/-- the pointer to a member -/
def ptrP (g : Nat) : Option Nat → Option Addr
  | none => none
  | some j => some ⟨g, j * 2, none⟩
/-- the members stand in block g, with these parents -/
structure MSt (B g n : Nat) (P : Nat → Option Nat) (u : World) : Prop where
  own : ∃ xs, u.ownsRow B 85 2 (.slice (some ⟨g, 0, none⟩) n n) n xs
  cell : ∀ i, i < n → u.cell? ⟨g, i * 2, none⟩ = some (.int .i64 (i : Int)) ∧ u.cell? ⟨g, i * 2 + 1, none⟩ = some (.pointer (ptrP g (P i)))
/-- where a pointer points to -/
def offOf : Value → Nat
  | .pointer (some a) => a.off
  | _ => 0

set_option maxHeartbeats 1000000 in
theorem mLeast_any {B g n : Nat} {es : List EdgeV} {P : Nat → Option Nat} {R : Nat → Nat} (hu : Uf es n P R) (u : World) (hst : MSt B g n P u) (i : Nat) (hi : i < n) :
    Calls Try.prog 66 #[.pointer (some ⟨g, i * 2, none⟩)] u fun e w' => e = .returned (.pointer (some ⟨g, R i * 2, none⟩)) ∧ w' = u := by
  have HU := hideIt hu
  have HS := hideIt hst
  clear hu hst
  go_enter Try.func66, Try.ntmps66
  go_wp2
  go_loopw [0] (fun p wr => ∃ k : Nat, k < n ∧ p = .pointer (some ⟨g, k * 2, none⟩) ∧ Hid (R k = R i) ∧ wr = u) (fun p _ => offOf p)
  case atStart => exact ⟨i, hi, rfl, rfl, rfl⟩
  case round =>
    obtain ⟨k, hk, rfl, hR, hw⟩ := hrel
    have hw' := hw.symm
    subst hw'
    clear hw
    obtain ⟨c0, c1⟩ := HS.out.cell k hk
    cases hP : P k with
    | none =>
      rw [hP] at c1
      have HE : Hid (k = R i) := (HU.out.root k hk hP).symm.trans hR.out
      clear hR hP c0
      have c1' : u.cell? ⟨g, k * 2 + 1, none⟩ = some (.pointer none) := c1
      clear c1
      go_wp2
      go_ret
      exact ⟨by rw [← HE.out]; rfl, rfl⟩
    | some j =>
      rw [hP] at c1
      obtain ⟨hjk, hRj⟩ := HU.out.par k j hk hP
      have HE : Hid (R j = R i) := hRj.symm.trans hR.out
      clear hR hP hRj c0
      have c1' : u.cell? ⟨g, k * 2 + 1, none⟩ = some (.pointer (some ⟨g, j * 2, none⟩)) := c1
      clear c1
      go_wp2
      exact ⟨⟨j, by omega, rfl, HE, by first | trivial | rfl⟩, by simp [offOf]; omega⟩

theorem MSt.drew {B g n : Nat} {P : Nat → Option Nat} {u : World} (h : MSt B g n P u) : MSt B g n P u.drew := by
  obtain ⟨xs, ho⟩ := h.own
  exact ⟨⟨xs, ho.drew⟩, h.cell⟩
/-- the member b gets the parent a -/
theorem MSt.set {B g n : Nat} {P : Nat → Option Nat} {u : World} (h : MSt B g n P u) {a b : Nat} (hb : b < n) : MSt B g n (updP P b a) (u.setCell ⟨g, b * 2 + 1, none⟩ (.pointer (some ⟨g, a * 2, none⟩))) := by
  obtain ⟨xs, ho⟩ := h.own
  have hst := ho.stored (b * 2 + 1) (.pointer (some ⟨g, a * 2, none⟩))
  refine ⟨⟨_, hst.1⟩, fun i hi => ?_⟩
  obtain ⟨c0, c1⟩ := h.cell i hi
  refine ⟨?_, ?_⟩
  · rw [World.cell?_setCell_other _ _ _ _ (by intro e; simp at e <;> omega)]; exact c0
  · unfold updP
    split
    · rename_i hib
      subst hib
      rw [World.cell?_setCell_same _ _ _ c1]; rfl
    · rename_i hib
      rw [World.cell?_setCell_other _ _ _ _ (by intro e; simp at e <;> omega)]; exact c1
theorem MSt.grown {B g n : Nat} {P : Nat → Option Nat} {u : World} (b a : Nat) (_h : MSt B g n P u) : u.grownBy (u.setCell ⟨g, b * 2 + 1, none⟩ (.pointer (some ⟨g, a * 2, none⟩))) (some g) := grownSet u g _ _
theorem MSt.frozen {B g n : Nat} {P : Nat → Option Nat} {u : World} (h : MSt B g n P u) (j : Nat) : u.frozen? ⟨g, j, none⟩ = false := by
  obtain ⟨xs, ho⟩ := h.own
  exact ho.frozenAt j

set_option maxRecDepth 100000 in
set_option maxHeartbeats 2000000 in
theorem mJoin_any {B g n : Nat} {es : List EdgeV} {P : Nat → Option Nat} {R : Nat → Nat} (hu : Uf es n P R) (e : EdgeV) (he : 0 ≤ e.1 ∧ e.1 < e.2 ∧ e.2 < (n : Int)) (u : World) (hst : MSt B g n P u) :
    Calls Try.prog 67 #[.pointer (some ⟨g, e.1.toNat * 2, none⟩), .pointer (some ⟨g, e.2.toNat * 2, none⟩)] u fun x w' => x = .returned (.tuple #[]) ∧ ∃ P' R', Uf (es ++ [e]) n P' R' ∧ MSt B g n P' w' ∧ u.grownBy w' (some g) := by
  obtain ⟨i, hi⟩ : ∃ i, i = e.1.toNat := ⟨_, rfl⟩
  obtain ⟨j, hj⟩ : ∃ j, j = e.2.toNat := ⟨_, rfl⟩
  have hin : i < n := by omega
  have hjn : j < n := by omega
  have HL1 := hideIt (mLeast_any hu u hst i hin)
  have HL2 := hideIt (mLeast_any hu u hst j hjn)
  obtain ⟨a, ha⟩ : ∃ a, a = R i := ⟨_, rfl⟩
  obtain ⟨b, hb⟩ : ∃ b, b = R j := ⟨_, rfl⟩
  have han : a < n := by have := hu.le i hin; omega
  have hbn : b < n := by have := hu.le j hjn; omega
  rw [← ha] at HL1
  rw [← hb] at HL2
  obtain ⟨c0, c1⟩ := hst.cell a han
  obtain ⟨c2, c3⟩ := hst.cell b hbn
  have f1 := hst.frozen (a * 2 + 1)
  have f2 := hst.frozen (b * 2 + 1)
  have HC := hideIt cmpCompare_any
  have hk : u.drew.cell? ⟨g, a * 2, none⟩ = some (.int .i64 (a : Int)) ∧ u.drew.cell? ⟨g, b * 2, none⟩ = some (.int .i64 (b : Int)) := ⟨c0, c2⟩
  rw [← hi, ← hj]
  by_cases h1 : a < b
  · have HU := hideIt (hu.join he h1 (.inl ⟨by rw [← hi, ha], by rw [← hj, hb]⟩))
    have HM := hideIt (hst.set (a := a) hbn).drew
    have HG := hideIt (show u.grownBy (u.setCell ⟨g, b * 2 + 1, none⟩ (.pointer (some ⟨g, a * 2, none⟩))).drew (some g) from ⟨rfl, rfl, rfl, (MSt.grown b a hst).size, (MSt.grown b a hst).block⟩)
    have hcm : cmpI (a : Int) (b : Int) = -1 := by unfold cmpI; rw [if_pos (by omega)]
    clear hst hu ha hb he hi hj
    go_enter Try.func67, Try.ntmps67
    go_wp2_with (go_at_call 66; refine HL1.out.mono ?_; rintro e w1 ⟨rfl, rfl⟩; refine Hid.out ?_)
    refine (show ∀ {p : Prop}, p → Hid p from fun h => h) ?_
    go_wp2_with (go_at_call 66; refine HL2.out.mono ?_; rintro e w1 ⟨rfl, rfl⟩)
    go_region_held3 (fun v => v.cell? ⟨g, a * 2, none⟩ = some (.int .i64 (a : Int)) ∧ v.cell? ⟨g, b * 2, none⟩ = some (.int .i64 (b : Int))) (exact hk)
      ((go_at_call 72; refine (HC.out _ _ _).mono ?_; rw [hcm]; rintro e w1 ⟨rfl, rfl⟩))
    all_goals
      go_wp2
      exact bodyPost_end (v := .tuple #[]) (results_none rfl _ _ _) rfl ⟨rfl, _, _, HU.out, HM.out, HG.out⟩
  · by_cases h2 : b < a
    · have HU := hideIt (hu.join he h2 (.inr ⟨by rw [← hi, ha], by rw [← hj, hb]⟩))
      have HM := hideIt (hst.set (a := b) han).drew
      have HG := hideIt (show u.grownBy (u.setCell ⟨g, a * 2 + 1, none⟩ (.pointer (some ⟨g, b * 2, none⟩))).drew (some g) from ⟨rfl, rfl, rfl, (MSt.grown a b hst).size, (MSt.grown a b hst).block⟩)
      have hcm : cmpI (a : Int) (b : Int) = 1 := by unfold cmpI; rw [if_neg (by omega), if_pos (by omega)]
      clear hst hu ha hb he hi hj
      go_enter Try.func67, Try.ntmps67
      go_wp2_with (go_at_call 66; refine HL1.out.mono ?_; rintro e w1 ⟨rfl, rfl⟩; refine Hid.out ?_)
      refine (show ∀ {p : Prop}, p → Hid p from fun h => h) ?_
      go_wp2_with (go_at_call 66; refine HL2.out.mono ?_; rintro e w1 ⟨rfl, rfl⟩)
      go_region_held3 (fun v => v.cell? ⟨g, a * 2, none⟩ = some (.int .i64 (a : Int)) ∧ v.cell? ⟨g, b * 2, none⟩ = some (.int .i64 (b : Int))) (exact hk)
        ((go_at_call 72; refine (HC.out _ _ _).mono ?_; rw [hcm]; rintro e w1 ⟨rfl, rfl⟩))
      all_goals
        go_wp2
        exact bodyPost_end (v := .tuple #[]) (results_none rfl _ _ _) rfl ⟨rfl, _, _, HU.out, HM.out, HG.out⟩
    · have HU := hideIt (hu.same_more (e := e) (by rw [← hi, ← hj, ← ha, ← hb]; omega))
      have HM := hideIt hst.drew
      have HG := hideIt (show u.grownBy u.drew (some g) from ⟨rfl, rfl, rfl, Nat.le_refl _, fun _ _ _ => rfl⟩)
      have hcm : cmpI (a : Int) (b : Int) = 0 := by unfold cmpI; rw [if_neg (by omega), if_neg (by omega)]
      clear hst hu ha hb he hi hj
      go_enter Try.func67, Try.ntmps67
      go_wp2_with (go_at_call 66; refine HL1.out.mono ?_; rintro e w1 ⟨rfl, rfl⟩; refine Hid.out ?_)
      refine (show ∀ {p : Prop}, p → Hid p from fun h => h) ?_
      go_wp2_with (go_at_call 66; refine HL2.out.mono ?_; rintro e w1 ⟨rfl, rfl⟩)
      go_region_held3 (fun v => v.cell? ⟨g, a * 2, none⟩ = some (.int .i64 (a : Int)) ∧ v.cell? ⟨g, b * 2, none⟩ = some (.int .i64 (b : Int))) (exact hk)
        ((go_at_call 72; refine (HC.out _ _ _).mono ?_; rw [hcm]; rintro e w1 ⟨rfl, rfl⟩))
      all_goals
        go_wp2
        exact bodyPost_end (v := .tuple #[]) (results_none rfl _ _ _) rfl ⟨rfl, _, _, HU.out, HM.out, HG.out⟩

theorem MSt.lt {B g n : Nat} {P : Nat → Option Nat} {u : World} (h : MSt B g n P u) : B ≤ g ∧ g < u.heap.size := by
  obtain ⟨xs, ho⟩ := h.own
  exact ho.lt g rfl

theorem MSt.up {B g n : Nat} {P : Nat → Option Nat} {u v : World} (h : MSt B g n P u) (hb : Below u.heap.size u v) : MSt B g n P v := by
  have hl := h.lt
  obtain ⟨xs, ho⟩ := h.own
  refine ⟨⟨xs, own_up ho hb⟩, fun i hi => ?_⟩
  obtain ⟨c0, c1⟩ := h.cell i hi
  exact ⟨by rw [hb.cell (p := ⟨g, _, none⟩) hl.2]; exact c0, by rw [hb.cell (p := ⟨g, _, none⟩) hl.2]; exact c1⟩

theorem MSt.setOther {B g n : Nat} {P : Nat → Option Nat} {u : World} (h : MSt B g n P u) (G j : Nat) (v : Value) (hG : g ≠ G) : MSt B g n P (u.setCell ⟨G, j, none⟩ v) := by
  obtain ⟨xs, ho⟩ := h.own
  refine ⟨⟨xs, own_setOther ho G j v hG⟩, fun i hi => ?_⟩
  obtain ⟨c0, c1⟩ := h.cell i hi
  exact ⟨by rw [set_other hG]; exact c0, by rw [set_other hG]; exact c1⟩

theorem infoMem : (Try.prog.info? 85).map (fun i => (i.zero, i.size, i.bytes)) = some (some (.agg #[.int .i64 0, .pointer none]), 2, 16) := by kernel_rfl

theorem made2 (n j : Nat) (hj : j < n) : (madeCells #[.int .i64 0, .pointer none] (n * 2)).toList[j * 2 + 1]? = some (.pointer none) := by
  rw [Array.getElem?_toList]
  unfold madeCells
  rw [Array.getElem?_map, Array.getElem?_eq_getElem (by simp; omega), Array.getElem_range]
  have : (j * 2 + 1) % 2 = 1 := by omega
  simp [this]

end Go.Proofs.Ytcppbgkocipnlaa
