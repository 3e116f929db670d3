/- What hangs together by edges; parents of members: pure. The program's members: least and join. The program's treesOk: whether edges close no ring. Tours, as lists: a walk that goes down to a new vertex, or back up to the one that it came from; a tour from another vertex on; two that are joined; one that is split. A tour from another of its vertices on is a tour; two that are joined are one; one that is split is two: pure. What a walk along all edges tells, where each edge is the only way between its ends: pure. -/
import Derived.Test.YtgjnlhdgekfieaaGreatKBx7
import Derived.Test.YtgjnlhdgekfieaaGreatKGr6
import Derived.LaidEqlPtr
namespace Go.Proofs.YtgjnlhdgekfieaaGreat
open Go.RowKit

/-- edges between n vertices -/
def EsIn (es : List EdgeV) (n : Nat) : Prop := ∀ e ∈ es, 0 ≤ e.1 ∧ e.1 < e.2 ∧ e.2 < (n : Int)

/-- they hang together -/
def Conn (es : List EdgeV) (u v : Int) : Prop := ∀ S : Int → Prop, (∀ e ∈ es, S e.1 ↔ S e.2) → S u → S v

theorem Conn.refl (es : List EdgeV) (u : Int) : Conn es u u := fun _ _ h => h

theorem Conn.trans {es : List EdgeV} {u v x : Int} (h : Conn es u v) (k : Conn es v x) : Conn es u x := fun S hS hu => k S hS (h S hS hu)

theorem Conn.symm {es : List EdgeV} {u v : Int} (h : Conn es u v) : Conn es v u := fun S hS hv => Classical.byContradiction fun hu =>
  h (fun x => ¬ S x) (fun e he => not_congr (hS e he)) hu hv

theorem Conn.edge {es : List EdgeV} {e : EdgeV} (h : e ∈ es) : Conn es e.1 e.2 := fun _ hS h1 => (hS e h).1 h1

theorem Conn.more {es fs : List EdgeV} {u v : Int} (h : Conn es u v) (hs : ∀ e ∈ es, e ∈ fs) : Conn fs u v := fun S hS hu => h S (fun e he => hS e (hs e he)) hu

/-- parents, and where they end -/
structure Uf (es : List EdgeV) (n : Nat) (P : Nat → Option Nat) (R : Nat → Nat) : Prop where
  root : ∀ i, i < n → P i = none → R i = i
  par : ∀ i j, i < n → P i = some j → j < i ∧ R i = R j
  le : ∀ i, i < n → R i ≤ i
  idem : ∀ i, i < n → R (R i) = R i
  conn : ∀ i, i < n → Conn es (i : Int) (R i : Int)
  same : ∀ e ∈ es, R e.1.toNat = R e.2.toNat

theorem Uf.start (n : Nat) : Uf [] n (fun _ => none) (fun i => i) :=
  { root := fun _ _ _ => rfl
    par := fun _ _ _ h => nomatch h
    le := fun _ _ => Nat.le_refl _
    idem := fun _ _ => rfl
    conn := fun _ _ => Conn.refl _ _
    same := fun _ h => absurd h List.not_mem_nil }

/-- the root b gets the parent a -/
def updP (P : Nat → Option Nat) (b a : Nat) : Nat → Option Nat := fun i => if i = b then some a else P i

def updR (R : Nat → Nat) (b a : Nat) : Nat → Nat := fun i => if R i = b then a else R i

theorem Uf.same_more {es : List EdgeV} {n : Nat} {P : Nat → Option Nat} {R : Nat → Nat} (h : Uf es n P R) {e : EdgeV} (he : R e.1.toNat = R e.2.toNat) : Uf (es ++ [e]) n P R :=
  ⟨h.root, h.par, h.le, h.idem, fun i hi => (h.conn i hi).more fun d hd => by simp [hd], fun d hd => by
    rcases List.mem_append.1 hd with h1 | h1
    · exact h.same d h1
    · simp at h1; subst h1; exact he⟩

theorem Uf.join {es : List EdgeV} {n : Nat} {P : Nat → Option Nat} {R : Nat → Nat} (h : Uf es n P R) {e : EdgeV} (hi : 0 ≤ e.1 ∧ e.1 < e.2 ∧ e.2 < (n : Int)) {a b : Nat} (hab : a < b)
    (hx : (R e.1.toNat = a ∧ R e.2.toNat = b) ∨ (R e.1.toNat = b ∧ R e.2.toNat = a)) : Uf (es ++ [e]) n (updP P b a) (updR R b a) := by
  have hbn : b < n := by
    rcases hx with ⟨_, h2⟩ | ⟨h2, _⟩
    · have := h.le e.2.toNat (by omega); omega
    · have := h.le e.1.toNat (by omega); omega
  have ra : R a = a := by
    rcases hx with ⟨h1, _⟩ | ⟨_, h1⟩
    · rw [← h1]; exact h.idem _ (by omega)
    · rw [← h1]; exact h.idem _ (by omega)
  have rb : R b = b := by
    rcases hx with ⟨_, h1⟩ | ⟨h1, _⟩
    · rw [← h1]; exact h.idem _ (by omega)
    · rw [← h1]; exact h.idem _ (by omega)
  have hmore : ∀ {u v : Int}, Conn es u v → Conn (es ++ [e]) u v := fun hc => hc.more fun d hd => by simp [hd]
  have hcab : Conn (es ++ [e]) (b : Int) (a : Int) := by
    have hee : Conn (es ++ [e]) e.1 e.2 := Conn.edge (by simp)
    have c1 := hmore (h.conn e.1.toNat (by omega))
    have c2 := hmore (h.conn e.2.toNat (by omega))
    rw [show ((e.1.toNat : Nat) : Int) = e.1 by omega] at c1
    rw [show ((e.2.toNat : Nat) : Int) = e.2 by omega] at c2
    rcases hx with ⟨h1, h2⟩ | ⟨h1, h2⟩
    · rw [h1] at c1; rw [h2] at c2; exact c2.symm.trans (hee.symm.trans c1)
    · rw [h1] at c1; rw [h2] at c2; exact c1.symm.trans (hee.trans c2)
  refine ⟨?_, ?_, ?_, ?_, ?_, ?_⟩
  · intro i hi hp
    unfold updP at hp
    split at hp
    · cases hp
    · rename_i hib
      have := h.root i hi hp
      unfold updR
      rw [this, if_neg hib]
  · intro i j hi hp
    unfold updP at hp
    split at hp
    · rename_i hib
      simp at hp
      subst hib hp
      refine ⟨hab, ?_⟩
      unfold updR
      rw [rb, if_pos rfl, ra, if_neg (by omega)]
    · have := h.par i j hi hp
      refine ⟨this.1, ?_⟩
      unfold updR
      rw [this.2]
  · intro i hi
    have := h.le i hi
    unfold updR
    split
    · omega
    · exact this
  · intro i hi
    unfold updR
    by_cases h1 : R i = b
    · rw [if_pos h1, ra, if_neg (by omega)]
    · rw [if_neg h1, h.idem i hi, if_neg h1]
  · intro i hi
    have hc := hmore (h.conn i hi)
    unfold updR
    split
    · rename_i h1
      rw [h1] at hc
      exact hc.trans hcab
    · exact hc
  · intro d hd
    unfold updR
    rcases List.mem_append.1 hd with h1 | h1
    · rw [h.same d h1]
    · simp at h1
      subst h1
      rcases hx with ⟨h2, h3⟩ | ⟨h2, h3⟩
      · rw [h2, h3, if_pos rfl, if_neg (by omega)]
      · rw [h2, h3, if_pos rfl, if_neg (by omega)]

end Go.Proofs.YtgjnlhdgekfieaaGreat
namespace Go.Proofs.YtgjnlhdgekfieaaGreat
open Go.RowKit

/-- the pointer to a member -/
def ptrP (g : Nat) : Option Nat → Option Addr
  | none => none
  | some j => some ⟨g, j * 2, none⟩
/-- the members stand in block g, with these parents -/
structure MSt (B g n : Nat) (P : Nat → Option Nat) (u : World) : Prop where
  own : ∃ xs, u.ownsRow B 227 2 (.slice (some ⟨g, 0, none⟩) n n) n xs
  cell : ∀ i, i < n → u.cell? ⟨g, i * 2, none⟩ = some (.int .i64 (i : Int)) ∧ u.cell? ⟨g, i * 2 + 1, none⟩ = some (.pointer (ptrP g (P i)))
/-- where a pointer points to -/
def offOf : Value → Nat
  | .pointer (some a) => a.off
  | _ => 0

set_option maxHeartbeats 1000000 in
theorem mLeast_any {B g n : Nat} {es : List EdgeV} {P : Nat → Option Nat} {R : Nat → Nat} (hu : Uf es n P R) (u : World) (hst : MSt B g n P u) (i : Nat) (hi : i < n) :
    Calls Tryz.prog 197 #[.pointer (some ⟨g, i * 2, none⟩)] u fun e w' => e = .returned (.pointer (some ⟨g, R i * 2, none⟩)) ∧ w' = u := by
  have HU := hideIt hu
  have HS := hideIt hst
  clear hu hst
  go_enter Tryz.func197, Tryz.ntmps197
  go_wp2
  go_loopw [0] (fun p wr => ∃ k : Nat, k < n ∧ p = .pointer (some ⟨g, k * 2, none⟩) ∧ Hid (R k = R i) ∧ wr = u) (fun p _ => offOf p)
  case atStart => exact ⟨i, hi, rfl, rfl, rfl⟩
  case round =>
    obtain ⟨k, hk, rfl, hR, hw⟩ := hrel
    have hw' := hw.symm
    subst hw'
    clear hw
    obtain ⟨c0, c1⟩ := HS.out.cell k hk
    cases hP : P k with
    | none =>
      rw [hP] at c1
      have HE : Hid (k = R i) := (HU.out.root k hk hP).symm.trans hR.out
      clear hR hP c0
      have c1' : u.cell? ⟨g, k * 2 + 1, none⟩ = some (.pointer none) := c1
      clear c1
      go_wp2
      go_ret
      exact ⟨by rw [← HE.out]; rfl, rfl⟩
    | some j =>
      rw [hP] at c1
      obtain ⟨hjk, hRj⟩ := HU.out.par k j hk hP
      have HE : Hid (R j = R i) := hRj.symm.trans hR.out
      clear hR hP hRj c0
      have c1' : u.cell? ⟨g, k * 2 + 1, none⟩ = some (.pointer (some ⟨g, j * 2, none⟩)) := c1
      clear c1
      go_wp2
      exact ⟨⟨j, by omega, rfl, HE, by first | trivial | rfl⟩, by simp [offOf]; omega⟩

theorem MSt.drew {B g n : Nat} {P : Nat → Option Nat} {u : World} (h : MSt B g n P u) : MSt B g n P u.drew := by
  obtain ⟨xs, ho⟩ := h.own
  exact ⟨⟨xs, ho.drew⟩, h.cell⟩
/-- the member b gets the parent a -/
theorem MSt.set {B g n : Nat} {P : Nat → Option Nat} {u : World} (h : MSt B g n P u) {a b : Nat} (hb : b < n) : MSt B g n (updP P b a) (u.setCell ⟨g, b * 2 + 1, none⟩ (.pointer (some ⟨g, a * 2, none⟩))) := by
  obtain ⟨xs, ho⟩ := h.own
  have hst := ho.stored (b * 2 + 1) (.pointer (some ⟨g, a * 2, none⟩))
  refine ⟨⟨_, hst.1⟩, fun i hi => ?_⟩
  obtain ⟨c0, c1⟩ := h.cell i hi
  refine ⟨?_, ?_⟩
  · rw [World.cell?_setCell_other _ _ _ _ (by intro e; simp at e <;> omega)]; exact c0
  · unfold updP
    split
    · rename_i hib
      subst hib
      rw [World.cell?_setCell_same _ _ _ c1]; rfl
    · rename_i hib
      rw [World.cell?_setCell_other _ _ _ _ (by intro e; simp at e <;> omega)]; exact c1
theorem MSt.grown {B g n : Nat} {P : Nat → Option Nat} {u : World} (b a : Nat) (_h : MSt B g n P u) : u.grownBy (u.setCell ⟨g, b * 2 + 1, none⟩ (.pointer (some ⟨g, a * 2, none⟩))) (some g) := grownSet u g _ _
theorem MSt.frozen {B g n : Nat} {P : Nat → Option Nat} {u : World} (h : MSt B g n P u) (j : Nat) : u.frozen? ⟨g, j, none⟩ = false := by
  obtain ⟨xs, ho⟩ := h.own
  exact ho.frozenAt j

set_option maxRecDepth 100000 in
set_option maxHeartbeats 2000000 in
theorem mJoin_any {B g n : Nat} {es : List EdgeV} {P : Nat → Option Nat} {R : Nat → Nat} (hu : Uf es n P R) (e : EdgeV) (he : 0 ≤ e.1 ∧ e.1 < e.2 ∧ e.2 < (n : Int)) (u : World) (hst : MSt B g n P u) :
    Calls Tryz.prog 198 #[.pointer (some ⟨g, e.1.toNat * 2, none⟩), .pointer (some ⟨g, e.2.toNat * 2, none⟩)] u fun x w' => x = .returned (.tuple #[]) ∧ ∃ P' R', Uf (es ++ [e]) n P' R' ∧ MSt B g n P' w' ∧ u.grownBy w' (some g) := by
  obtain ⟨i, hi⟩ : ∃ i, i = e.1.toNat := ⟨_, rfl⟩
  obtain ⟨j, hj⟩ : ∃ j, j = e.2.toNat := ⟨_, rfl⟩
  have hin : i < n := by omega
  have hjn : j < n := by omega
  have HL1 := hideIt (mLeast_any hu u hst i hin)
  have HL2 := hideIt (mLeast_any hu u hst j hjn)
  obtain ⟨a, ha⟩ : ∃ a, a = R i := ⟨_, rfl⟩
  obtain ⟨b, hb⟩ : ∃ b, b = R j := ⟨_, rfl⟩
  have han : a < n := by have := hu.le i hin; omega
  have hbn : b < n := by have := hu.le j hjn; omega
  rw [← ha] at HL1
  rw [← hb] at HL2
  obtain ⟨c0, c1⟩ := hst.cell a han
  obtain ⟨c2, c3⟩ := hst.cell b hbn
  have f1 := hst.frozen (a * 2 + 1)
  have f2 := hst.frozen (b * 2 + 1)
  have HC := hideIt cmpCompare_any
  have hk : u.drew.cell? ⟨g, a * 2, none⟩ = some (.int .i64 (a : Int)) ∧ u.drew.cell? ⟨g, b * 2, none⟩ = some (.int .i64 (b : Int)) := ⟨c0, c2⟩
  rw [← hi, ← hj]
  by_cases h1 : a < b
  · have HU := hideIt (hu.join he h1 (.inl ⟨by rw [← hi, ha], by rw [← hj, hb]⟩))
    have HM := hideIt (hst.set (a := a) hbn).drew
    have HG := hideIt (show u.grownBy (u.setCell ⟨g, b * 2 + 1, none⟩ (.pointer (some ⟨g, a * 2, none⟩))).drew (some g) from ⟨rfl, rfl, rfl, (MSt.grown b a hst).size, (MSt.grown b a hst).block⟩)
    have hcm : cmpI (a : Int) (b : Int) = -1 := by unfold cmpI; rw [if_pos (by omega)]
    clear hst hu ha hb he hi hj
    go_enter Tryz.func198, Tryz.ntmps198
    go_wp2_with (go_at_call 197; refine HL1.out.mono ?_; rintro e w1 ⟨rfl, rfl⟩; refine Hid.out ?_)
    refine (show ∀ {p : Prop}, p → Hid p from fun h => h) ?_
    go_wp2_with (go_at_call 197; refine HL2.out.mono ?_; rintro e w1 ⟨rfl, rfl⟩)
    go_region_held3 (fun v => v.cell? ⟨g, a * 2, none⟩ = some (.int .i64 (a : Int)) ∧ v.cell? ⟨g, b * 2, none⟩ = some (.int .i64 (b : Int))) (exact hk)
      ((go_at_call 184; refine (HC.out _ _ _).mono ?_; rw [hcm]; rintro e w1 ⟨rfl, rfl⟩))
    all_goals
      go_wp2
      exact bodyPost_end (v := .tuple #[]) (results_none rfl _ _ _) rfl ⟨rfl, _, _, HU.out, HM.out, HG.out⟩
  · by_cases h2 : b < a
    · have HU := hideIt (hu.join he h2 (.inr ⟨by rw [← hi, ha], by rw [← hj, hb]⟩))
      have HM := hideIt (hst.set (a := b) han).drew
      have HG := hideIt (show u.grownBy (u.setCell ⟨g, a * 2 + 1, none⟩ (.pointer (some ⟨g, b * 2, none⟩))).drew (some g) from ⟨rfl, rfl, rfl, (MSt.grown a b hst).size, (MSt.grown a b hst).block⟩)
      have hcm : cmpI (a : Int) (b : Int) = 1 := by unfold cmpI; rw [if_neg (by omega), if_pos (by omega)]
      clear hst hu ha hb he hi hj
      go_enter Tryz.func198, Tryz.ntmps198
      go_wp2_with (go_at_call 197; refine HL1.out.mono ?_; rintro e w1 ⟨rfl, rfl⟩; refine Hid.out ?_)
      refine (show ∀ {p : Prop}, p → Hid p from fun h => h) ?_
      go_wp2_with (go_at_call 197; refine HL2.out.mono ?_; rintro e w1 ⟨rfl, rfl⟩)
      go_region_held3 (fun v => v.cell? ⟨g, a * 2, none⟩ = some (.int .i64 (a : Int)) ∧ v.cell? ⟨g, b * 2, none⟩ = some (.int .i64 (b : Int))) (exact hk)
        ((go_at_call 184; refine (HC.out _ _ _).mono ?_; rw [hcm]; rintro e w1 ⟨rfl, rfl⟩))
      all_goals
        go_wp2
        exact bodyPost_end (v := .tuple #[]) (results_none rfl _ _ _) rfl ⟨rfl, _, _, HU.out, HM.out, HG.out⟩
    · have HU := hideIt (hu.same_more (e := e) (by rw [← hi, ← hj, ← ha, ← hb]; omega))
      have HM := hideIt hst.drew
      have HG := hideIt (show u.grownBy u.drew (some g) from ⟨rfl, rfl, rfl, Nat.le_refl _, fun _ _ _ => rfl⟩)
      have hcm : cmpI (a : Int) (b : Int) = 0 := by unfold cmpI; rw [if_neg (by omega), if_neg (by omega)]
      clear hst hu ha hb he hi hj
      go_enter Tryz.func198, Tryz.ntmps198
      go_wp2_with (go_at_call 197; refine HL1.out.mono ?_; rintro e w1 ⟨rfl, rfl⟩; refine Hid.out ?_)
      refine (show ∀ {p : Prop}, p → Hid p from fun h => h) ?_
      go_wp2_with (go_at_call 197; refine HL2.out.mono ?_; rintro e w1 ⟨rfl, rfl⟩)
      go_region_held3 (fun v => v.cell? ⟨g, a * 2, none⟩ = some (.int .i64 (a : Int)) ∧ v.cell? ⟨g, b * 2, none⟩ = some (.int .i64 (b : Int))) (exact hk)
        ((go_at_call 184; refine (HC.out _ _ _).mono ?_; rw [hcm]; rintro e w1 ⟨rfl, rfl⟩))
      all_goals
        go_wp2
        exact bodyPost_end (v := .tuple #[]) (results_none rfl _ _ _) rfl ⟨rfl, _, _, HU.out, HM.out, HG.out⟩

theorem MSt.lt {B g n : Nat} {P : Nat → Option Nat} {u : World} (h : MSt B g n P u) : B ≤ g ∧ g < u.heap.size := by
  obtain ⟨xs, ho⟩ := h.own
  exact ho.lt g rfl

theorem MSt.up {B g n : Nat} {P : Nat → Option Nat} {u v : World} (h : MSt B g n P u) (hb : Below u.heap.size u v) : MSt B g n P v := by
  have hl := h.lt
  obtain ⟨xs, ho⟩ := h.own
  refine ⟨⟨xs, own_up ho hb⟩, fun i hi => ?_⟩
  obtain ⟨c0, c1⟩ := h.cell i hi
  exact ⟨by rw [hb.cell (p := ⟨g, _, none⟩) hl.2]; exact c0, by rw [hb.cell (p := ⟨g, _, none⟩) hl.2]; exact c1⟩

theorem MSt.setOther {B g n : Nat} {P : Nat → Option Nat} {u : World} (h : MSt B g n P u) (G j : Nat) (v : Value) (hG : g ≠ G) : MSt B g n P (u.setCell ⟨G, j, none⟩ v) := by
  obtain ⟨xs, ho⟩ := h.own
  refine ⟨⟨xs, own_setOther ho G j v hG⟩, fun i hi => ?_⟩
  obtain ⟨c0, c1⟩ := h.cell i hi
  exact ⟨by rw [set_other hG]; exact c0, by rw [set_other hG]; exact c1⟩

theorem infoMem : (Tryz.prog.info? 227).map (fun i => (i.zero, i.size, i.bytes)) = some (some (.agg #[.int .i64 0, .pointer none]), 2, 16) := by kernel_rfl

theorem made2 (n j : Nat) (hj : j < n) : (madeCells #[.int .i64 0, .pointer none] (n * 2)).toList[j * 2 + 1]? = some (.pointer none) := by
  rw [Array.getElem?_toList]
  unfold madeCells
  rw [Array.getElem?_map, Array.getElem?_eq_getElem (by simp; omega), Array.getElem_range]
  have : (j * 2 + 1) % 2 = 1 := by omega
  simp [this]

end Go.Proofs.YtgjnlhdgekfieaaGreat
namespace Go.Proofs.YtgjnlhdgekfieaaGreat
open Go.RowKit

/-- no edge joins what hangs together by those ahead of it -/
def TreeP (es : List EdgeV) : Prop := ∀ (q : Nat) (f : EdgeV), es[q]? = some f → ¬ Conn (es.take q) f.1 f.2
theorem uf_conn {es : List EdgeV} {n : Nat} {P : Nat → Option Nat} {R : Nat → Nat} (h : Uf es n P R) {f : EdgeV} (hf : 0 ≤ f.1 ∧ f.1 < f.2 ∧ f.2 < (n : Int)) : R f.1.toNat = R f.2.toNat ↔ Conn es f.1 f.2 := by
  have e1 : ((f.1.toNat : Nat) : Int) = f.1 := by omega
  have e2 : ((f.2.toNat : Nat) : Int) = f.2 := by omega
  constructor
  · intro hr
    have c1 := h.conn f.1.toNat (by omega)
    have c2 := h.conn f.2.toNat (by omega)
    rw [hr] at c1
    rw [e1] at c1
    rw [e2] at c2
    exact c1.trans c2.symm
  · intro hc
    have := hc (fun x => R f.1.toNat = R x.toNat) (fun e he => by rw [h.same e he]) rfl
    exact this
set_option maxRecDepth 100000 in
set_option maxHeartbeats 8000000 in
theorem treesOk_any (nn : Nat) (es : List EdgeV) (n : Nat) (a : Option Addr) (c : Nat) (hn0 : 1 ≤ nn) (hn12 : nn ≤ 12) (hn : n ≤ 1000) (hok : ∀ e ∈ es, eB (nn : Int) e = true) (w : World) (h : Es w w.heap.size a n es) :
    Calls Tryz.prog 157 #[.int .i64 (nn : Int), .slice a n c] w fun x w' => ∃ b : Bool, x = .returned (.bool b) ∧ (b = true ↔ TreeP es) ∧ Below w.heap.size w w' := by
  obtain ⟨im, him, hm0, hm1, hm2⟩ := info_parts infoMem
  have HR := hideIt h
  have hlen := h.1
  have HOk := hideIt hok
  have HV := vertsOk_any (nn : Int) w
  rw [decide_eq_true (by omega)] at HV
  have HV1 := hideIt HV
  clear h hok HV
  have hmk : ∀ u : World, (Instr.makeSlice 224 (.int .i64 (nn : Int)) (.int .i64 (nn : Int))).run Tryz.prog u =
      .ok (.slice (some ⟨u.heap.size, 0, none⟩) nn nn) (u.alloc (.cells (madeCells #[.int .i64 0, .pointer none] (nn * 2)) 227)) := fun u => by
    have h := run_make (P := Tryz.prog) u 224 227 im _ Tryz.underlying224 him hm0 .i64 .i64 (nn : Int) (nn : Int) (by omega) (by omega) (by rw [hm2]; omega) (by omega)
    rw [Int.toNat_natCast] at h
    simpa [hm1, Value.cells] using h
  go_enter Tryz.func157, Tryz.ntmps157
  go_wp2_with (go_at_call 103; refine HV1.out.mono ?_; rintro e w1 ⟨rfl, hw⟩; have hw' := hw.symm; subst hw'; clear hw)
  go_loopw [16] (fun i wr => ∃ (k : Nat) (xs : List Value), k ≤ nn ∧ i = .int .i64 (k : Int) ∧ wr.ownsRow w.heap.size 227 2 (.slice (some ⟨w.heap.size, 0, none⟩) nn nn) nn xs ∧ Hid (∀ j, j < nn → xs[j * 2 + 1]? = some (.pointer none)) ∧ Hid (∀ j, j < k → xs[j * 2]? = some (.int .i64 (j : Int))) ∧ Below w.heap.size w wr) (fun i _ => nn - (intOf i).toNat)
  case atStart => exact ⟨0, _, by omega, rfl, World.ownsRow_lit (base := w.heap.size) (e := 227) (size := 2) w (madeCells #[.int .i64 0, .pointer none] (nn * 2)) nn (Nat.le_refl _) (by unfold maxLen; omega) (by simp [madeCells]), fun j hj => made2 nn j hj, fun j hj => by omega, (Below.refl _ _).alloc (Nat.le_refl _) _⟩
  case round =>
    obtain ⟨k, xs, hk, rfl, hown, hp, hv, hb⟩ := hrel
    have hl3 : xs.length = nn * 2 := hown.1
    by_cases hlt : k < nn
    · have b1 : (0 : Int) ≤ (k : Int) := by omega
      have b2 : (k : Int) < (nn : Int) := by omega
      have f0 := hown.frozenAt (k * 2)
      obtain ⟨y0, x0⟩ : ∃ y, wr.cell? ⟨w.heap.size, k * 2, none⟩ = some y := ⟨_, by rw [hown.cellAt (k * 2) (by omega)]; exact List.getElem?_eq_getElem (by omega)⟩
      have HO2 := hideIt (hown.stored (k * 2) (.int .i64 (k : Int))).1
      have HB2 := hideIt (hb.setCell (p := ⟨w.heap.size, k * 2, none⟩) (Nat.le_refl _) (.int .i64 (k : Int)))
      have HP2 : Hid (∀ j, j < nn → (xs.set (k * 2) (.int .i64 (k : Int)))[j * 2 + 1]? = some (.pointer none)) := fun j hj => by rw [List.getElem?_set_ne (by omega)]; exact hp.out j hj
      have HV2 : Hid (∀ j, j < k + 1 → (xs.set (k * 2) (.int .i64 (k : Int)))[j * 2]? = some (.int .i64 (j : Int))) := fun j hj => by
        by_cases hjk : j = k
        · subst hjk; rw [List.getElem?_set_self (by omega)]
        · rw [List.getElem?_set_ne (by omega)]; exact hv.out j (by omega)
      clear hown hp hv hb
      go_wp2
      exact ⟨⟨k + 1, _, by omega, by go_num, HO2.out, HP2, HV2, HB2.out⟩, by simp [intOf]; omega⟩
    · obtain rfl : k = nn := by omega
      have HM : Hid (MSt w.heap.size w.heap.size k (fun _ => none) wr) := ⟨⟨xs, hown⟩, fun i hi => ⟨by rw [hown.cellAt (i * 2) (by omega)]; exact hv.out i hi, by rw [hown.cellAt (i * 2 + 1) (by omega)]; exact hp.out i hi⟩⟩
      have HB0 := hideIt hb
      clear hown hp hv hl3 hb
      go_wp2
      go_loopw [27] (fun i wr => ∃ (q : Nat) (P : Nat → Option Nat) (R : Nat → Nat), q ≤ n ∧ i = .int .i64 (q : Int) ∧ Hid (Uf (es.take q) k P R) ∧ Hid (∀ j f, j < q → es[j]? = some f → ¬ Conn (es.take j) f.1 f.2) ∧ MSt w.heap.size w.heap.size k P wr ∧ Below w.heap.size w wr) (fun i _ => n - (intOf i).toNat)
      case atStart => exact ⟨0, _, _, by omega, rfl, by show Uf _ _ _ _; rw [List.take_zero]; exact Uf.start k, fun j f hj => by omega, HM.out, HB0.out⟩
      case round =>
        obtain ⟨q, P, R, hq, rfl, hU, hT, hM, hb⟩ := hrel
        have hg := hM.lt
        clear HM HB0
        by_cases hlt2 : q < n
        · rcases HR.out.2 with hz | ⟨b, off, rfl, hbl, hc⟩
          · omega
          · obtain ⟨f, hf⟩ : ∃ f, es[q]? = some f := ⟨es[q]'(by omega), List.getElem?_eq_getElem (by omega)⟩
            obtain ⟨c0, c1⟩ := hc q f hf
            have hfe := HOk.out f (List.mem_of_getElem? hf)
            have hfi : 0 ≤ f.1 ∧ f.1 < f.2 ∧ f.2 < (k : Int) := by unfold eB at hfe; have := of_decide_eq_true hfe; omega
            have b1 : (0 : Int) ≤ (q : Int) := by omega
            have b2 : (q : Int) < (n : Int) := by omega
            have b3 : (0 : Int) ≤ f.1 := hfi.1
            have b4 : f.1 < (k : Int) := by omega
            have b5 : (0 : Int) ≤ f.2 := by omega
            have b6 : f.2 < (k : Int) := hfi.2.2
            have e0 : wr.cell? ⟨b, off + q * 2, none⟩ = some (.int .i64 f.1) := by rw [hb.cell hbl]; exact c0
            have e1 : wr.cell? ⟨b, off + q * 2 + 1, none⟩ = some (.int .i64 f.2) := by rw [hb.cell hbl]; exact c1
            have hba : Below wr.heap.size wr (wr.alloc (.cells #[.int .i64 f.1, .int .i64 f.2] 28)) := (Below.refl _ _).alloc (Nat.le_refl _) _
            have hM1 := (hM.up hba).drew
            have hb1 : Below w.heap.size w (wr.alloc (.cells #[.int .i64 f.1, .int .i64 f.2] 28)).drew := (hb.trans (hba.mono hb.size)).drew
            have HS : Hid (∀ u, Below (wr.heap.size + 1) (wr.alloc (.cells #[.int .i64 f.1, .int .i64 f.2] 28)).drew u → u.cell? ⟨wr.heap.size, 0, none⟩ = some (.int .i64 f.1) ∧ u.cell? ⟨wr.heap.size, 1, none⟩ = some (.int .i64 f.2)) := fun u hu =>
              ⟨by rw [hu.cell (p := ⟨wr.heap.size, 0, none⟩) (by show wr.heap.size < _; omega)]; simp, by rw [hu.cell (p := ⟨wr.heap.size, 1, none⟩) (by show wr.heap.size < _; omega)]; simp⟩
            have HEo : Hid (Calls Tryz.prog 148 #[.int .i64 (k : Int), .agg #[.int .i64 f.1, .int .i64 f.2]] (wr.alloc (.cells #[.int .i64 f.1, .int .i64 f.2] 28)).drew fun e v => e = .returned (.bool true) ∧ Below (wr.heap.size + 1) (wr.alloc (.cells #[.int .i64 f.1, .int .i64 f.2] 28)).drew v ∧ MSt w.heap.size w.heap.size k P v ∧ Below w.heap.size w v) := by
              have hE := iEdgeOk_any (k : Int) f (wr.alloc (.cells #[.int .i64 f.1, .int .i64 f.2] 28)).drew
              rw [hfe] at hE
              refine hE.mono fun _ _ ⟨he, hv⟩ => ⟨he, by simpa using hv, hM1.up hv, hb1.trans (hv.mono hb1.size)⟩
            have HL1 : Hid (∀ u, MSt w.heap.size w.heap.size k P u → Calls Tryz.prog 197 #[.pointer (some ⟨w.heap.size, f.1.toNat * 2, none⟩)] u fun e w' => e = .returned (.pointer (some ⟨w.heap.size, R f.1.toNat * 2, none⟩)) ∧ w' = u) := fun u hu => mLeast_any hU.out u hu f.1.toNat (by omega)
            have HL2 : Hid (∀ u, MSt w.heap.size w.heap.size k P u → Calls Tryz.prog 197 #[.pointer (some ⟨w.heap.size, f.2.toNat * 2, none⟩)] u fun e w' => e = .returned (.pointer (some ⟨w.heap.size, R f.2.toNat * 2, none⟩)) ∧ w' = u) := fun u hu => mLeast_any hU.out u hu f.2.toNat (by omega)
            have HUC := hideIt (uf_conn hU.out hfi)
            have HF := hideIt hf
            have HFI := hideIt hfi
            have S0 : Below (wr.heap.size + 1) (wr.alloc (.cells #[.int .i64 f.1, .int .i64 f.2] 28)).drew (wr.alloc (.cells #[.int .i64 f.1, .int .i64 f.2] 28)).drew := Below.refl _ _
            obtain ⟨ra, hra⟩ : ∃ ra, R f.1.toNat = ra := ⟨_, rfl⟩
            obtain ⟨rb, hrb⟩ : ∃ rb, R f.2.toNat = rb := ⟨_, rfl⟩
            rw [hra] at HL1 HUC
            rw [hrb] at HL2 HUC
            clear hc hf c0 c1 hM hM1 hfi hfe hba hb1 hb
            by_cases hrr : ra = rb
            · subst hrr
              have HN : Hid (¬ TreeP es) := fun ht => ht q f HF.out (HUC.out.1 rfl)
              have q5 : ∀ u : World, (binOp .eql 225 (.pointer (some ⟨w.heap.size, ra * 2, none⟩)) (.pointer (some ⟨w.heap.size, ra * 2, none⟩))).run Tryz.prog u = .ok (.bool true) u := fun u => run_eql_ptr_same u _ Tryz.underlying225 him
              clear hra hrb HUC hU hT
              go_wp2
              go_region_held3 (fun u => Below (wr.heap.size + 1) (wr.alloc (.cells #[.int .i64 f.1, .int .i64 f.2] 28)).drew u ∧ (u.cell? ⟨wr.heap.size, 0, none⟩ = some (.int .i64 f.1) ∧ u.cell? ⟨wr.heap.size, 1, none⟩ = some (.int .i64 f.2)))
                (exact ⟨S0, HS.out _ S0⟩)
                (first
                  | (go_at_call 148; refine HEo.out.mono ?_; clear HEo S0; rintro e w5 ⟨rfl, S0, M5, B5⟩)
                  | (go_at_call 197; refine (HL1.out _ M5).mono ?_; clear HL1; rintro e w6 ⟨rfl, hw⟩; have hw' := hw.symm; subst hw'; clear hw)
                  | (go_at_call 197; refine (HL2.out _ M5).mono ?_; clear HL2; rintro e w6 ⟨rfl, hw⟩; have hw' := hw.symm; subst hw'; clear hw))
              have HB5 := hideIt B5
              clear S0 M5 q5 B5
              go_wp2
              go_ret
              exact ⟨false, rfl, ⟨fun h => by simp at h, fun h => absurd h HN.out⟩, HB5.out⟩
            · have HT2 : Hid (∀ j f, j < q + 1 → es[j]? = some f → ¬ Conn (es.take j) f.1 f.2) := fun j f2 hj hf2 => by
                by_cases hjq : j = q
                · subst hjq
                  rw [HF.out] at hf2
                  simp at hf2
                  subst hf2
                  exact fun hc => hrr (HUC.out.2 hc)
                · exact hT.out j f2 (by omega) hf2
              have HQ : Hid (∀ u, MSt w.heap.size w.heap.size k P u → (binOp .eql 225 (.pointer (some ⟨w.heap.size, ra * 2, none⟩)) (.pointer (some ⟨w.heap.size, rb * 2, none⟩))).run Tryz.prog u = .ok (.bool false) u) := fun u hu => by
                obtain ⟨ys, ho⟩ := hu.own
                rcases ho.2 with ⟨hv, _⟩ | ⟨g, cap, cur, hv, _, hgb, _⟩
                · simp at hv
                · simp at hv
                  obtain ⟨rfl, rfl⟩ := hv
                  exact run_eql_ptr_other u Tryz.underlying225 him (by rw [hm1]; decide) (fun e => hrr (by have := congrArg Addr.off e; dsimp only at this; omega)) hgb hgb
              have HJo : Hid (∀ u, MSt w.heap.size w.heap.size k P u → Calls Tryz.prog 198 #[.pointer (some ⟨w.heap.size, f.1.toNat * 2, none⟩), .pointer (some ⟨w.heap.size, f.2.toNat * 2, none⟩)] u fun x w' => x = .returned (.tuple #[]) ∧ ∃ P' R', Uf (es.take (q + 1)) k P' R' ∧ MSt w.heap.size w.heap.size k P' w' ∧ u.grownBy w' (some w.heap.size)) := fun u hu => by
                have := mJoin_any hU.out f HFI.out u hu
                rw [← take_snocF es q f HF.out] at this
                exact this
              clear hra hrb HUC hU hT
              go_wp2
              go_region_with (first
                  | (go_at_call 148; refine HEo.out.mono ?_; clear HEo S0; rintro e w5 ⟨rfl, S0, M5, B5⟩; have q5 := HQ.out w5 M5; obtain ⟨k5, k6⟩ := HS.out _ S0)
                  | (go_at_call 197; refine (HL1.out _ M5).mono ?_; clear HL1; rintro e w6 ⟨rfl, hw⟩; have hw' := hw.symm; subst hw'; clear hw)
                  | (go_at_call 197; refine (HL2.out _ M5).mono ?_; clear HL2; rintro e w6 ⟨rfl, hw⟩; have hw' := hw.symm; subst hw'; clear hw))
              all_goals
                have HM5 := hideIt M5.drew
                have HB5 := hideIt B5.drew
                have hk5 : w5.drew.cell? ⟨wr.heap.size, 0, none⟩ = some (.int .i64 f.1) ∧ w5.drew.cell? ⟨wr.heap.size, 1, none⟩ = some (.int .i64 f.2) := ⟨k5, k6⟩
                have hwr5 : wr.heap.size < w5.heap.size := by have := S0.size; simp at this; omega
                have HK6 : Hid (∀ v, w5.drew.grownBy v (some w.heap.size) → v.cell? ⟨wr.heap.size, 0, none⟩ = some (.int .i64 f.1) ∧ v.cell? ⟨wr.heap.size, 1, none⟩ = some (.int .i64 f.2)) := fun v hv =>
                  ⟨by rw [World.cell?_of_block (w := w5.drew) (hv.block wr.heap.size hwr5 (by simp; omega))]; exact hk5.1, by rw [World.cell?_of_block (w := w5.drew) (hv.block wr.heap.size hwr5 (by simp; omega))]; exact hk5.2⟩
                have HX := hideIt (HJo.out _ HM5.out)
                clear S0 M5 q5 B5 HS HQ HJo
                go_wp2
                go_region_held3 (fun v => v.cell? ⟨wr.heap.size, 0, none⟩ = some (.int .i64 f.1) ∧ v.cell? ⟨wr.heap.size, 1, none⟩ = some (.int .i64 f.2))
                  (first | exact HK6.out _ hg7 | exact hk5)
                  ((go_at_call 198; refine HX.out.mono ?_; rintro e w7 ⟨rfl, P', R', hU7, hM7, hg7⟩))
                all_goals
                  have HU7 := hideIt hU7
                  have hb7 : Below w.heap.size w w7 := HB5.out.grown hg7 (by have := HB5.out.size; exact this) (fun j e => by cases e; exact Nat.le_refl _)
                  clear hU7 hg7 HX HK6
                  go_wp2
                  exact ⟨⟨q + 1, P', R', by omega, by go_num, HU7, HT2, hM7, hb7⟩, by simp [intOf]; omega⟩
        · obtain rfl : q = n := by omega
          have HY : Hid (TreeP es) := fun j f hf => hT.out j f (by have := (List.getElem?_eq_some_iff.1 hf).1; omega) hf
          have HB := hideIt hb
          clear hU hT hM hb
          go_wp2
          go_ret
          exact ⟨true, rfl, ⟨fun _ => HY.out, fun _ => rfl⟩, HB.out⟩
end Go.Proofs.YtgjnlhdgekfieaaGreat
namespace Go.Proofs.YtgjnlhdgekfieaaGreat

/-- v is the vertex that the way came from -/
def isUp : List Int → Int → Bool
  | _ :: p :: _, v => decide (p = v)
  | _, _ => false
/-- one step: w is the way from the root, the last one first; s is what was seen -/
def tstep (w s : List Int) (v : Int) : Option (List Int × List Int) :=
  if isUp w v = true then some (w.tail, s) else if v ∈ s then none else some (v :: w, v :: s)
def trun (w s : List Int) : List Int → Option (List Int × List Int)
  | [] => some (w, s)
  | v :: r => match tstep w s v with
    | none => none
    | some x => trun x.1 x.2 r
/-- a number is that of a vertex -/
def vB (v : Int) : Bool := decide (0 ≤ v ∧ v < 12)
/-- the tour is right -/
def tB (t : List Int) : Bool := t.all vB && (match trun [] [] t with | some x => x.1.length == 1 | none => false)

theorem trun_nil (w s : List Int) : trun w s [] = some (w, s) := rfl
theorem trun_append (w s a b : List Int) : trun w s (a ++ b) = (trun w s a).bind fun x => trun x.1 x.2 b := by
  induction a generalizing w s with
  | nil => rfl
  | cons v a ih =>
    simp only [List.cons_append, trun]
    cases tstep w s v with
    | none => rfl
    | some x => exact ih _ _
theorem trun_up {w s : List Int} {v : Int} {r : List Int} (h : isUp w v = true) : trun w s (v :: r) = trun w.tail s r := by simp [trun, tstep, h]
theorem trun_down {w s : List Int} {v : Int} {r : List Int} (h : isUp w v = false) (hs : v ∉ s) : trun w s (v :: r) = trun (v :: w) (v :: s) r := by simp [trun, tstep, h, hs]
theorem trun_bad {w s : List Int} {v : Int} {r : List Int} (h : isUp w v = false) (hs : v ∈ s) : trun w s (v :: r) = none := by simp [trun, tstep, h, hs]
/-- a step that is done is one of the two -/
theorem trun_cons {w s : List Int} {v : Int} {r : List Int} {x : List Int × List Int} (h : trun w s (v :: r) = some x) :
    (isUp w v = true ∧ trun w.tail s r = some x) ∨ (isUp w v = false ∧ v ∉ s ∧ trun (v :: w) (v :: s) r = some x) := by
  cases hu : isUp w v with
  | true => rw [trun_up hu] at h; exact .inl ⟨rfl, h⟩
  | false =>
    by_cases hs : v ∈ s
    · rw [trun_bad hu hs] at h; simp at h
    · rw [trun_down hu hs] at h; exact .inr ⟨rfl, hs, h⟩
theorem isUp_some {w : List Int} {v : Int} (h : isUp w v = true) : ∃ c q, w = c :: v :: q := by
  match w, h with
  | c :: p :: q, h => simp [isUp] at h; exact ⟨c, q, by rw [h]⟩
theorem isUp_mem {w : List Int} {v : Int} (h : isUp w v = true) : v ∈ w := by obtain ⟨c, q, rfl⟩ := isUp_some h; simp

/-- what is seen: what was, and what stands in the list -/
theorem trun_seen {t w s w' s' : List Int} (h : trun w s t = some (w', s')) (hw : ∀ x ∈ w, x ∈ s) : (∀ x, x ∈ s' ↔ x ∈ s ∨ x ∈ t) ∧ ∀ x ∈ w', x ∈ s' := by
  induction t generalizing w s with
  | nil => simp [trun] at h; obtain ⟨rfl, rfl⟩ := h; exact ⟨fun x => by simp, hw⟩
  | cons v r ih =>
    rcases trun_cons h with ⟨hu, h1⟩ | ⟨hu, hs, h1⟩
    · obtain ⟨a, b⟩ := ih h1 (fun x hx => hw x (List.mem_of_mem_tail hx))
      refine ⟨fun x => ?_, b⟩
      rw [a x]
      have := hw v (isUp_mem hu)
      simp
      constructor
      · rintro (h | h) <;> simp [h]
      · rintro (h | rfl | h)
        · exact .inl h
        · exact .inl this
        · exact .inr h
    · obtain ⟨a, b⟩ := ih h1 (fun x hx => by rcases List.mem_cons.1 hx with rfl | hx; · simp
                                             · exact List.mem_cons_of_mem _ (hw x hx))
      refine ⟨fun x => ?_, b⟩
      rw [a x]
      simp
      constructor
      · rintro ((h | h) | h) <;> simp [h]
      · rintro (h | h | h) <;> simp [h]
theorem trun_nodup {t w s w' s' : List Int} (h : trun w s t = some (w', s')) (hs : s.Nodup) : s'.Nodup := by
  induction t generalizing w s with
  | nil => simp [trun] at h; obtain ⟨rfl, rfl⟩ := h; exact hs
  | cons v r ih =>
    rcases trun_cons h with ⟨hu, h1⟩ | ⟨hu, hv, h1⟩
    · exact ih h1 hs
    · exact ih h1 (List.nodup_cons.2 ⟨hv, hs⟩)
theorem trun_len {t w s w' s' : List Int} (h : trun w s t = some (w', s')) : t.length + w'.length + 2 * s.length = w.length + 2 * s'.length := by
  induction t generalizing w s with
  | nil => simp [trun] at h; obtain ⟨rfl, rfl⟩ := h; simp
  | cons v r ih =>
    rcases trun_cons h with ⟨hu, h1⟩ | ⟨hu, hv, h1⟩
    · obtain ⟨c, q, rfl⟩ := isUp_some hu
      have := ih h1
      simp at this ⊢
      omega
    · have := ih h1
      simp at this ⊢
      omega
/-- the way has the last one of the list on top, the root at its foot -/
theorem trun_foot {t w s w' s' : List Int} (h : trun w s t = some (w', s')) (hw : w ≠ []) : w' ≠ [] ∧ w'.getLast? = w.getLast? := by
  induction t generalizing w s with
  | nil => simp [trun] at h; obtain ⟨rfl, rfl⟩ := h; exact ⟨hw, rfl⟩
  | cons v r ih =>
    rcases trun_cons h with ⟨hu, h1⟩ | ⟨hu, hv, h1⟩
    · obtain ⟨c, q, rfl⟩ := isUp_some hu
      obtain ⟨a, b⟩ := ih h1 (by simp)
      exact ⟨a, by rw [b]; simp [List.getLast?_cons_cons]⟩
    · obtain ⟨a, b⟩ := ih h1 (by simp)
      refine ⟨a, b.trans ?_⟩
      cases w with
      | nil => exact absurd rfl hw
      | cons c q => simp [List.getLast?_cons_cons]
theorem trun_top {t w s w' s' : List Int} {z : Int} (h : trun w s (t ++ [z]) = some (w', s')) : w'.head? = some z := by
  rw [trun_append] at h
  cases hq : trun w s t with
  | none => rw [hq] at h; simp at h
  | some x =>
    rw [hq] at h
    rcases trun_cons h with ⟨hu, h1⟩ | ⟨hu, hv, h1⟩
    · obtain ⟨c, q, e⟩ := isUp_some hu
      simp [trun] at h1
      rw [← h1.1, e]
      rfl
    · simp [trun] at h1
      rw [← h1.1]
      rfl

theorem tB_iff (t : List Int) : tB t = true ↔ (∀ v ∈ t, vB v = true) ∧ ∃ x s, trun [] [] t = some ([x], s) := by
  unfold tB
  rw [Bool.and_eq_true, List.all_eq_true]
  refine and_congr Iff.rfl ?_
  cases trun [] [] t with
  | none => simp
  | some p =>
    obtain ⟨w, s⟩ := p
    simp
    constructor
    · intro h
      match w, h with
      | [x], _ => exact ⟨x, rfl⟩
    · rintro ⟨x, rfl⟩; rfl
/-- a right tour, opened -/
theorem tB_open {t : List Int} (h : tB t = true) : ∃ x r s, t = x :: r ∧ trun [x] [x] r = some ([x], s) ∧ (∀ v ∈ t, vB v = true) ∧ (r = [] ∨ ∃ q, r = q ++ [x]) := by
  obtain ⟨hv, x, s, h⟩ := (tB_iff t).1 h
  cases t with
  | nil => simp [trun] at h
  | cons y r =>
    rw [trun_down (by rfl) (by simp)] at h
    have hf := (trun_foot h (by simp)).2
    simp at hf
    subst hf
    refine ⟨x, r, s, rfl, h, hv, ?_⟩
    rcases List.eq_nil_or_concat r with rfl | ⟨q, z, e⟩
    · exact .inl rfl
    · rw [List.concat_eq_append] at e
      subst e
      have := trun_top h
      simp at this
      subst this
      exact .inr ⟨q, rfl⟩
theorem tB_of {x : Int} {r s : List Int} (hv : ∀ v ∈ x :: r, vB v = true) (h : trun [x] [x] r = some ([x], s)) : tB (x :: r) = true :=
  (tB_iff _).2 ⟨hv, x, s, by rw [trun_down (by rfl) (by simp)]; exact h⟩
theorem tB_ne {t : List Int} (h : tB t = true) : t ≠ [] := by obtain ⟨x, r, s, rfl, _⟩ := tB_open h; simp

/-- so many numbers below n, no two alike, are n at most -/
theorem nodup_le (n : Nat) (s : List Int) (hs : s.Nodup) (hv : ∀ v ∈ s, 0 ≤ v ∧ v < (n : Int)) : s.length ≤ n := by
  induction n generalizing s with
  | zero =>
    cases s with
    | nil => simp
    | cons a s => have := hv a (by simp); omega
  | succ n ih =>
    by_cases hm : (n : Int) ∈ s
    · have h1 := ih (s.erase (n : Int)) (hs.erase _) (fun v hv' => by
        obtain ⟨h2, h3⟩ := (hs.mem_erase_iff).1 hv'
        have := hv v h3
        omega)
      rw [List.length_erase_of_mem hm] at h1
      omega
    · have h1 := ih s hs (fun v hv' => by
        have := hv v hv'
        have : v ≠ (n : Int) := fun e => hm (e ▸ hv')
        omega)
      omega
theorem nodup_short (s : List Int) (hs : s.Nodup) (hv : ∀ v ∈ s, vB v = true) : s.length ≤ 12 :=
  nodup_le 12 s hs fun v h => by have := hv v h; simpa [vB] using this
theorem tB_len {t : List Int} (h : tB t = true) : 1 ≤ t.length ∧ t.length ≤ 23 := by
  obtain ⟨hv, x, s, h⟩ := (tB_iff t).1 h
  have hl := trun_len h
  have hs := trun_nodup h (by simp)
  have hm := (trun_seen h (by simp)).1
  have := nodup_short s hs (fun v hvs => hv v (by rcases (hm v).1 hvs with h | h; · simp at h
                                                  · exact h))
  simp at hl
  omega
end Go.Proofs.YtgjnlhdgekfieaaGreat
namespace Go.Proofs.YtgjnlhdgekfieaaGreat

/-- what is seen matters as a set alone: fewer, more or others beside -/
theorem trun_less {r w s w1 s1 s' : List Int} (h : trun w s r = some (w1, s1)) (hs : ∀ x ∈ s', x ∈ s) : ∃ s1', trun w s' r = some (w1, s1') := by
  induction r generalizing w s s' with
  | nil => simp [trun] at h; exact ⟨s', by simp [trun, h.1]⟩
  | cons v r ih =>
    rcases trun_cons h with ⟨hu, h1⟩ | ⟨hu, hv, h1⟩
    · obtain ⟨s1', h2⟩ := ih h1 hs
      exact ⟨s1', by rw [trun_up hu]; exact h2⟩
    · obtain ⟨s1', h2⟩ := ih h1 (s' := v :: s') (fun x hx => by
        rcases List.mem_cons.1 hx with rfl | hx
        · simp
        · exact List.mem_cons_of_mem _ (hs x hx))
      exact ⟨s1', by rw [trun_down hu (fun h3 => hv (hs v h3))]; exact h2⟩
/-- the same run further up, over another way, with more that was seen: nothing of that stands in the list -/
theorem trun_over {r w s w1 s1 E s' : List Int} (h : trun w s r = some (w1, s1)) (hw : w ≠ []) (hs : ∀ x ∈ s', x ∈ s ∨ x ∉ r) (hE : ∀ x ∈ E, x ∈ s ∨ x ∉ r) : ∃ s1', trun (w ++ E) s' r = some (w1 ++ E, s1') := by
  induction r generalizing w s s' with
  | nil => simp [trun] at h; exact ⟨s', by simp [trun, h.1]⟩
  | cons v r ih =>
    rcases trun_cons h with ⟨hu, h1⟩ | ⟨hu, hv, h1⟩
    · obtain ⟨c, q, rfl⟩ := isUp_some hu
      obtain ⟨s1', h2⟩ := ih h1 (by simp) (fun x hx => (hs x hx).imp id (fun h3 h4 => h3 (List.mem_cons_of_mem _ h4))) (fun x hx => (hE x hx).imp id (fun h3 h4 => h3 (List.mem_cons_of_mem _ h4)))
      exact ⟨s1', by rw [trun_up (by simp [isUp])]; exact h2⟩
    · obtain ⟨s1', h2⟩ := ih h1 (by simp) (s' := v :: s') (fun x hx => by
          rcases List.mem_cons.1 hx with rfl | hx
          · exact .inl (by simp)
          · exact (hs x hx).imp (fun h3 => List.mem_cons_of_mem _ h3) (fun h3 h4 => h3 (List.mem_cons_of_mem _ h4))) (fun x hx => (hE x hx).imp (fun h3 => List.mem_cons_of_mem _ h3) (fun h3 h4 => h3 (List.mem_cons_of_mem _ h4)))
      have hvs : v ∉ s' := fun h3 => (hs v h3).elim hv (fun h4 => h4 (by simp))
      have hvE : v ∉ E := fun h3 => (hE v h3).elim hv (fun h4 => h4 (by simp))
      refine ⟨s1', ?_⟩
      rw [trun_down ?_ hvs]
      · exact h2
      · match w, hw with
        | [c], _ =>
          cases E with
          | nil => rfl
          | cons e E => simp [isUp]; rintro rfl; exact hvE (by simp)
        | c :: p :: q, _ => simpa [isUp] using hu
/-- what was seen and is not on the way does not stand in the list -/
theorem trun_avoid {r w s w1 s1 : List Int} (h : trun w s r = some (w1, s1)) {X : Int → Prop} (hX : ∀ x, X x → x ∈ s) (hw : ∀ x ∈ w, ¬ X x) : ∀ x ∈ r, ¬ X x := by
  induction r generalizing w s with
  | nil => simp
  | cons v r ih =>
    intro x hx
    rcases trun_cons h with ⟨hu, h1⟩ | ⟨hu, hv, h1⟩
    · rcases List.mem_cons.1 hx with rfl | hx
      · exact hw _ (isUp_mem hu)
      · exact ih h1 hX (fun y hy => hw y (List.mem_of_mem_tail hy)) x hx
    · rcases List.mem_cons.1 hx with rfl | hx
      · exact fun h2 => hv (hX _ h2)
      · exact ih h1 (fun y hy => List.mem_cons_of_mem _ (hX y hy)) (fun y hy => by
          rcases List.mem_cons.1 hy with rfl | hy
          · exact fun h2 => hv (hX _ h2)
          · exact hw y hy) x hx
theorem trun_way {r w s w1 s1 : List Int} (h : trun w s r = some (w1, s1)) (hn : w.Nodup) (hs : ∀ x ∈ w, x ∈ s) : w1.Nodup := by
  induction r generalizing w s with
  | nil => simp [trun] at h; rw [← h.1]; exact hn
  | cons v r ih =>
    rcases trun_cons h with ⟨hu, h1⟩ | ⟨hu, hv, h1⟩
    · exact ih h1 (hn.sublist (List.tail_sublist _)) (fun x hx => hs x (List.mem_of_mem_tail hx))
    · exact ih h1 (List.nodup_cons.2 ⟨fun h2 => hv (hs v h2), hn⟩) (fun x hx => by
        rcases List.mem_cons.1 hx with rfl | hx
        · simp
        · exact List.mem_cons_of_mem _ (hs x hx))

/-- the root c, left behind: a run over [d, c] that ends at c goes, from d on, to c below d -/
theorem trun_turn {r w s s1 : List Int} {c d : Int} {s' : List Int} (h : trun (w ++ [c]) s r = some ([c], s1)) (hw : w.getLast? = some d) (hs : ∀ x, x ∈ s ↔ x = c ∨ x ∈ s') (hc : c ∉ s') (hd : d ∈ s') : ∃ s1', trun w s' r = some ([c, d], s1') := by
  induction r generalizing w s s' with
  | nil =>
    simp [trun] at h
    rw [h.1] at hw
    simp at hw
  | cons v r ih =>
    match w, hw with
    | [e], hw =>
      simp at hw
      subst hw
      rcases trun_cons h with ⟨hu, h1⟩ | ⟨hu, hv, h1⟩
      · simp [isUp] at hu
        subst hu
        have h1' : trun [c] s r = some ([c], s1) := h1
        have hm : ∀ x ∈ c :: s', x ∈ s ∨ x ∉ r := fun x hx => .inl ((hs x).2 (by simpa using hx))
        obtain ⟨s1', h2⟩ := trun_over (E := [e]) h1' (by simp) hm (fun x hx => by simp at hx; subst hx; exact .inl ((hs x).2 (.inr hd)))
        exact ⟨s1', by rw [trun_down (by rfl) hc]; exact h2⟩
      · have hvc : v ≠ c := fun e => hv ((hs v).2 (.inl e))
        have hvs : v ∉ s' := fun e => hv ((hs v).2 (.inr e))
        obtain ⟨s1', h2⟩ := ih (w := [v, e]) (s' := v :: s') h1 (by simp) (fun x => by
          simp only [List.mem_cons, hs]
          constructor
          · rintro (h | h | h) <;> simp [h]
          · rintro (h | h | h) <;> simp [h]) (by simp [hc]; exact fun e => hvc e.symm) (by simp [hd])
        exact ⟨s1', by rw [trun_down (by rfl) hvs]; exact h2⟩
    | x :: y :: w, hw =>
      rcases trun_cons h with ⟨hu, h1⟩ | ⟨hu, hv, h1⟩
      · have hu' : isUp (x :: y :: w) v = true := by simpa [isUp] using hu
        obtain ⟨s1', h2⟩ := ih (w := y :: w) h1 (by simpa [List.getLast?_cons_cons] using hw) hs hc hd
        exact ⟨s1', by rw [trun_up hu']; exact h2⟩
      · have hu' : isUp (x :: y :: w) v = false := by simpa [isUp] using hu
        have hvc : v ≠ c := fun e => hv ((hs v).2 (.inl e))
        have hvs : v ∉ s' := fun e => hv ((hs v).2 (.inr e))
        obtain ⟨s1', h2⟩ := ih (w := v :: x :: y :: w) (s' := v :: s') h1 (by simpa [List.getLast?_cons_cons] using hw) (fun z => by
          simp only [List.mem_cons, hs]
          constructor
          · rintro (h | h | h) <;> simp [h]
          · rintro (h | h | h) <;> simp [h]) (by simp [hc]; exact fun e => hvc e.symm) (by simp [hd])
        exact ⟨s1', by rw [trun_down hu' hvs]; exact h2⟩
/-- a tour from its second vertex on -/
theorem tour_turn {c d : Int} {m : List Int} (h : tB (c :: d :: (m ++ [c])) = true) : tB (d :: (m ++ [c] ++ [d])) = true := by
  obtain ⟨x, r, s, e, hr, hv, _⟩ := tB_open h
  simp at e
  obtain ⟨rfl, rfl⟩ := e
  rcases trun_cons hr with ⟨hu, _⟩ | ⟨hu, hd, h1⟩
  · simp [isUp] at hu
  · have hdc : d ≠ c := by simpa using hd
    obtain ⟨s1', h2⟩ := trun_turn (w := [d]) (d := d) (s' := [d]) h1 (by simp) (fun x => by simp; exact or_comm) (by simp; exact fun e => hdc e.symm) (by simp)
    refine tB_of (s := s1') (fun v hv' => hv v ?_) ?_
    · simp at hv' ⊢
      rcases hv' with h | h | h | h <;> simp [h]
    · rw [trun_append, h2]
      simp [trun, tstep, isUp]
/-- a tour is a ring of vertices, cut at one of them -/
theorem tour_ring {t : List Int} (h : tB t = true) : (∃ x, t = [x]) ∨ ∃ c d m, t = c :: d :: (m ++ [c]) := by
  obtain ⟨x, r, s, rfl, hr, _, hq⟩ := tB_open h
  rcases hq with rfl | ⟨q, rfl⟩
  · exact .inl ⟨x, rfl⟩
  · cases q with
    | nil =>
      simp [trun, tstep, isUp] at hr
    | cons d m => exact .inr ⟨x, d, m, by simp⟩
/-- the ring, cut at its place k -/
def cutAt (q : List Int) (k : Nat) : List Int := q.drop k ++ (q.take k ++ (q[k]?).toList)
theorem tour_cut {q : List Int} (h : tB (cutAt q 0) = true) (k : Nat) (hk : k < q.length) : tB (cutAt q k) = true := by
  induction k with
  | zero => exact h
  | succ k ih =>
    have h1 := ih (by omega)
    have e1 : q.drop k = q[k]'(by omega) :: q[k + 1] :: q.drop (k + 2) := by
      rw [List.drop_eq_getElem_cons (by omega), List.drop_eq_getElem_cons hk]
    have e2 : cutAt q k = q[k]'(by omega) :: q[k + 1] :: ((q.drop (k + 2) ++ q.take k) ++ [q[k]'(by omega)]) := by
      unfold cutAt
      rw [e1, List.getElem?_eq_getElem (by omega)]
      simp only [Option.toList_some, List.cons_append, List.append_assoc]
    rw [e2] at h1
    have h2 := tour_turn h1
    have e3 : cutAt q (k + 1) = q[k + 1] :: (q.drop (k + 2) ++ q.take k ++ [q[k]'(by omega)] ++ [q[k + 1]]) := by
      unfold cutAt
      rw [List.drop_eq_getElem_cons hk, List.getElem?_eq_getElem hk, List.take_succ_eq_append_getElem (by omega)]
      simp only [Option.toList_some, List.cons_append, List.append_assoc]
    rw [e3]
    exact h2
end Go.Proofs.YtgjnlhdgekfieaaGreat
namespace Go.Proofs.YtgjnlhdgekfieaaGreat

/-- the edge of two vertices -/
def mkE (v u : Int) : EdgeV := if v < u then (v, u) else (u, v)
theorem mkE_comm {v u : Int} (h : v ≠ u) : mkE v u = mkE u v := by
  unfold mkE
  by_cases h1 : v < u
  · rw [if_pos h1, if_neg (by omega)]
  · rw [if_neg h1, if_pos (by omega)]
theorem mkE_inj {v u w : Int} (h : mkE v u = mkE v w) : u = w := by
  unfold mkE at h
  split at h <;> split at h <;> simp at h <;> omega
theorem mkE_ends (v u : Int) : (mkE v u = (v, u)) ∨ (mkE v u = (u, v)) := by
  unfold mkE
  split <;> simp

/-- the vertices from n - rem on -/
def wkGo (rec : Int → Int → List Int → Option (List Int × List Int)) (es : List EdgeV) (n : Nat) (v fr : Int) : Nat → List Int → List Int → Option (List Int × List Int)
  | 0, out, seen => some (out, seen)
  | rem + 1, out, seen =>
    if ((n - (rem + 1) : Nat) : Int) = fr ∨ mkE v ((n - (rem + 1) : Nat) : Int) ∉ es then wkGo rec es n v fr rem out seen
    else if ((n - (rem + 1) : Nat) : Int) ∈ seen then none
    else match rec ((n - (rem + 1) : Nat) : Int) v seen with
      | none => none
      | some x => wkGo rec es n v fr rem (out ++ x.1 ++ [v]) x.2
/-- the walk from v, to which it came from fr -/
def wk (es : List EdgeV) (n : Nat) : Nat → Int → Int → List Int → Option (List Int × List Int)
  | 0, _, _, _ => none
  | f + 1, v, fr, seen => wkGo (wk es n f) es n v fr n [v] (v :: seen)
theorem wkGo_skip {rec : Int → Int → List Int → Option (List Int × List Int)} {es : List EdgeV} {n : Nat} {v fr : Int} {rem k : Nat} {out seen : List Int} (hk : n - (rem + 1) = k) (h : (k : Int) = fr ∨ mkE v (k : Int) ∉ es) :
    wkGo rec es n v fr (rem + 1) out seen = wkGo rec es n v fr rem out seen := by
  rw [wkGo, hk, if_pos h]
theorem wkGo_go {rec : Int → Int → List Int → Option (List Int × List Int)} {es : List EdgeV} {n : Nat} {v fr : Int} {rem k : Nat} {out seen : List Int} {x : List Int × List Int} (hk : n - (rem + 1) = k) (h1 : (k : Int) ≠ fr) (h2 : mkE v (k : Int) ∈ es)
    (h : wkGo rec es n v fr (rem + 1) out seen = some x) : (k : Int) ∉ seen ∧ ∃ p, rec (k : Int) v seen = some p ∧ wkGo rec es n v fr rem (out ++ p.1 ++ [v]) p.2 = some x := by
  rw [wkGo, hk, if_neg (by rintro (h3 | h3); exact h1 h3; exact h3 h2)] at h
  by_cases hs : (k : Int) ∈ seen
  · rw [if_pos hs] at h; simp at h
  · rw [if_neg hs] at h
    refine ⟨hs, ?_⟩
    cases hr : rec (k : Int) v seen with
    | none => rw [hr] at h; simp at h
    | some p => rw [hr] at h; exact ⟨p, rfl, h⟩

/-- each edge is the only way between its ends -/
def Bridge (es : List EdgeV) : Prop := ∀ e ∈ es, ∃ S : Int → Prop, S e.2 ∧ ¬ S e.1 ∧ ∀ d ∈ es, d ≠ e → (S d.1 ↔ S d.2)
theorem Bridge.side {es : List EdgeV} (h : Bridge es) {v u : Int} (he : mkE v u ∈ es) : ∃ S : Int → Prop, S u ∧ ¬ S v ∧ ∀ d ∈ es, d ≠ mkE v u → (S d.1 ↔ S d.2) := by
  obtain ⟨S, h1, h2, h3⟩ := h _ he
  rcases mkE_ends v u with e | e
  · rw [e] at h1 h2
    exact ⟨S, h1, h2, h3⟩
  · rw [e] at h1 h2
    exact ⟨fun x => ¬ S x, h2, fun h4 => h4 h1, fun d hd hne => not_congr (h3 d hd hne)⟩

structure WkIs (es : List EdgeV) (n : Nat) (v fr : Int) (seen t seen' : List Int) : Prop where
  head : t.head? = some v
  nodup : seen'.Nodup
  rng : ∀ x ∈ seen', 0 ≤ x ∧ x < (n : Int)
  mem : ∀ x, x ∈ seen' ↔ x ∈ seen ∨ x ∈ t
  new : ∀ x ∈ t, x ∉ seen
  run : ∀ W S : List Int, (∀ x ∈ W, x ∈ S) → (∀ x ∈ t, x ∉ S) → ∃ S', trun W S t = some (v :: W, S')
  least : ∀ C : Int → Prop, C v → (∀ e ∈ es, e ≠ mkE v fr → (C e.1 ↔ C e.2)) → ∀ x ∈ t, C x
  len : seen.length < seen'.length
/-- the vertices below k have been gone to -/
structure GoIs (es : List EdgeV) (n : Nat) (v fr : Int) (k : Nat) (seen0 out seen : List Int) : Prop where
  head : out.head? = some v
  nodup : seen.Nodup
  rng : ∀ x ∈ seen, 0 ≤ x ∧ x < (n : Int)
  mem : ∀ x, x ∈ seen ↔ x ∈ seen0 ∨ x ∈ out
  new : ∀ x ∈ out, x ∉ seen0
  run : ∀ W S : List Int, (∀ x ∈ W, x ∈ S) → (∀ x ∈ out, x ∉ S) → ∃ S', trun W S out = some (v :: W, S')
  least : ∀ C : Int → Prop, C v → (∀ e ∈ es, e ≠ mkE v fr → (∀ u : Nat, k ≤ u → u < n → e ≠ mkE v (u : Int)) → (C e.1 ↔ C e.2)) → ∀ x ∈ out, C x
  len : seen0.length < seen.length
theorem GoIs.skip {es : List EdgeV} {n : Nat} {v fr : Int} {k : Nat} {seen0 out seen : List Int} (h : GoIs es n v fr k seen0 out seen) : GoIs es n v fr (k + 1) seen0 out seen :=
  ⟨h.head, h.nodup, h.rng, h.mem, h.new, h.run, fun C hv hC => h.least C hv fun e he h1 h2 => hC e he h1 fun u hu hn => h2 u (by omega) hn, h.len⟩
theorem GoIs.go {es : List EdgeV} {n : Nat} {v fr : Int} {k : Nat} {seen0 out seen p seen' : List Int} (h : GoIs es n v fr k seen0 out seen) (hkf : (k : Int) ≠ fr) (hkv : v ≠ (k : Int)) (he : mkE v (k : Int) ∈ es) {S : Int → Prop} (hS1 : S (k : Int)) (hS2 : ¬ S v) (hS3 : ∀ d ∈ es, d ≠ mkE v (k : Int) → (S d.1 ↔ S d.2))
    (hp : WkIs es n (k : Int) v seen p seen') : GoIs es n v fr (k + 1) seen0 (out ++ p ++ [v]) seen' := by
  have hvo : v ∈ out := by
    have := h.head
    cases out with
    | nil => simp at this
    | cons a o => simp at this; simp [this]
  have hS4 : ∀ w : Int, mkE v w ∈ es → mkE v w ≠ mkE v (k : Int) → ¬ S (mkE v w).1 ∧ ¬ S (mkE v w).2 := fun w hw hne => by
    have := hS3 _ hw hne
    rcases mkE_ends v w with e | e
    · rw [e] at this ⊢; exact ⟨hS2, fun h5 => hS2 (this.2 h5)⟩
    · rw [e] at this ⊢; exact ⟨fun h5 => hS2 (this.1 h5), hS2⟩
  refine ⟨?_, hp.nodup, hp.rng, fun x => ?_, fun x hx => ?_, fun W T hW hT => ?_, fun C hv hC x hx => ?_, Nat.lt_trans h.len hp.len⟩
  · have := h.head
    cases out with
    | nil => simp at this
    | cons a o => simpa using this
  · rw [hp.mem, h.mem]
    simp only [List.mem_append, List.mem_singleton]
    constructor
    · rintro ((h1 | h1) | h1)
      · exact .inl h1
      · exact .inr (.inl (.inl h1))
      · exact .inr (.inl (.inr h1))
    · rintro (h1 | (h1 | h1) | h1)
      · exact .inl (.inl h1)
      · exact .inl (.inr h1)
      · exact .inr h1
      · exact .inl (.inr (by rw [h1]; exact hvo))
  · simp only [List.mem_append, List.mem_singleton] at hx
    rcases hx with (h1 | h1) | h1
    · exact h.new x h1
    · exact fun h2 => hp.new x h1 ((h.mem x).2 (.inl h2))
    · rw [h1]; exact h.new v hvo
  · obtain ⟨S1, h1⟩ := h.run W T hW (fun x hx => hT x (by simp [hx]))
    obtain ⟨hs, hw⟩ := trun_seen h1 hW
    obtain ⟨S2, h2⟩ := hp.run (v :: W) S1 hw (fun x hx h3 => by
      rcases (hs x).1 h3 with h4 | h4
      · exact hT x (by simp [hx]) h4
      · exact hp.new x hx ((h.mem x).2 (.inr h4)))
    refine ⟨S2, ?_⟩
    rw [trun_append, trun_append, h1, Option.bind_some, h2, Option.bind_some, trun_up (by simp [isUp])]
    rfl
  · simp only [List.mem_append, List.mem_singleton] at hx
    rcases hx with (h1 | h1) | h1
    · exact h.skip.least C hv hC x h1
    · refine (hp.least (fun y => C y ∧ S y) ⟨?_, hS1⟩ (fun e he2 hne => ?_) x h1).1
      · have h2 := hC _ he (fun e => hkf (mkE_inj e)) (fun u hu _ e => by have := mkE_inj e; omega)
        rcases mkE_ends v (k : Int) with e | e
        · rw [e] at h2; exact h2.1 hv
        · rw [e] at h2; exact h2.2 hv
      · rw [mkE_comm (fun e => hkv e.symm)] at hne
        by_cases h3 : e = mkE v fr
        · subst h3
          obtain ⟨a, b⟩ := hS4 fr he2 hne
          exact ⟨fun h4 => absurd h4.2 a, fun h4 => absurd h4.2 b⟩
        · by_cases h4 : ∃ u : Nat, k + 1 ≤ u ∧ u < n ∧ e = mkE v (u : Int)
          · obtain ⟨u, _, _, rfl⟩ := h4
            obtain ⟨a, b⟩ := hS4 _ he2 hne
            exact ⟨fun h4 => absurd h4.2 a, fun h4 => absurd h4.2 b⟩
          · exact and_congr (hC e he2 h3 (fun u h5 h6 h7 => h4 ⟨u, h5, h6, h7⟩)) (hS3 e he2 hne)
    · rw [h1]; exact hv
theorem wk_ok {es : List EdgeV} {n : Nat} (hE : ∀ e ∈ es, 0 ≤ e.1 ∧ e.1 < e.2 ∧ e.2 < (n : Int)) (hBr : Bridge es) (f : Nat) : ∀ (v fr : Int) (seen : List Int), 0 ≤ v → v < (n : Int) → seen.Nodup → (∀ x ∈ seen, 0 ≤ x ∧ x < (n : Int)) → n ≤ f + seen.length →
    (∃ C : Int → Prop, C v ∧ (∀ x ∈ seen, ¬ C x) ∧ ∀ e ∈ es, e ≠ mkE v fr → (C e.1 ↔ C e.2)) → ∃ t seen', wk es n f v fr seen = some (t, seen') ∧ WkIs es n v fr seen t seen' := by
  induction f with
  | zero =>
    intro v fr seen h0 h1 hn hr hf ⟨C, hC, hCs, _⟩
    have hv : v ∉ seen := fun h => hCs v h hC
    have := nodup_le n (v :: seen) (List.nodup_cons.2 ⟨hv, hn⟩) (fun x hx => by
      rcases List.mem_cons.1 hx with rfl | hx
      · exact ⟨h0, h1⟩
      · exact hr x hx)
    simp at this
    omega
  | succ f ih =>
    intro v fr seen0 h0 h1 hn hr hf ⟨C, hC, hCs, hCe⟩
    have hv : v ∉ seen0 := fun h => hCs v h hC
    have key : ∀ (rem k : Nat) (out seen : List Int), rem + k = n → GoIs es n v fr k seen0 out seen → ∃ t seen', wkGo (wk es n f) es n v fr rem out seen = some (t, seen') ∧ GoIs es n v fr n seen0 t seen' := by
      intro rem
      induction rem with
      | zero =>
        intro k out seen hk hg
        obtain rfl : k = n := by omega
        exact ⟨out, seen, rfl, hg⟩
      | succ rem ihr =>
        intro k out seen hk hg
        have ek : n - (rem + 1) = k := by omega
        by_cases hs : (k : Int) = fr ∨ mkE v (k : Int) ∉ es
        · rw [wkGo_skip ek hs]
          exact ihr (k + 1) out seen (by omega) hg.skip
        · have hkf : (k : Int) ≠ fr := fun e => hs (.inl e)
          have he : mkE v (k : Int) ∈ es := Classical.not_not.1 (fun e => hs (.inr e))
          have hkv : v ≠ (k : Int) := fun e => by
            have := hE _ he
            rw [← e] at this
            unfold mkE at this
            rw [if_neg (by omega)] at this
            simp at this
          obtain ⟨S, hS1, hS2, hS3⟩ := hBr.side he
          have hout : ∀ x ∈ out, ¬ S x := hg.least (fun x => ¬ S x) hS2 (fun e he2 _ h3 => not_congr (hS3 e he2 (h3 k (Nat.le_refl _) (by omega))))
          have hCk : C (k : Int) := by
            have h2 := hCe _ he (fun e => hkf (mkE_inj e))
            rcases mkE_ends v (k : Int) with e | e
            · rw [e] at h2; exact h2.1 hC
            · rw [e] at h2; exact h2.2 hC
          have hpre : ∀ x ∈ seen, ¬ (C x ∧ S x) := fun x hx h3 => by
            rcases (hg.mem x).1 hx with h4 | h4
            · exact hCs x h4 h3.1
            · exact hout x h4 h3.2
          have hks : (k : Int) ∉ seen := fun h3 => hpre _ h3 ⟨hCk, hS1⟩
          obtain ⟨p, seen', hp, hpi⟩ := ih (k : Int) v seen (by omega) (by omega) hg.nodup hg.rng (by have := hg.len; omega) ⟨fun x => C x ∧ S x, ⟨hCk, hS1⟩, hpre, fun e he2 hne => by
            rw [mkE_comm (fun e => hkv e.symm)] at hne
            by_cases h3 : e = mkE v fr
            · subst h3
              have := hS3 _ he2 hne
              rcases mkE_ends v fr with e | e
              · rw [e] at this ⊢; exact ⟨fun h5 => absurd h5.2 hS2, fun h5 => absurd (this.2 h5.2) hS2⟩
              · rw [e] at this ⊢; exact ⟨fun h5 => absurd (this.1 h5.2) hS2, fun h5 => absurd h5.2 hS2⟩
            · exact and_congr (hCe e he2 h3) (hS3 e he2 hne)⟩
          obtain ⟨t, sn, h5, h6⟩ := ihr (k + 1) (out ++ p ++ [v]) seen' (by omega) (hg.go hkf hkv he hS1 hS2 hS3 hpi)
          refine ⟨t, sn, ?_, h6⟩
          rw [wkGo, ek, if_neg hs, if_neg hks, hp]
          exact h5
    have hst : GoIs es n v fr 0 seen0 [v] (v :: seen0) := by
      refine ⟨rfl, List.nodup_cons.2 ⟨hv, hn⟩, fun x hx => ?_, fun x => by simp; exact or_comm, fun x hx => by simp at hx; rw [hx]; exact hv, fun W S hW hS => ?_, fun C hv _ x hx => by simp at hx; rw [hx]; exact hv, by simp⟩
      · rcases List.mem_cons.1 hx with rfl | hx
        · exact ⟨h0, h1⟩
        · exact hr x hx
      · have hvS : v ∉ S := hS v (by simp)
        have hup : isUp W v = false := by
          cases h : isUp W v with
          | false => rfl
          | true => exact absurd (hW _ (isUp_mem h)) hvS
        exact ⟨v :: S, by rw [trun_down hup hvS]; rfl⟩
    obtain ⟨t, sn, h2, h3⟩ := key n 0 [v] (v :: seen0) (by omega) hst
    exact ⟨t, sn, h2, h3.head, h3.nodup, h3.rng, h3.mem, h3.new, h3.run, fun C hv hCe2 => h3.least C hv fun e he hne _ => hCe2 e he hne, h3.len⟩

theorem mem_putE {es : List EdgeV} {e d : EdgeV} : d ∈ putE es e ↔ d ∈ es ∨ d = e := by
  unfold putE
  simp only [List.mem_append, List.mem_filter, List.mem_singleton]
  constructor
  · rintro ((h | h) | h)
    · exact .inl h.1
    · exact .inr h
    · exact .inl h.1
  · rintro (h | h)
    · by_cases he : d = e
      · exact .inl (.inr he)
      · cases hl : lt d e with
        | true => exact .inl (.inl ⟨h, rfl⟩)
        | false => exact .inr ⟨h, lt_total' hl he⟩
    · exact .inl (.inr h)
/-- edges of trees of the vertices below k -/
structure Forest (es : List EdgeV) (k : Nat) : Prop where
  ends : ∀ e ∈ es, 0 ≤ e.1 ∧ e.1 < e.2 ∧ e.2 < (k : Int)
  bridge : Bridge es
theorem Forest.nil (k : Nat) : Forest [] k := ⟨fun e h => by simp at h, fun e h => by simp at h⟩
theorem Forest.more {es : List EdgeV} {k : Nat} (h : Forest es k) : Forest es (k + 1) := ⟨fun e he => by have := h.ends e he; omega, h.bridge⟩
theorem Forest.put {es : List EdgeV} {k : Nat} (h : Forest es k) {x : Nat} (hx : x < k) : Forest (putE es ((x : Int), (k : Int))) (k + 1) := by
  have hnew : ((x : Int), (k : Int)) ∉ es := fun he => by have := h.ends _ he; simp at this
  refine ⟨fun e he => ?_, fun e he => ?_⟩
  · rcases mem_putE.1 he with h1 | h1
    · have := h.ends e h1; omega
    · subst h1; simp; omega
  · rcases mem_putE.1 he with h1 | h1
    · obtain ⟨S, a, b, c⟩ := h.bridge e h1
      have he1 := h.ends e h1
      refine ⟨fun y => if y = (k : Int) then S (x : Int) else S y, by simp only [if_neg (show ¬ e.2 = (k : Int) by omega)]; exact a, by simp only [if_neg (show ¬ e.1 = (k : Int) by omega)]; exact b, fun d hd hne => ?_⟩
      rcases mem_putE.1 hd with h2 | h2
      · have hd1 := h.ends d h2
        simp only [if_neg (show ¬ d.1 = (k : Int) by omega), if_neg (show ¬ d.2 = (k : Int) by omega)]
        exact c d h2 hne
      · subst h2
        simp only [if_neg (show ¬ (x : Int) = (k : Int) by omega), if_true]
    · subst h1
      refine ⟨fun y => y = (k : Int), rfl, by simp; omega, fun d hd hne => ?_⟩
      rcases mem_putE.1 hd with h2 | h2
      · have hd1 := h.ends d h2
        constructor
        · intro h3; omega
        · intro h3; omega
      · exact absurd h2 hne
/-- the tour of a tree of a forest -/
theorem forest_tour {es : List EdgeV} {n : Nat} (h : Forest es n) (hn : n ≤ 12) {r : Nat} (hr : r < n) : ∃ t sn, wk es n n (r : Int) (-1) [] = some (t, sn) ∧ tB t = true ∧ t[0]? = some (r : Int) := by
  obtain ⟨t, sn, h1, h2⟩ := wk_ok h.ends h.bridge n (r : Int) (-1) [] (by omega) (by omega) (by simp) (by simp) (by simp) ⟨fun _ => True, trivial, by simp, by simp⟩
  refine ⟨t, sn, h1, ?_, ?_⟩
  · obtain ⟨S', h3⟩ := h2.run [] [] (by simp) (by simp)
    refine (tB_iff t).2 ⟨fun x hx => ?_, (r : Int), S', h3⟩
    have := h2.rng x ((h2.mem x).2 (.inr hx))
    simp [vB]
    omega
  · rw [← List.head?_eq_getElem?]; exact h2.head
end Go.Proofs.YtgjnlhdgekfieaaGreat
