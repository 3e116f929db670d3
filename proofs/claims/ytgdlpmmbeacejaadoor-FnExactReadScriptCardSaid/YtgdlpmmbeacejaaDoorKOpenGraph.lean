/- szHead, toHead, eqHead. Cells of a box, set one behind the other; toTask. toHead, eqHead: a head laid anew, a head held against itself. eqHead: a head is the same as itself, laid elsewhere. eqHead: a head is the same as itself, laid elsewhere. A graph and an edge that come in, as the walks want them. -/
import Derived.Test.YtgdlpmmbeacejaaDoorKHe13
import Derived.WalkKit
import Derived.ProofKit
import Derived.OpenShut
import Derived.ChangeOld
import Derived.ChangeArms
import Derived.Below
namespace Go.Proofs.YtgdlpmmbeacejaaDoor
open Go.RowKit

abbrev orV (num op : Int) (e : Sx) (v : Int) : Value := .agg #[.int .i64 num, .int .i64 op, e.v, .int .i64 v]
abbrev tkV (h : Hd) (e : Sx) : Value := .agg #[.int .i64 h.i, .int .i64 h.o, .int .i64 h.a, .int .i64 h.b, .int .i64 h.sh, .int .i64 h.num, .int .i64 h.op, e.v, .int .i64 h.v]
theorem belA (w : World) (o : Obj) : Below w.heap.size w (w.alloc o) := (Below.refl _ _).alloc (Nat.le_refl _) _
end Go.Proofs.YtgdlpmmbeacejaaDoor
namespace Go.Proofs.YtgdlpmmbeacejaaDoor
open Go.RowKit

/-- cells k, k + 1 .. of block b are set -/
def setA (w : World) (b : Nat) : Nat → List Value → World
  | _, [] => w
  | k, v :: vs => setA (w.setCell ⟨b, k, none⟩ v) b (k + 1) vs
def setV (cs : List Value) : Nat → List Value → List Value
  | _, [] => cs
  | k, v :: vs => setV (cs.set k v) (k + 1) vs
section
variable {w u : World} {b : Nat} {t : TypeId} {cs : Array Value}
theorem BxA.setA {l : List Value} (h : BxA w b t l.toArray) (k : Nat) (vs : List Value) : BxA (setA w b k vs) b t (setV l k vs).toArray := by
  induction vs generalizing w l k with
  | nil => exact h
  | cons v vs ih => exact ih (by have := h.set k v; rw [List.setIfInBounds_toArray] at this; exact this) (k + 1)
theorem BxA.at {l : List Value} (h : BxA w b t l.toArray) (i : Nat) {v : Value} (hv : l[i]? = some v) : w.cell? ⟨b, i, none⟩ = some v := h.cell i (by rw [List.getElem?_toArray]; exact hv)
theorem BxA.setAO {G : Nat} (h : BxA w b t cs) (k : Nat) (vs : List Value) (hG : b ≠ G) : BxA (Go.Proofs.YtgdlpmmbeacejaaDoor.setA w G k vs) b t cs := by
  induction vs generalizing w k with
  | nil => exact h
  | cons v vs ih => exact ih (h.setO v hG) (k + 1)
theorem below_setA {C G : Nat} (h : Below C w u) (hb : C ≤ G) (k : Nat) (vs : List Value) : Below C w (Go.Proofs.YtgdlpmmbeacejaaDoor.setA u G k vs) := by
  induction vs generalizing u k with
  | nil => exact h
  | cons v vs ih => exact ih (h.setCell (p := ⟨G, k, none⟩) hb v) (k + 1)
theorem own_lowA {B e s n G j : Nat} {x : Value} {xs : List Value} {y : Value} (h : w.ownsRow B e s x n xs) (hG : G < B) : (w.setCell ⟨G, j, none⟩ y).ownsRow B e s x n xs :=
  World.ownsRow.kept h (grownSet w G j y) (.inr (fun e => by have := (h.lt G e).1; omega))
theorem own_setA {B e s n G : Nat} {x : Value} {xs : List Value} (h : w.ownsRow B e s x n xs) (hG : G < B) (k : Nat) (vs : List Value) : (Go.Proofs.YtgdlpmmbeacejaaDoor.setA w G k vs).ownsRow B e s x n xs := by
  induction vs generalizing w k with
  | nil => exact h
  | cons v vs ih => exact ih (own_lowA h hG) (k + 1)
theorem fb_setA {lo hi G : Nat} {a : Option Addr} {n c : Nat} {R : List Rw} (h : FB w lo hi a n c R) (hG : G < lo) (k : Nat) (vs : List Value) : FB (Go.Proofs.YtgdlpmmbeacejaaDoor.setA w G k vs) lo hi a n c R := by
  induction vs generalizing w k with
  | nil => exact h
  | cons v vs ih => exact ih (h.setLow hG k v) (k + 1)
theorem size_setA (k : Nat) (vs : List Value) : (Go.Proofs.YtgdlpmmbeacejaaDoor.setA w b k vs).heap.size = w.heap.size := by
  induction vs generalizing w k with
  | nil => rfl
  | cons v vs ih => unfold Go.Proofs.YtgdlpmmbeacejaaDoor.setA; rw [ih]; simp [World.setCell]
end

/-- where a function stands that lays a struct anew: what came in, the result's box, the new one's -/
structure TH (w : World) (s : Nat) (tl ti : TypeId) (lv rv iv : List Value) (u : World) : Prop where
  lw : BxA u s tl lv.toArray
  rs : BxA u (s + 1) ti rv.toArray
  out : BxA u (s + 1 + 1) ti iv.toArray
  below : Below s w u
section
variable {w u v : World} {s : Nat} {tl ti : TypeId} {lv rv iv : List Value}
theorem TH.lt (h : TH w s tl ti lv rv iv u) : s + 3 ≤ u.heap.size := h.out.lt
theorem TH.up (h : TH w s tl ti lv rv iv u) (hb : Below u.heap.size u v) : TH w s tl ti lv rv iv v := ⟨h.lw.up hb, h.rs.up hb, h.out.up hb, h.below.trans (hb.mono (by have := h.lt; omega))⟩
theorem TH.set (h : TH w s tl ti lv rv iv u) (k : Nat) (vs : List Value) : TH w s tl ti lv rv (setV iv k vs) (setA u (s + 1 + 1) k vs) := ⟨h.lw.setAO k vs (by omega), h.rs.setAO k vs (by omega), h.out.setA k vs, below_setA h.below (by omega) k vs⟩
theorem TH.start (w : World) (tl ti : TypeId) (lv rv iv : List Value) : TH w w.heap.size tl ti lv rv iv (((w.alloc (.cells lv.toArray tl)).alloc (.cells rv.toArray ti)).alloc (.cells iv.toArray ti)) := by
  have h1 := (BxA.new w tl lv.toArray).up (belA _ (.cells rv.toArray ti))
  have h2 := BxA.new (w.alloc (.cells lv.toArray tl)) ti rv.toArray
  have h3 := BxA.new ((w.alloc (.cells lv.toArray tl)).alloc (.cells rv.toArray ti)) ti iv.toArray
  exact ⟨h1.up (belA _ _), by simpa using h2.up (belA _ (.cells iv.toArray ti)), by simpa using h3, (((Below.refl _ _).alloc (Nat.le_refl _) _).alloc (by simp) _).alloc (by simp; omega) _⟩
end

end Go.Proofs.YtgdlpmmbeacejaaDoor
namespace Go.Proofs.YtgdlpmmbeacejaaDoor
open Go.RowKit

/-- its lists are ours -/
structure HOwn (w : World) (B : Nat) (h : Hd) (p : Hp) (R : List Rw) : Prop where
  o : w.ownsRow B 3 1 p.o.v p.o.n (ic h.own)
  c : w.ownsRow B 100 2 p.c.v p.c.n (O.ecells h.cuts)
  l : FB w B w.heap.size p.l.a p.l.n p.l.c R
  r : rts R = h.lab
  n : w.ownsRow B 3 1 p.n.v p.n.n (ic h.nums)
  e : w.ownsRow B 100 2 p.e.v p.e.n (O.ecells h.es)
  s : w.ownsRow B 158 6 p.s.v p.s.n (scells h.said)
theorem Is_own {w : World} {B n c : Nat} {a : Option Addr} {ls : List Int} (h : w.ownsRow B 3 1 (.slice a n c) n (ic ls)) : Is w w.heap.size a n ls := Is_of_own h
theorem HOwn.inn {w : World} {B : Nat} {h : Hd} {p : Hp} {R : List Rw} (k : HOwn w B h p R) : HIn w h p := ⟨Is_own k.o, O.Es_of_own k.c, by rw [← k.r]; exact k.l.ts, Is_own k.n, O.Es_of_own k.e, Ss_of_own k.s⟩
theorem HOwn.up {w u : World} {B : Nat} {h : Hd} {p : Hp} {R : List Rw} (k : HOwn w B h p R) (hb : Below w.heap.size w u) : HOwn u B h p R := ⟨own_up k.o hb, own_up k.c hb, k.l.keep hb, k.r, own_up k.n hb, own_up k.e hb, own_up k.s hb⟩
theorem HOwn.low {w : World} {B B' : Nat} {h : Hd} {p : Hp} {R : List Rw} (k : HOwn w B h p R) (hB : B' ≤ B) : HOwn w B' h p R := ⟨own_mono k.o hB, own_mono k.c hB, k.l.lo hB, k.r, own_mono k.n hB, own_mono k.e hB, own_mono k.s hB⟩
theorem setV_all (l vs : List Value) (h : l.length = vs.length) : setV l 0 vs = vs := by
  have key : ∀ (vs pre l : List Value), l.length = vs.length → setV (pre ++ l) pre.length vs = pre ++ vs := by
    intro vs
    induction vs with
    | nil => intro pre l hl; rw [List.length_eq_zero_iff.1 hl]; rfl
    | cons v vs ih =>
      intro pre l hl
      cases l with
      | nil => simp at hl
      | cons x l =>
        have := ih (pre ++ [v]) l (by simpa using hl)
        rw [setV, List.set_append_right _ _ (Nat.le_refl _), Nat.sub_self, List.set_cons_zero]
        simpa using this
  exact key vs [] l h
theorem FB.setS {w : World} {lo G : Nat} {a : Option Addr} {n c : Nat} {R : List Rw} (h : FB w lo w.heap.size a n c R) (hG : G < lo) (k : Nat) (vs : List Value) : FB (setA w G k vs) lo (setA w G k vs).heap.size a n c R := by
  rw [size_setA]
  exact fb_setA h hG k vs

/-- lists as long, laid anew -/
abbrev newP (g1 g2 g3 g4 g5 g6 : Nat) (p : Hp) : Hp := ⟨⟨some ⟨g1, 0, none⟩, p.o.n, p.o.n⟩, ⟨some ⟨g2, 0, none⟩, p.c.n, p.c.n⟩, ⟨some ⟨g3, 0, none⟩, p.l.n, p.l.n⟩, ⟨some ⟨g4, 0, none⟩, p.n.n, p.n.n⟩, ⟨some ⟨g5, 0, none⟩, p.e.n, p.e.n⟩, ⟨some ⟨g6, 0, none⟩, p.s.n, p.s.n⟩⟩

end Go.Proofs.YtgdlpmmbeacejaaDoor
namespace Go.Proofs.YtgdlpmmbeacejaaDoor
open Go.RowKit

end Go.Proofs.YtgdlpmmbeacejaaDoor
namespace Go.Proofs.YtgdlpmmbeacejaaDoor
open Go.RowKit

/-- lists as long -/
def HpL (p p' : Hp) : Prop := p'.o.n = p.o.n ∧ p'.c.n = p.c.n ∧ p'.l.n = p.l.n ∧ p'.n.n = p.n.n ∧ p'.e.n = p.e.n ∧ p'.s.n = p.s.n
theorem HIn.lens {w w' : World} {h : Hd} {p p' : Hp} (k : HIn w h p) (k' : HIn w' h p') : HpL p p' :=
  ⟨k'.o.1.symm.trans k.o.1, k'.c.1.symm.trans k.c.1, k'.l.1.symm.trans k.l.1, k'.n.1.symm.trans k.n.1, k'.e.1.symm.trans k.e.1, k'.s.1.symm.trans k.s.1⟩
theorem HFit.of {h : Hd} {p p' : Hp} (k : HFit h p) (l : HpL p p') : HFit h p' := by
  obtain ⟨l1, l2, l3, l4, l5, l6⟩ := l
  exact ⟨by rw [l1]; exact k.o, by rw [l2]; exact k.c, by rw [l3]; exact k.l, by rw [l4]; exact k.n, by rw [l5]; exact k.e, by rw [l6]; exact k.s⟩

end Go.Proofs.YtgdlpmmbeacejaaDoor
namespace Go.Proofs.YtgdlpmmbeacejaaDoor.O
open Go.ChangeShapes Go.WideShapes Go.ChangeAt Go.RowKit

theorem cells3 : Tryd.prog.cellsOf 3 = 1 := by kernel_rfl

/-- an edge as the machine bears it -/
def FitE (f : EdgeV) : Prop := (Lit.int .i64 f.1).wf = true ∧ (Lit.int .i64 f.2).wf = true

theorem two {α : Type} {l : List α} (h : l.length = 2) : ∃ a b, l = [a, b] := by
  cases l with
  | nil => simp at h
  | cons a l =>
    cases l with
    | nil => simp at h
    | cons b l =>
      cases l with
      | nil => exact ⟨a, b, rfl⟩
      | cons c l => simp at h

end Go.Proofs.YtgdlpmmbeacejaaDoor.O
