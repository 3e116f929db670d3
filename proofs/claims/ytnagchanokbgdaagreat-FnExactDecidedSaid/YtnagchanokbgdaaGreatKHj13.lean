/- Heads in memory; the laws' own functions over them: szHead, toHead, eqHead. szHead, toHead, eqHead. Cells of a box, set one behind the other; toTask. toHead, eqHead: a head laid anew, a head held against itself. eqHead: a head is the same as itself, laid elsewhere. eqHead: a head is the same as itself, laid elsewhere. -/
import Derived.Test.YtnagchanokbgdaaGreatKSd13
import Derived.Test.YtnagchanokbgdaaGreatKSGraph
namespace Go.Proofs.YtnagchanokbgdaaGreat
open Go.RowKit
def BxA (w:World) (b:Nat) (t:TypeId) (vs:Array Value):Prop:=w.heap[b]?=some (.cells vs t (0,0))
section
variable {w u:World} {b:Nat} {t:TypeId} {vs:Array Value}
theorem BxA.new (w:World) (t:TypeId) (vs:Array Value):BxA (w.alloc (.cells vs t)) w.heap.size t vs:=heap_alloc_new w _
theorem BxA.lt (h:BxA w b t vs):b<w.heap.size:=(Array.getElem?_eq_some_iff.1 h).1
theorem BxA.up (h:BxA w b t vs) (hb:Below w.heap.size w u):BxA u b t vs:=by unfold BxA;rw [hb.block b h.lt];exact h
theorem BxA.cell (h:BxA w b t vs) (i:Nat) {v:Value} (hv:vs[i]?=some v):w.cell? ⟨b,i,none⟩=some v:=by rw [cell_of_row w b i _ _ _ h];exact hv
theorem BxA.set (h:BxA w b t vs) (i:Nat) (v:Value):BxA (w.setCell ⟨b,i,none⟩ v) b t (vs.setIfInBounds i v):=heap_setCell_same w b i _ t v h
theorem BxA.setO {G j:Nat} (h:BxA w b t vs) (v:Value) (hG:b≠G):BxA (w.setCell ⟨G,j,none⟩ v) b t vs:=by
 unfold BxA
 rw [heap_setCell_other _ _ _ _ (by first | exact hG | exact fun e=>hG e.symm)]
 exact h
theorem BxA.frozen (h:BxA w b t vs) (j:Nat):w.frozen? ⟨b,j,none⟩=false:=frozen_of_row w b j _ _ h
end
structure Sx where
 a:Option Addr
 n:Nat
 c:Nat
abbrev Sx.v (s:Sx):Value:=.slice s.a s.n s.c
structure Hd where
 N:Int
 own:List Int
 cuts:List O.EdgeV
 lab:List (List Int)
 nums:List Int
 i:Int
 o:Int
 a:Int
 b:Int
 sh:Int
 num:Int
 op:Int
 es:List O.EdgeV
 v:Int
 said:List Sd
structure Hp where
 o:Sx
 c:Sx
 l:Sx
 n:Sx
 e:Sx
 s:Sx
abbrev hC (h:Hd) (p:Hp):Array Value:=#[.int .i64 h.N,p.o.v,p.c.v,p.l.v,p.n.v,.int .i64 h.i,.int .i64 h.o,.int .i64 h.a,.int .i64 h.b,.int .i64 h.sh,.int .i64 h.num,.int .i64 h.op,p.e.v,.int .i64 h.v,p.s.v]
structure HIn (w:World) (h:Hd) (p:Hp):Prop where
 o:Is w w.heap.size p.o.a p.o.n h.own
 c:O.Es w w.heap.size p.c.a p.c.n h.cuts
 l:Ts w w.heap.size p.l.a p.l.n h.lab
 n:Is w w.heap.size p.n.a p.n.n h.nums
 e:O.Es w w.heap.size p.e.a p.e.n h.es
 s:Ss w w.heap.size p.s.a p.s.n h.said
theorem HIn.up {w u:World} {h:Hd} {p:Hp} (k:HIn w h p) (hb:Below w.heap.size w u):HIn u h p:=⟨k.o.up hb,k.c.up hb,k.l.up hb,k.n.up hb,k.e.up hb,k.s.up hb⟩
end Go.Proofs.YtnagchanokbgdaaGreat
namespace Go.Proofs.YtnagchanokbgdaaGreat
open Go.RowKit
theorem belA (w:World) (o:Obj):Below w.heap.size w (w.alloc o):=(Below.refl _ _).alloc (Nat.le_refl _) _
end Go.Proofs.YtnagchanokbgdaaGreat
namespace Go.Proofs.YtnagchanokbgdaaGreat
open Go.RowKit
def setA (w:World) (b:Nat):Nat→List Value→World
 | _,[]=>w
 | k,v :: vs=>setA (w.setCell ⟨b,k,none⟩ v) b (k+1) vs
def setV (cs:List Value):Nat→List Value→List Value
 | _,[]=>cs
 | k,v :: vs=>setV (cs.set k v) (k+1) vs
section
variable {w u:World} {b:Nat} {t:TypeId} {cs:Array Value}
theorem BxA.setA {l:List Value} (h:BxA w b t l.toArray) (k:Nat) (vs:List Value):BxA (setA w b k vs) b t (setV l k vs).toArray:=by
 induction vs generalizing w l k with
 | nil=>exact h
 | cons v vs ih=>exact ih (by have:=h.set k v;rw [List.setIfInBounds_toArray] at this;exact this) (k+1)
theorem BxA.at {l:List Value} (h:BxA w b t l.toArray) (i:Nat) {v:Value} (hv:l[i]?=some v):w.cell? ⟨b,i,none⟩=some v:=h.cell i (by rw [List.getElem?_toArray];exact hv)
theorem below_setA {C G:Nat} (h:Below C w u) (hb:C≤G) (k:Nat) (vs:List Value):Below C w (Go.Proofs.YtnagchanokbgdaaGreat.setA u G k vs):=by
 induction vs generalizing u k with
 | nil=>exact h
 | cons v vs ih=>exact ih (h.setCell (p:=⟨G,k,none⟩) hb v) (k+1)
theorem own_lowA {B e s n G j:Nat} {x:Value} {xs:List Value} {y:Value} (h:w.ownsRow B e s x n xs) (hG:G<B):(w.setCell ⟨G,j,none⟩ y).ownsRow B e s x n xs :=
 World.ownsRow.kept h (grownSet w G j y) (.inr (fun e=>by have:=(h.lt G e).1;omega))
theorem own_setA {B e s n G:Nat} {x:Value} {xs:List Value} (h:w.ownsRow B e s x n xs) (hG:G<B) (k:Nat) (vs:List Value):(Go.Proofs.YtnagchanokbgdaaGreat.setA w G k vs).ownsRow B e s x n xs:=by
 induction vs generalizing w k with
 | nil=>exact h
 | cons v vs ih=>exact ih (own_lowA h hG) (k+1)
theorem fb_setA {lo hi G:Nat} {a:Option Addr} {n c:Nat} {R:List Rw} (h:FB w lo hi a n c R) (hG:G<lo) (k:Nat) (vs:List Value):FB (Go.Proofs.YtnagchanokbgdaaGreat.setA w G k vs) lo hi a n c R:=by
 induction vs generalizing w k with
 | nil=>exact h
 | cons v vs ih=>exact ih (h.setLow hG k v) (k+1)
theorem size_setA (k:Nat) (vs:List Value):(Go.Proofs.YtnagchanokbgdaaGreat.setA w b k vs).heap.size=w.heap.size:=by
 induction vs generalizing w k with
 | nil=>rfl
 | cons v vs ih=>unfold Go.Proofs.YtnagchanokbgdaaGreat.setA;rw [ih];simp [World.setCell]
end
section
variable {w u v:World} {s:Nat} {tl ti:TypeId} {lv rv iv:List Value}
end
end Go.Proofs.YtnagchanokbgdaaGreat
namespace Go.Proofs.YtnagchanokbgdaaGreat
open Go.RowKit
structure HOwn (w:World) (B:Nat) (h:Hd) (p:Hp) (R:List Rw):Prop where
 o:w.ownsRow B 3 1 p.o.v p.o.n (ic h.own)
 c:w.ownsRow B 107 2 p.c.v p.c.n (O.ecells h.cuts)
 l:FB w B w.heap.size p.l.a p.l.n p.l.c R
 r:rts R=h.lab
 n:w.ownsRow B 3 1 p.n.v p.n.n (ic h.nums)
 e:w.ownsRow B 107 2 p.e.v p.e.n (O.ecells h.es)
 s:w.ownsRow B 82 6 p.s.v p.s.n (scells h.said)
theorem Is_own {w:World} {B n c:Nat} {a:Option Addr} {ls:List Int} (h:w.ownsRow B 3 1 (.slice a n c) n (ic ls)):Is w w.heap.size a n ls:=Is_of_own h
theorem HOwn.inn {w:World} {B:Nat} {h:Hd} {p:Hp} {R:List Rw} (k:HOwn w B h p R):HIn w h p:=⟨Is_own k.o,O.Es_of_own k.c,by rw [← k.r];exact k.l.ts,Is_own k.n,O.Es_of_own k.e,Ss_of_own k.s⟩
theorem HOwn.up {w u:World} {B:Nat} {h:Hd} {p:Hp} {R:List Rw} (k:HOwn w B h p R) (hb:Below w.heap.size w u):HOwn u B h p R:=⟨own_up k.o hb,own_up k.c hb,k.l.keep hb,k.r,own_up k.n hb,own_up k.e hb,own_up k.s hb⟩
theorem HOwn.low {w:World} {B B':Nat} {h:Hd} {p:Hp} {R:List Rw} (k:HOwn w B h p R) (hB:B'≤B):HOwn w B' h p R:=⟨own_mono k.o hB,own_mono k.c hB,k.l.lo hB,k.r,own_mono k.n hB,own_mono k.e hB,own_mono k.s hB⟩
theorem setV_all (l vs:List Value) (h:l.length=vs.length):setV l 0 vs=vs:=by
 have key:∀ (vs pre l:List Value),l.length=vs.length→setV (pre ++ l) pre.length vs=pre ++ vs:=by
  intro vs
  induction vs with
  | nil=>intro pre l hl;rw [List.length_eq_zero_iff.1 hl];rfl
  | cons v vs ih =>
   intro pre l hl
   cases l with
   | nil=>simp at hl
   | cons x l =>
    have:=ih (pre ++ [v]) l (by simpa using hl)
    rw [setV,List.set_append_right _ _ (Nat.le_refl _),Nat.sub_self,List.set_cons_zero]
    simpa using this
 exact key vs [] l h
theorem FB.setS {w:World} {lo G:Nat} {a:Option Addr} {n c:Nat} {R:List Rw} (h:FB w lo w.heap.size a n c R) (hG:G<lo) (k:Nat) (vs:List Value):FB (setA w G k vs) lo (setA w G k vs).heap.size a n c R:=by
 rw [size_setA]
 exact fb_setA h hG k vs
end Go.Proofs.YtnagchanokbgdaaGreat
namespace Go.Proofs.YtnagchanokbgdaaGreat
open Go.RowKit
end Go.Proofs.YtnagchanokbgdaaGreat
namespace Go.Proofs.YtnagchanokbgdaaGreat
open Go.RowKit
end Go.Proofs.YtnagchanokbgdaaGreat
