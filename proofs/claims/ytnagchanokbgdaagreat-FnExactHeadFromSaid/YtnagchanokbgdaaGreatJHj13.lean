/- Heads in memory; the laws' own functions over them: szHead, toHead, eqHead. szHead, toHead, eqHead. Cells of a box, set one behind the other; toTask. toHead, eqHead: a head laid anew, a head held against itself. eqHead: a head is the same as itself, laid elsewhere. eqHead: a head is the same as itself, laid elsewhere. -/
import Derived.Test.YtnagchanokbgdaaGreatJSd13
import Derived.Test.YtnagchanokbgdaaGreatJSGraph
namespace Go.Proofs.YtnagchanokbgdaaGreat
open Go.RowKit
def BxA (w:World) (b:Nat) (t:TypeId) (vs:Array Value):Prop:=w.heap[b]?=some (.cells vs t (0,0))
section
variable {w u:World} {b:Nat} {t:TypeId} {vs:Array Value}
theorem BxA.new (w:World) (t:TypeId) (vs:Array Value):BxA (w.alloc (.cells vs t)) w.heap.size t vs:=heap_alloc_new w _
theorem BxA.lt (h:BxA w b t vs):b<w.heap.size:=(Array.getElem?_eq_some_iff.1 h).1
theorem BxA.up (h:BxA w b t vs) (hb:Below w.heap.size w u):BxA u b t vs:=by unfold BxA;rw [hb.block b h.lt];exact h
theorem BxA.cell (h:BxA w b t vs) (i:Nat) {v:Value} (hv:vs[i]?=some v):w.cell? ⟨b,i,none⟩=some v:=by rw [cell_of_row w b i _ _ _ h];exact hv
theorem BxA.set (h:BxA w b t vs) (i:Nat) (v:Value):BxA (w.setCell ⟨b,i,none⟩ v) b t (vs.setIfInBounds i v):=heap_setCell_same w b i _ t v h
theorem BxA.setO {G j:Nat} (h:BxA w b t vs) (v:Value) (hG:b≠G):BxA (w.setCell ⟨G,j,none⟩ v) b t vs:=by
 unfold BxA
 rw [heap_setCell_other _ _ _ _ (by first | exact hG | exact fun e=>hG e.symm)]
 exact h
theorem BxA.frozen (h:BxA w b t vs) (j:Nat):w.frozen? ⟨b,j,none⟩=false:=frozen_of_row w b j _ _ h
end
structure Sx where
 a:Option Addr
 n:Nat
 c:Nat
abbrev Sx.v (s:Sx):Value:=.slice s.a s.n s.c
structure Hd where
 N:Int
 own:List Int
 cuts:List O.EdgeV
 lab:List (List Int)
 nums:List Int
 i:Int
 o:Int
 a:Int
 b:Int
 sh:Int
 num:Int
 op:Int
 es:List O.EdgeV
 v:Int
 said:List Sd
structure Hp where
 o:Sx
 c:Sx
 l:Sx
 n:Sx
 e:Sx
 s:Sx
abbrev hC (h:Hd) (p:Hp):Array Value:=#[.int .i64 h.N,p.o.v,p.c.v,p.l.v,p.n.v,.int .i64 h.i,.int .i64 h.o,.int .i64 h.a,.int .i64 h.b,.int .i64 h.sh,.int .i64 h.num,.int .i64 h.op,p.e.v,.int .i64 h.v,p.s.v]
structure HIn (w:World) (h:Hd) (p:Hp):Prop where
 o:Is w w.heap.size p.o.a p.o.n h.own
 c:O.Es w w.heap.size p.c.a p.c.n h.cuts
 l:Ts w w.heap.size p.l.a p.l.n h.lab
 n:Is w w.heap.size p.n.a p.n.n h.nums
 e:O.Es w w.heap.size p.e.a p.e.n h.es
 s:Ss w w.heap.size p.s.a p.s.n h.said
theorem HIn.up {w u:World} {h:Hd} {p:Hp} (k:HIn w h p) (hb:Below w.heap.size w u):HIn u h p:=⟨k.o.up hb,k.c.up hb,k.l.up hb,k.n.up hb,k.e.up hb,k.s.up hb⟩
structure HFit (h:Hd) (p:Hp):Prop where
 o:p.o.n≤1048576
 c:p.c.n≤1048576
 l:p.l.n+lnS h.lab≤1048576
 n:p.n.n≤1048576
 e:p.e.n≤1048576
 s:p.s.n≤1048576
theorem belA (w:World) (o:Obj):Below w.heap.size w (w.alloc o):=(Below.refl _ _).alloc (Nat.le_refl _) _
def setA (w:World) (b:Nat):Nat→List Value→World
 | _,[]=>w
 | k,v :: vs=>setA (w.setCell ⟨b,k,none⟩ v) b (k+1) vs
def setV (cs:List Value):Nat→List Value→List Value
 | _,[]=>cs
 | k,v :: vs=>setV (cs.set k v) (k+1) vs
section
variable {w u:World} {b:Nat} {t:TypeId} {cs:Array Value}
theorem BxA.setA {l:List Value} (h:BxA w b t l.toArray) (k:Nat) (vs:List Value):BxA (setA w b k vs) b t (setV l k vs).toArray:=by
 induction vs generalizing w l k with
 | nil=>exact h
 | cons v vs ih=>exact ih (by have:=h.set k v;rw [List.setIfInBounds_toArray] at this;exact this) (k+1)
theorem BxA.at {l:List Value} (h:BxA w b t l.toArray) (i:Nat) {v:Value} (hv:l[i]?=some v):w.cell? ⟨b,i,none⟩=some v:=h.cell i (by rw [List.getElem?_toArray];exact hv)
theorem below_setA {C G:Nat} (h:Below C w u) (hb:C≤G) (k:Nat) (vs:List Value):Below C w (Go.Proofs.YtnagchanokbgdaaGreat.setA u G k vs):=by
 induction vs generalizing u k with
 | nil=>exact h
 | cons v vs ih=>exact ih (h.setCell (p:=⟨G,k,none⟩) hb v) (k+1)
theorem own_lowA {B e s n G j:Nat} {x:Value} {xs:List Value} {y:Value} (h:w.ownsRow B e s x n xs) (hG:G<B):(w.setCell ⟨G,j,none⟩ y).ownsRow B e s x n xs :=
 World.ownsRow.kept h (grownSet w G j y) (.inr (fun e=>by have:=(h.lt G e).1;omega))
theorem own_setA {B e s n G:Nat} {x:Value} {xs:List Value} (h:w.ownsRow B e s x n xs) (hG:G<B) (k:Nat) (vs:List Value):(Go.Proofs.YtnagchanokbgdaaGreat.setA w G k vs).ownsRow B e s x n xs:=by
 induction vs generalizing w k with
 | nil=>exact h
 | cons v vs ih=>exact ih (own_lowA h hG) (k+1)
theorem fb_setA {lo hi G:Nat} {a:Option Addr} {n c:Nat} {R:List Rw} (h:FB w lo hi a n c R) (hG:G<lo) (k:Nat) (vs:List Value):FB (Go.Proofs.YtnagchanokbgdaaGreat.setA w G k vs) lo hi a n c R:=by
 induction vs generalizing w k with
 | nil=>exact h
 | cons v vs ih=>exact ih (h.setLow hG k v) (k+1)
theorem size_setA (k:Nat) (vs:List Value):(Go.Proofs.YtnagchanokbgdaaGreat.setA w b k vs).heap.size=w.heap.size:=by
 induction vs generalizing w k with
 | nil=>rfl
 | cons v vs ih=>unfold Go.Proofs.YtnagchanokbgdaaGreat.setA;rw [ih];simp [World.setCell]
end
section
variable {w u v:World} {s:Nat} {tl ti:TypeId} {lv rv iv:List Value}
end
structure HOwn (w:World) (B:Nat) (h:Hd) (p:Hp) (R:List Rw):Prop where
 o:w.ownsRow B 3 1 p.o.v p.o.n (ic h.own)
 c:w.ownsRow B 107 2 p.c.v p.c.n (O.ecells h.cuts)
 l:FB w B w.heap.size p.l.a p.l.n p.l.c R
 r:rts R=h.lab
 n:w.ownsRow B 3 1 p.n.v p.n.n (ic h.nums)
 e:w.ownsRow B 107 2 p.e.v p.e.n (O.ecells h.es)
 s:w.ownsRow B 82 6 p.s.v p.s.n (scells h.said)
theorem Is_own {w:World} {B n c:Nat} {a:Option Addr} {ls:List Int} (h:w.ownsRow B 3 1 (.slice a n c) n (ic ls)):Is w w.heap.size a n ls:=Is_of_own h
theorem HOwn.inn {w:World} {B:Nat} {h:Hd} {p:Hp} {R:List Rw} (k:HOwn w B h p R):HIn w h p:=⟨Is_own k.o,O.Es_of_own k.c,by rw [← k.r];exact k.l.ts,Is_own k.n,O.Es_of_own k.e,Ss_of_own k.s⟩
theorem HOwn.up {w u:World} {B:Nat} {h:Hd} {p:Hp} {R:List Rw} (k:HOwn w B h p R) (hb:Below w.heap.size w u):HOwn u B h p R:=⟨own_up k.o hb,own_up k.c hb,k.l.keep hb,k.r,own_up k.n hb,own_up k.e hb,own_up k.s hb⟩
theorem HOwn.low {w:World} {B B':Nat} {h:Hd} {p:Hp} {R:List Rw} (k:HOwn w B h p R) (hB:B'≤B):HOwn w B' h p R:=⟨own_mono k.o hB,own_mono k.c hB,k.l.lo hB,k.r,own_mono k.n hB,own_mono k.e hB,own_mono k.s hB⟩
theorem setV_all (l vs:List Value) (h:l.length=vs.length):setV l 0 vs=vs:=by
 have key:∀ (vs pre l:List Value),l.length=vs.length→setV (pre ++ l) pre.length vs=pre ++ vs:=by
  intro vs
  induction vs with
  | nil=>intro pre l hl;rw [List.length_eq_zero_iff.1 hl];rfl
  | cons v vs ih =>
   intro pre l hl
   cases l with
   | nil=>simp at hl
   | cons x l =>
    have:=ih (pre ++ [v]) l (by simpa using hl)
    rw [setV,List.set_append_right _ _ (Nat.le_refl _),Nat.sub_self,List.set_cons_zero]
    simpa using this
 exact key vs [] l h
theorem FB.setS {w:World} {lo G:Nat} {a:Option Addr} {n c:Nat} {R:List Rw} (h:FB w lo w.heap.size a n c R) (hG:G<lo) (k:Nat) (vs:List Value):FB (setA w G k vs) lo (setA w G k vs).heap.size a n c R:=by
 rw [size_setA]
 exact fb_setA h hG k vs
set_option maxRecDepth 100000 in
set_option maxHeartbeats 4000000 in
theorem eqOrder_new (num op v:Int) (fs:List O.EdgeV) (n:Nat) (a a':Option Addr) (c c':Nat) (hn:n≤1048576) (w:World) (h:O.Es w w.heap.size a n fs) (h':O.Es w w.heap.size a' n fs) :
  Calls Tryz.prog 67 #[.agg #[.int .i64 num,.int .i64 op,.slice a n c,.int .i64 v],.agg #[.int .i64 num,.int .i64 op,.slice a' n c',.int .i64 v]] w fun e w'=>e=.returned (.bool true)∧Below w.heap.size w w':=by
 have B2:Below w.heap.size w ((w.alloc (.cells #[.int .i64 num,.int .i64 op,.slice a n c,.int .i64 v] 30)).alloc (.cells #[.int .i64 num,.int .i64 op,.slice a' n c',.int .i64 v] 30)):=((Below.refl _ _).alloc (Nat.le_refl _) _).alloc (by simp) _
 have HT:=hideIt (O.eqEdgeS_same fs n a a' c c' hn _ (h.up B2) (h'.up B2))
 have HB:=hideIt B2
 clear h h' B2
 go_enter Tryz.func67,Tryz.ntmps67
 go_wp2_with (go_at_call 29;refine HT.out.mono ?_;rintro e w1 ⟨rfl,hb1⟩;refine Hid.out ?_)
 refine (show ∀ {p:Prop},p→Hid p from fun h=>h) ?_
 obtain ⟨hc,hf⟩:=bcell hb1
 have HB2:=hideIt (HB.out.trans (hb1.mono (by simp;omega)))
 have hz:=hb1.size
 simp at hz
 clear HT hb1
 go_wp2
 go_ret
 exact ⟨rfl,HB2.out⟩
set_option maxRecDepth 100000 in
set_option maxHeartbeats 4000000 in
theorem eqTask_same (i o a b sh num op v:Int) (fs:List O.EdgeV) (n:Nat) (ad ad':Option Addr) (c c':Nat) (hn:n≤1048576) (w:World) (h:O.Es w w.heap.size ad n fs) (h':O.Es w w.heap.size ad' n fs) :
  Calls Tryz.prog 31 #[.agg #[.int .i64 i,.int .i64 o,.int .i64 a,.int .i64 b,.int .i64 sh,.int .i64 num,.int .i64 op,.slice ad n c,.int .i64 v],.agg #[.int .i64 i,.int .i64 o,.int .i64 a,.int .i64 b,.int .i64 sh,.int .i64 num,.int .i64 op,.slice ad' n c',.int .i64 v]] w fun e w'=>e=.returned (.bool true)∧Below w.heap.size w w':=by
 obtain ⟨W,hW⟩:∃ W,W=(w.alloc (.cells #[.int .i64 i,.int .i64 o,.int .i64 a,.int .i64 b,.int .i64 sh,.int .i64 num,.int .i64 op,.slice ad n c,.int .i64 v] 32)).alloc (.cells #[.int .i64 i,.int .i64 o,.int .i64 a,.int .i64 b,.int .i64 sh,.int .i64 num,.int .i64 op,.slice ad' n c',.int .i64 v] 32):=⟨_,rfl⟩
 have B2:Below w.heap.size w W:=by rw [hW];exact ((Below.refl _ _).alloc (Nat.le_refl _) _).alloc (by simp) _
 have X1:=(BxA.new w 32 #[.int .i64 i,.int .i64 o,.int .i64 a,.int .i64 b,.int .i64 sh,.int .i64 num,.int .i64 op,.slice ad n c,.int .i64 v]).up (belA _ (.cells #[.int .i64 i,.int .i64 o,.int .i64 a,.int .i64 b,.int .i64 sh,.int .i64 num,.int .i64 op,.slice ad' n c',.int .i64 v] 32))
 have X2:=BxA.new (w.alloc (.cells #[.int .i64 i,.int .i64 o,.int .i64 a,.int .i64 b,.int .i64 sh,.int .i64 num,.int .i64 op,.slice ad n c,.int .i64 v] 32)) 32 #[.int .i64 i,.int .i64 o,.int .i64 a,.int .i64 b,.int .i64 sh,.int .i64 num,.int .i64 op,.slice ad' n c',.int .i64 v]
 rw [← hW] at X1 X2
 rw [show (w.alloc (.cells #[.int .i64 i,.int .i64 o,.int .i64 a,.int .i64 b,.int .i64 sh,.int .i64 num,.int .i64 op,.slice ad n c,.int .i64 v] 32)).heap.size=w.heap.size+1 by simp] at X2
 have HA:=hideIt (eqAsk_yes i o a b W)
 have HO:=hideIt (fun u (hu:Below w.heap.size w u)=>eqOrder_new num op v fs n ad ad' c c' hn u (h.up hu) (h'.up hu))
 have HB:=hideIt B2
 have HX1:=hideIt X1
 have HX2:=hideIt X2
 have x0:=X1.cell 0 rfl
 have x1:=X1.cell 1 rfl
 have x2:=X1.cell 2 rfl
 have x3:=X1.cell 3 rfl
 have y0:=X2.cell 0 rfl
 have y1:=X2.cell 1 rfl
 have y2:=X2.cell 2 rfl
 have y3:=X2.cell 3 rfl
 have ds:(sh != sh)=false:=by simp
 clear h h' B2 X1 X2
 go_enter Tryz.func31,Tryz.ntmps31
 go_upto_region 1 with fail
 rw [← hW]
 clear hW
 go_wp2_with (go_at_call 66;refine HA.out.mono ?_;rintro e w1 ⟨rfl,b1⟩;refine Hid.out ?_)
 refine (show ∀ {p:Prop},p→Hid p from fun h=>h) ?_
 have B3:=HB.out.trans (b1.mono HB.out.size)
 have HO2:=hideIt (HO.out w1 B3)
 have HB3:=hideIt B3
 have Y1:=HX1.out.up b1
 have Y2:=HX2.out.up b1
 clear x0 x1 x2 x3 y0 y1 y2 y3 B3 b1 HB HO HA HX1 HX2
 have x4:=Y1.cell 4 rfl
 have x5:=Y1.cell 5 rfl
 have x6:=Y1.cell 6 rfl
 have x7:=Y1.cell 7 rfl
 have x8:=Y1.cell 8 rfl
 have y4:=Y2.cell 4 rfl
 have y5:=Y2.cell 5 rfl
 have y6:=Y2.cell 6 rfl
 have y7:=Y2.cell 7 rfl
 have y8:=Y2.cell 8 rfl
 clear Y1 Y2
 go_wp2_with (go_at_call 67;refine HO2.out.mono ?_;rintro e w2 ⟨rfl,b2⟩)
 go_ret
 exact ⟨rfl,HB3.out.trans (b2.mono HB3.out.size)⟩
def HpL (p p':Hp):Prop:=p'.o.n=p.o.n∧p'.c.n=p.c.n∧p'.l.n=p.l.n∧p'.n.n=p.n.n∧p'.e.n=p.e.n∧p'.s.n=p.s.n
theorem HIn.lens {w w':World} {h:Hd} {p p':Hp} (k:HIn w h p) (k':HIn w' h p'):HpL p p' :=
 ⟨k'.o.1.symm.trans k.o.1,k'.c.1.symm.trans k.c.1,k'.l.1.symm.trans k.l.1,k'.n.1.symm.trans k.n.1,k'.e.1.symm.trans k.e.1,k'.s.1.symm.trans k.s.1⟩
set_option maxRecDepth 100000 in
set_option maxHeartbeats 8000000 in
theorem eqHead_same (h:Hd) (p p':Hp) (hf:HFit h p) (w:World) (k:HIn w h p) (k':HIn w h p'):Calls Tryz.prog 9 #[.agg (hC h p),.agg (hC h p')] w fun e w'=>e=.returned (.bool true)∧Below w.heap.size w w':=by
 have hl:=k.lens k'
 obtain ⟨N,own,cuts,lab,nums,i,o,a,b,sh,num,op,es,v,said⟩:=h
 obtain ⟨⟨a1,n1,c1⟩,⟨a2,n2,c2⟩,⟨a3,n3,c3⟩,⟨a4,n4,c4⟩,⟨a5,n5,c5⟩,⟨a6,n6,c6⟩⟩:=p
 obtain ⟨⟨a1_,m1,c1_⟩,⟨a2_,m2,c2_⟩,⟨a3_,m3,c3_⟩,⟨a4_,m4,c4_⟩,⟨a5_,m5,c5_⟩,⟨a6_,m6,c6_⟩⟩:=p'
 obtain ⟨h1,h2,h3,h4,h5,h6⟩:=hl
 dsimp only at h1 h2 h3 h4 h5 h6
 subst h1 h2 h3 h4 h5 h6
 obtain ⟨f1,f2,f3,f4,f5,f6⟩:=hf
 obtain ⟨k1,k2,k3,k4,k5,k6⟩:=k
 obtain ⟨j1,j2,j3,j4,j5,j6⟩:=k'
 dsimp only [hC,Sx.v] at *
 obtain ⟨W,hW⟩:∃ W,W=(w.alloc (.cells #[.int .i64 N,.slice a1 m1 c1,.slice a2 m2 c2,.slice a3 m3 c3,.slice a4 m4 c4,.int .i64 i,.int .i64 o,.int .i64 a,.int .i64 b,.int .i64 sh,.int .i64 num,.int .i64 op,.slice a5 m5 c5,.int .i64 v,.slice a6 m6 c6] 35)).alloc (.cells #[.int .i64 N,.slice a1_ m1 c1_,.slice a2_ m2 c2_,.slice a3_ m3 c3_,.slice a4_ m4 c4_,.int .i64 i,.int .i64 o,.int .i64 a,.int .i64 b,.int .i64 sh,.int .i64 num,.int .i64 op,.slice a5_ m5 c5_,.int .i64 v,.slice a6_ m6 c6_] 35):=⟨_,rfl⟩
 have B2:Below w.heap.size w W:=by rw [hW];exact ((Below.refl _ _).alloc (Nat.le_refl _) _).alloc (by simp) _
 have X1:=(BxA.new w 35 #[.int .i64 N,.slice a1 m1 c1,.slice a2 m2 c2,.slice a3 m3 c3,.slice a4 m4 c4,.int .i64 i,.int .i64 o,.int .i64 a,.int .i64 b,.int .i64 sh,.int .i64 num,.int .i64 op,.slice a5 m5 c5,.int .i64 v,.slice a6 m6 c6]).up (belA _ (.cells #[.int .i64 N,.slice a1_ m1 c1_,.slice a2_ m2 c2_,.slice a3_ m3 c3_,.slice a4_ m4 c4_,.int .i64 i,.int .i64 o,.int .i64 a,.int .i64 b,.int .i64 sh,.int .i64 num,.int .i64 op,.slice a5_ m5 c5_,.int .i64 v,.slice a6_ m6 c6_] 35))
 have X2:=BxA.new (w.alloc (.cells #[.int .i64 N,.slice a1 m1 c1,.slice a2 m2 c2,.slice a3 m3 c3,.slice a4 m4 c4,.int .i64 i,.int .i64 o,.int .i64 a,.int .i64 b,.int .i64 sh,.int .i64 num,.int .i64 op,.slice a5 m5 c5,.int .i64 v,.slice a6 m6 c6] 35)) 35 #[.int .i64 N,.slice a1_ m1 c1_,.slice a2_ m2 c2_,.slice a3_ m3 c3_,.slice a4_ m4 c4_,.int .i64 i,.int .i64 o,.int .i64 a,.int .i64 b,.int .i64 sh,.int .i64 num,.int .i64 op,.slice a5_ m5 c5_,.int .i64 v,.slice a6_ m6 c6_]
 rw [← hW] at X1 X2
 rw [show (w.alloc (.cells #[.int .i64 N,.slice a1 m1 c1,.slice a2 m2 c2,.slice a3 m3 c3,.slice a4 m4 c4,.int .i64 i,.int .i64 o,.int .i64 a,.int .i64 b,.int .i64 sh,.int .i64 num,.int .i64 op,.slice a5 m5 c5,.int .i64 v,.slice a6 m6 c6] 35)).heap.size=w.heap.size+1 by simp] at X2
 have dn:(N != N)=false:=by simp
 have H1:=hideIt (fun u (hu:Below w.heap.size w u)=>eqIntS_same own m1 a1 a1_ c1 c1_ f1 u (k1.up hu) (j1.up hu))
 have H2:=hideIt (fun u (hu:Below w.heap.size w u)=>O.eqEdgeS_same cuts m2 a2 a2_ c2 c2_ f2 u (k2.up hu) (j2.up hu))
 have H3:=hideIt (fun u (hu:Below w.heap.size w u)=>eqIntSS_same lab m3 a3 a3_ c3 c3_ f3 u (k3.up hu) (j3.up hu))
 have H4:=hideIt (fun u (hu:Below w.heap.size w u)=>eqIntS_same nums m4 a4 a4_ c4 c4_ f4 u (k4.up hu) (j4.up hu))
 have H5:=hideIt (fun u (hu:Below w.heap.size w u)=>eqTask_same i o a b sh num op v es m5 a5 a5_ c5 c5_ f5 u (k5.up hu) (j5.up hu))
 have H6:=hideIt (fun u (hu:Below w.heap.size w u)=>eqSaidS_same said m6 a6 a6_ c6 c6_ f6 u (k6.up hu) (j6.up hu))
 clear k1 k2 k3 k4 k5 k6 j1 j2 j3 j4 j5 j6
 have x0:=X1.cell 0 rfl
 have y0:=X2.cell 0 rfl
 have x1:=X1.cell 1 rfl
 have y1:=X2.cell 1 rfl
 have HX1:=hideIt X1
 have HX2:=hideIt X2
 have HB:=hideIt B2
 have HT:=hideIt (H1.out W B2)
 clear X1 X2 B2
 go_enter Tryz.func9,Tryz.ntmps9
 go_upto_region 1 with fail
 rw [← hW]
 clear hW
 go_wp2_with (go_at_call 28;refine HT.out.mono ?_;rintro e w1 ⟨rfl,b1⟩;refine Hid.out ?_)
 refine (show ∀ {p:Prop},p→Hid p from fun h=>h) ?_
 have B3:=HB.out.trans (b1.mono HB.out.size)
 replace HX1:=hideIt (HX1.out.up b1)
 replace HX2:=hideIt (HX2.out.up b1)
 replace HB:=hideIt B3
 replace HT:=hideIt (H2.out w1 B3)
 clear B3 b1 H1 x0 y0 x1 y1
 have x2:=HX1.out.cell 2 rfl
 have y2:=HX2.out.cell 2 rfl
 go_wp2_with (go_at_call 29;refine HT.out.mono ?_;rintro e w2 ⟨rfl,b2⟩;refine Hid.out ?_)
 refine (show ∀ {p:Prop},p→Hid p from fun h=>h) ?_
 have B3:=HB.out.trans (b2.mono HB.out.size)
 replace HX1:=hideIt (HX1.out.up b2)
 replace HX2:=hideIt (HX2.out.up b2)
 replace HB:=hideIt B3
 replace HT:=hideIt (H3.out w2 B3)
 clear B3 b2 H2 x2 y2
 have x3:=HX1.out.cell 3 rfl
 have y3:=HX2.out.cell 3 rfl
 go_wp2_with (go_at_call 30;refine HT.out.mono ?_;rintro e w3 ⟨rfl,b3⟩;refine Hid.out ?_)
 refine (show ∀ {p:Prop},p→Hid p from fun h=>h) ?_
 have B3:=HB.out.trans (b3.mono HB.out.size)
 replace HX1:=hideIt (HX1.out.up b3)
 replace HX2:=hideIt (HX2.out.up b3)
 replace HB:=hideIt B3
 replace HT:=hideIt (H4.out w3 B3)
 clear B3 b3 H3 x3 y3
 have x4:=HX1.out.cell 4 rfl
 have y4:=HX2.out.cell 4 rfl
 go_wp2_with (go_at_call 28;refine HT.out.mono ?_;rintro e w4 ⟨rfl,b4⟩;refine Hid.out ?_)
 refine (show ∀ {p:Prop},p→Hid p from fun h=>h) ?_
 have B3:=HB.out.trans (b4.mono HB.out.size)
 replace HX1:=hideIt (HX1.out.up b4)
 replace HX2:=hideIt (HX2.out.up b4)
 replace HB:=hideIt B3
 replace HT:=hideIt (H5.out w4 B3)
 clear B3 b4 H4 x4 y4
 have x5:=HX1.out.cell 5 rfl
 have y5:=HX2.out.cell 5 rfl
 have x6:=HX1.out.cell 6 rfl
 have y6:=HX2.out.cell 6 rfl
 have x7:=HX1.out.cell 7 rfl
 have y7:=HX2.out.cell 7 rfl
 have x8:=HX1.out.cell 8 rfl
 have y8:=HX2.out.cell 8 rfl
 have x9:=HX1.out.cell 9 rfl
 have y9:=HX2.out.cell 9 rfl
 have x10:=HX1.out.cell 10 rfl
 have y10:=HX2.out.cell 10 rfl
 have x11:=HX1.out.cell 11 rfl
 have y11:=HX2.out.cell 11 rfl
 have x12:=HX1.out.cell 12 rfl
 have y12:=HX2.out.cell 12 rfl
 have x13:=HX1.out.cell 13 rfl
 have y13:=HX2.out.cell 13 rfl
 go_wp2_with (go_at_call 31;refine HT.out.mono ?_;rintro e w5 ⟨rfl,b5⟩;refine Hid.out ?_)
 refine (show ∀ {p:Prop},p→Hid p from fun h=>h) ?_
 have B3:=HB.out.trans (b5.mono HB.out.size)
 replace HX1:=hideIt (HX1.out.up b5)
 replace HX2:=hideIt (HX2.out.up b5)
 replace HB:=hideIt B3
 replace HT:=hideIt (H6.out w5 B3)
 clear B3 b5 H5 x5 y5 x6 y6 x7 y7 x8 y8 x9 y9 x10 y10 x11 y11 x12 y12 x13 y13
 have x14:=HX1.out.cell 14 rfl
 have y14:=HX2.out.cell 14 rfl
 go_wp2_with (go_at_call 16;refine HT.out.mono ?_;rintro e w6 ⟨rfl,b6⟩;refine Hid.out ?_)
 refine (show ∀ {p:Prop},p→Hid p from fun h=>h) ?_
 have B3:=HB.out.trans (b6.mono HB.out.size)
 replace HX1:=hideIt (HX1.out.up b6)
 replace HX2:=hideIt (HX2.out.up b6)
 replace HB:=hideIt B3
 clear B3 b6 H6 x14 y14
 go_wp2
 go_ret
 exact ⟨rfl,HB.out⟩
end Go.Proofs.YtnagchanokbgdaaGreat
