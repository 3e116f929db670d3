/- An answer is marked and held, wherever its lists lie. Boxes of any cells; a drawn region walked state by state; one old block alone is turned. The law's own functions over records: how great, laid anew, compared, marked. A list of records in memory, each with rows of its own. What the law's marks make of a list of records. The law's own functions over lists of records. -/
import Derived.Test.YtnagchanokbgdaaGreatJLawB10
import Derived.Test.YtnagchanokbgdaaGreatJSWl20
import Derived.Deep.DeepCutAuto
import Derived.Test.YtnagchanokbgdaaGreatJSq1
namespace Go.Proofs.YtnagchanokbgdaaGreat.Q
open Go.Proofs.YtnagchanokbgdaaGreat.O
open Go.RowKit
structure Trn (P:Nat→Prop) (u v:World):Prop where
 os:v.os=u.os
 tape:v.tape=u.tape
 output:v.output=u.output
 size:u.heap.size≤v.heap.size
 block:∀ k,k<u.heap.size→¬ P k→v.heap[k]?=u.heap[k]?
theorem Trn.of_grown {u v:World} {r:Option Nat} (h:u.grownBy v r):Trn (fun k=>r=some k) u v:=⟨h.os,h.tape,h.output,h.size,fun k hk ho=>h.block k hk (fun e=>ho e.symm)⟩
theorem Trn.trans {P Q:Nat→Prop} {u v x:World} (h:Trn P u v) (k:Trn Q v x):Trn (fun i=>P i∨Q i) u x :=
 ⟨k.os.trans h.os,k.tape.trans h.tape,k.output.trans h.output,Nat.le_trans h.size k.size,fun i hi ho=>(k.block i (Nat.lt_of_lt_of_le hi h.size) (fun hq=>ho (.inr hq))).trans (h.block i hi (fun hp=>ho (.inl hp)))⟩
theorem szOrd_gen (num op v:Int) (n l:Nat) (a:Option Addr) (c:Nat) (hn:n≤maxLen) (hl:l≤1048576) (w:World) :
  Calls Tryz.prog 43 #[ordV num op a n c v,.int .i64 (l:Int)] w fun e w'=>e=.returned (.int .i64 (if n≤l then (l:Int) - (n:Int) else -1))∧Below w.heap.size w w':=by
 unfold maxLen at hn
 unfold ordV
 by_cases g:n≤l
 ·rw [if_pos g]
  have d1:decide ((l:Int) - (n:Int)<0)=false:=by simp;omega
  go_enter Tryz.func43,Tryz.ntmps43
  go_wp2
  go_ret
  exact ⟨rfl,bel1 _ _⟩
 ·rw [if_neg g]
  have d1:decide ((l:Int) - (n:Int)<0)=true:=by simp;omega
  go_enter Tryz.func43,Tryz.ntmps43
  go_wp2
  go_ret
  exact ⟨rfl,bel1 _ _⟩
def Good (w u:World):Prop:=Below w.heap.size w u
theorem Good.refl (w:World):Good w w:=Below.refl _ _
theorem Good.size {w u:World} (h:Good w u):w.heap.size≤u.heap.size:=Below.size h
theorem Good.up {w u v:World} (h:Good w u) (hb:Below u.heap.size u v):Good w v:=Below.trans h (hb.mono h.size)
theorem Good.alloc {w u:World} (h:Good w u) (o:Obj):Good w (u.alloc o):=h.up ((Below.refl _ _).alloc (Nat.le_refl _) _)
def BxQ (w:World) (b:Nat) (t:TypeId) (vs:Array Value):Prop:=w.heap[b]?=some (.cells vs t (0,0))
def setQ (w:World) (b:Nat):Nat→List Value→World
 | _,[]=>w
 | k,v :: vs=>setQ (w.setCell ⟨b,k,none⟩ v) b (k+1) vs
def setL (cs:List Value):Nat→List Value→List Value
 | _,[]=>cs
 | k,v :: vs=>setL (cs.set k v) (k+1) vs
section
variable {w u:World} {b:Nat} {t:TypeId} {vs:Array Value}
theorem BxQ.new (w:World) (t:TypeId) (vs:Array Value):BxQ (w.alloc (.cells vs t)) w.heap.size t vs:=heap_alloc_new w _
theorem BxQ.lt (h:BxQ w b t vs):b<w.heap.size:=(Array.getElem?_eq_some_iff.1 h).1
theorem BxQ.gr {r:Option Nat} (h:BxQ w b t vs) (hg:w.grownBy u r) (hne:r≠some b):BxQ u b t vs:=by unfold BxQ;rw [hg.block b h.lt (fun e=>hne e.symm)];exact h
theorem BxQ.set (h:BxQ w b t vs) (i:Nat) (v:Value):BxQ (w.setCell ⟨b,i,none⟩ v) b t (vs.setIfInBounds i v):=heap_setCell_same w b i _ t v h
theorem BxQ.frozen (h:BxQ w b t vs) (j:Nat):w.frozen? ⟨b,j,none⟩=false:=frozen_of_row w b j _ _ h
theorem BxQ.at {l:List Value} (h:BxQ w b t l.toArray) (i:Nat) {v:Value} (hv:l[i]?=some v):w.cell? ⟨b,i,none⟩=some v:=by rw [cell_of_row w b i _ _ _ h,List.getElem?_toArray];exact hv
theorem BxQ.setQ {l:List Value} (h:BxQ w b t l.toArray) (k:Nat) (vs:List Value):BxQ (Go.Proofs.YtnagchanokbgdaaGreat.Q.setQ w b k vs) b t (setL l k vs).toArray:=by
 induction vs generalizing w l k with
 | nil=>exact h
 | cons v vs ih=>exact ih (by have:=h.set k v;rw [List.setIfInBounds_toArray] at this;exact this) (k+1)
theorem BxQ.setO {G j:Nat} (h:BxQ w b t vs) (v:Value) (hG:b≠G):BxQ (w.setCell ⟨G,j,none⟩ v) b t vs:=by
 unfold BxQ
 rw [heap_setCell_other w ⟨G,j,none⟩ b v hG]
 exact h
theorem BxQ.setQO {G:Nat} {cs:Array Value} (h:BxQ w b t cs) (k:Nat) (vs:List Value) (hG:b≠G):BxQ (Go.Proofs.YtnagchanokbgdaaGreat.Q.setQ w G k vs) b t cs:=by
 induction vs generalizing w k with
 | nil=>exact h
 | cons v vs ih=>exact ih (h.setO v hG) (k+1)
end
section
variable {G:Nat} {n:Int} {W y z:World}
end
end Go.Proofs.YtnagchanokbgdaaGreat.Q
namespace Go.Proofs.YtnagchanokbgdaaGreat.Q
open Go.Proofs.YtnagchanokbgdaaGreat.O
open Go.RowKit Vt
theorem own_lowQ {w:World} {B e s n G j:Nat} {x:Value} {xs:List Value} {y:Value} (h:w.ownsRow B e s x n xs) (hG:G<B):(w.setCell ⟨G,j,none⟩ y).ownsRow B e s x n xs :=
 World.ownsRow.kept h (gr_set w G j y) (.inr (fun e=>by have:=(h.lt G e).1;omega))
theorem own_setQ {w:World} {B e s n G:Nat} {x:Value} {xs:List Value} (h:w.ownsRow B e s x n xs) (hG:G<B) (k:Nat) (vs:List Value):(setQ w G k vs).ownsRow B e s x n xs:=by
 induction vs generalizing w k with
 | nil=>exact h
 | cons v vs ih=>exact ih (own_lowQ h hG) (k+1)
theorem below_setQ {w u:World} {C G:Nat} (h:Below C w u) (hb:C≤G) (k:Nat) (vs:List Value):Below C w (setQ u G k vs):=by
 induction vs generalizing u k with
 | nil=>exact h
 | cons v vs ih=>exact ih (h.setCell (p:=⟨G,k,none⟩) hb v) (k+1)
theorem BxQ.bel {w u:World} {b:Nat} {t:TypeId} {cs:Array Value} (h:BxQ w b t cs) (hb:Below w.heap.size w u):BxQ u b t cs:=h.gr (gr_below hb none) (by simp)
structure TQ (w:World) (s:Nat) (tl ti:TypeId) (lv rv iv:List Value) (u:World):Prop where
 lw:BxQ u s tl lv.toArray
 rs:BxQ u (s+1) ti rv.toArray
 out:BxQ u (s+1+1) ti iv.toArray
 below:Below s w u
section
variable {w u v:World} {s:Nat} {tl ti:TypeId} {lv rv iv:List Value}
theorem TQ.lt (h:TQ w s tl ti lv rv iv u):s+3≤u.heap.size:=h.out.lt
theorem TQ.up (h:TQ w s tl ti lv rv iv u) (hb:Below u.heap.size u v):TQ w s tl ti lv rv iv v:=⟨h.lw.bel hb,h.rs.bel hb,h.out.bel hb,h.below.trans (hb.mono (by have:=h.lt;omega))⟩
theorem TQ.set (h:TQ w s tl ti lv rv iv u) (k:Nat) (vs:List Value):TQ w s tl ti lv rv (setL iv k vs) (setQ u (s+1+1) k vs):=⟨h.lw.setQO k vs (by omega),h.rs.setQO k vs (by omega),h.out.setQ k vs,below_setQ h.below (by omega) k vs⟩
theorem TQ.start (w:World) (tl ti:TypeId) (lv rv iv:List Value):TQ w w.heap.size tl ti lv rv iv (((w.alloc (.cells lv.toArray tl)).alloc (.cells rv.toArray ti)).alloc (.cells iv.toArray ti)):=by
 have b1:∀ (u:World) (o:Obj),Below u.heap.size u (u.alloc o):=fun u o=>(Below.refl _ _).alloc (Nat.le_refl _) _
 have h1:=(BxQ.new w tl lv.toArray).bel (b1 _ (.cells rv.toArray ti))
 have h2:=BxQ.new (w.alloc (.cells lv.toArray tl)) ti rv.toArray
 have h3:=BxQ.new ((w.alloc (.cells lv.toArray tl)).alloc (.cells rv.toArray ti)) ti iv.toArray
 exact ⟨h1.bel (b1 _ _),by simpa using h2.bel (b1 _ (.cells iv.toArray ti)),by simpa using h3,(((Below.refl _ _).alloc (Nat.le_refl _) _).alloc (by simp) _).alloc (by simp;omega) _⟩
end
theorem toAsk_new (i o a b:Int) (w:World):Calls Tryz.prog 57 #[.agg #[.int .i64 i,.int .i64 o,.int .i64 a,.int .i64 b]] w fun e w'=>e=.returned (.agg #[.int .i64 i,.int .i64 o,.int .i64 a,.int .i64 b])∧Below w.heap.size w w':=by
 go_enter Tryz.func57,Tryz.ntmps57
 go_wp2
 refine bodyPost_ret (v:=.agg #[.int .i64 i,.int .i64 o,.int .i64 a,.int .i64 b]) (by simp [results,Tryz.results57,go_sem]) rfl ⟨rfl,?_⟩
 repeat refine Below.setCell ?_ (by simp;try omega) _
 exact (((Below.refl _ _).alloc (Nat.le_refl _) _).alloc (by simp) _).alloc (by simp;omega) _
theorem eqAsk_yes (i o a b:Int) (w:World):Calls Tryz.prog 66 #[.agg #[.int .i64 i,.int .i64 o,.int .i64 a,.int .i64 b],.agg #[.int .i64 i,.int .i64 o,.int .i64 a,.int .i64 b]] w fun e w'=>e=.returned (.bool true)∧Below w.heap.size w w':=by
 have d1:(i != i)=false:=by simp
 have d2:(o != o)=false:=by simp
 have d3:(a != a)=false:=by simp
 have d4:(b != b)=false:=by simp
 go_enter Tryz.func66,Tryz.ntmps66
 go_wp2
 go_ret
 exact ⟨rfl,((Below.refl _ _).alloc (Nat.le_refl _) _).alloc (by simp) _⟩
set_option maxRecDepth 100000 in
set_option maxHeartbeats 2000000 in
theorem eqRec_same (kind id op a b sh anum:Int) (aok:Bool) (onum oop ov:Int) (a1:Option Addr) (k1 c1:Nat) (a2:Option Addr) (k2 c2:Nat) (a3:Option Addr) (k3 c3:Nat) (b1:Option Addr) (e1:Nat) (b2:Option Addr) (e2:Nat) (b3:Option Addr) (e3:Nat) (aes:List EdgeV) (als:List Int) (oes:List EdgeV) (l1:k1≤1048576) (l2:k2≤1048576) (l3:k3≤1048576) (w:World) (h1:Es w w.heap.size a1 k1 aes) (h2:Is w w.heap.size a2 k2 als) (h3:Es w w.heap.size a3 k3 oes) (h1':Es w w.heap.size b1 k1 aes) (h2':Is w w.heap.size b2 k2 als) (h3':Es w w.heap.size b3 k3 oes) :
  Calls Tryz.prog 32 #[.agg #[.int .i64 kind,.int .i64 id,.int .i64 op,.int .i64 a,.int .i64 b,.int .i64 sh,.int .i64 anum,.bool aok,.slice a1 k1 c1,.slice a2 k2 c2,.int .i64 onum,.int .i64 oop,.slice a3 k3 c3,.int .i64 ov],.agg #[.int .i64 kind,.int .i64 id,.int .i64 op,.int .i64 a,.int .i64 b,.int .i64 sh,.int .i64 anum,.bool aok,.slice b1 k1 e1,.slice b2 k2 e2,.int .i64 onum,.int .i64 oop,.slice b3 k3 e3,.int .i64 ov]] w fun e w'=>e=.returned (.bool true)∧Below w.heap.size w w':=by
 obtain ⟨W,hW⟩:=ex0 ((w.alloc (.cells #[.int .i64 kind,.int .i64 id,.int .i64 op,.int .i64 a,.int .i64 b,.int .i64 sh,.int .i64 anum,.bool aok,.slice a1 k1 c1,.slice a2 k2 c2,.int .i64 onum,.int .i64 oop,.slice a3 k3 c3,.int .i64 ov] 62)).alloc (.cells #[.int .i64 kind,.int .i64 id,.int .i64 op,.int .i64 a,.int .i64 b,.int .i64 sh,.int .i64 anum,.bool aok,.slice b1 k1 e1,.slice b2 k2 e2,.int .i64 onum,.int .i64 oop,.slice b3 k3 e3,.int .i64 ov] 62))
 have bW:Good w W:=by rw [hW];exact ((Good.refl w).alloc _).alloc _
 have X:BxQ W w.heap.size 62 #[.int .i64 kind,.int .i64 id,.int .i64 op,.int .i64 a,.int .i64 b,.int .i64 sh,.int .i64 anum,.bool aok,.slice a1 k1 c1,.slice a2 k2 c2,.int .i64 onum,.int .i64 oop,.slice a3 k3 c3,.int .i64 ov]:=by rw [hW];exact (BxQ.new w _ _).gr (World.grownBy_alloc _ _ none) (by simp)
 have X':BxQ W (w.heap.size+1) 62 #[.int .i64 kind,.int .i64 id,.int .i64 op,.int .i64 a,.int .i64 b,.int .i64 sh,.int .i64 anum,.bool aok,.slice b1 k1 e1,.slice b2 k2 e2,.int .i64 onum,.int .i64 oop,.slice b3 k3 e3,.int .i64 ov]:=by
  have h:=BxQ.new (w.alloc (.cells #[.int .i64 kind,.int .i64 id,.int .i64 op,.int .i64 a,.int .i64 b,.int .i64 sh,.int .i64 anum,.bool aok,.slice a1 k1 c1,.slice a2 k2 c2,.int .i64 onum,.int .i64 oop,.slice a3 k3 c3,.int .i64 ov] 62)) 62 #[.int .i64 kind,.int .i64 id,.int .i64 op,.int .i64 a,.int .i64 b,.int .i64 sh,.int .i64 anum,.bool aok,.slice b1 k1 e1,.slice b2 k2 e2,.int .i64 onum,.int .i64 oop,.slice b3 k3 e3,.int .i64 ov]
  rw [show (w.alloc (.cells #[.int .i64 kind,.int .i64 id,.int .i64 op,.int .i64 a,.int .i64 b,.int .i64 sh,.int .i64 anum,.bool aok,.slice a1 k1 c1,.slice a2 k2 c2,.int .i64 onum,.int .i64 oop,.slice a3 k3 c3,.int .i64 ov] 62)).heap.size=w.heap.size+1 by simp] at h
  rw [hW];exact h
 have HK:=hideIt (eqAsk_yes id op a b W)
 have HA:Hid (∀ U,Good w U→Calls Tryz.prog 68 #[.agg #[.int .i64 anum,.bool aok,.slice a1 k1 c1,.slice a2 k2 c2],.agg #[.int .i64 anum,.bool aok,.slice b1 k1 e1,.slice b2 k2 e2]] U fun e v=>e=.returned (.bool true)∧Below U.heap.size U v):=fun U hU=>eqAnswer_same anum aok aes als k1 a1 b1 c1 e1 l1 k2 a2 b2 c2 e2 l2 U (h1.up hU) (h1'.up hU) (h2.up hU) (h2'.up hU)
 have HO:Hid (∀ U,Good w U→Calls Tryz.prog 67 #[.agg #[.int .i64 onum,.int .i64 oop,.slice a3 k3 c3,.int .i64 ov],.agg #[.int .i64 onum,.int .i64 oop,.slice b3 k3 e3,.int .i64 ov]] U fun e v=>e=.returned (.bool true)∧Below U.heap.size U v):=fun U hU=>eqOrder_same onum oop ov oes k3 a3 b3 c3 e3 l3 U (h3.up hU) (h3'.up hU)
 have HB:=hideIt bW
 have HX:=hideIt X
 have HX':=hideIt X'
 have d1:(kind != kind)=false:=by simp
 have d2:(sh != sh)=false:=by simp
 have x0:=X.at 0 rfl
 have x1:=X.at 1 rfl
 have x2:=X.at 2 rfl
 have x3:=X.at 3 rfl
 have x4:=X.at 4 rfl
 have y0:=X'.at 0 rfl
 have y1:=X'.at 1 rfl
 have y2:=X'.at 2 rfl
 have y3:=X'.at 3 rfl
 have y4:=X'.at 4 rfl
 clear h1 h2 h3 h1' h2' h3' bW X X'
 go_enter Tryz.func32,Tryz.ntmps32
 go_upto_region 1 with fail
 rw [← hW]
 clear hW
 go_wp2_with (go_at_call 66;refine HK.out.mono ?_;rintro e w1 ⟨rfl,t1⟩;refine Hid.out ?_)
 refine (show ∀ {p:Prop},p→Hid p from fun h=>h) ?_
 have Y:=HX.out.bel t1
 have Y':=HX'.out.bel t1
 have HG1:=hideIt (HB.out.up t1)
 have HA1:=hideIt (HA.out w1 HG1.out)
 clear x0 x1 x2 x3 x4 y0 y1 y2 y3 y4 HK t1
 have x5:=Y.at 5 rfl
 have x6:=Y.at 6 rfl
 have x7:=Y.at 7 rfl
 have x8:=Y.at 8 rfl
 have x9:=Y.at 9 rfl
 have y5:=Y'.at 5 rfl
 have y6:=Y'.at 6 rfl
 have y7:=Y'.at 7 rfl
 have y8:=Y'.at 8 rfl
 have y9:=Y'.at 9 rfl
 have HY:=hideIt Y
 have HY':=hideIt Y'
 clear Y Y'
 go_wp2_with (go_at_call 68;refine HA1.out.mono ?_;rintro e w2 ⟨rfl,t2⟩;refine Hid.out ?_)
 refine (show ∀ {p:Prop},p→Hid p from fun h=>h) ?_
 have Z:=HY.out.bel t2
 have Z':=HY'.out.bel t2
 have HG2:=hideIt (HG1.out.up t2)
 have HO1:=hideIt (HO.out w2 HG2.out)
 clear x5 x6 x7 x8 x9 y5 y6 y7 y8 y9 HA1 t2
 have x10:=Z.at 10 rfl
 have x11:=Z.at 11 rfl
 have x12:=Z.at 12 rfl
 have x13:=Z.at 13 rfl
 have y10:=Z'.at 10 rfl
 have y11:=Z'.at 11 rfl
 have y12:=Z'.at 12 rfl
 have y13:=Z'.at 13 rfl
 clear Z Z'
 go_wp2_with (go_at_call 67;refine HO1.out.mono ?_;rintro e w3 ⟨rfl,t3⟩)
 go_ret
 exact ⟨rfl,HG2.out.up t3⟩
theorem szAns_gen (num:Int) (ok:Bool) (n:Nat) (a:Option Addr) (c:Nat) (hn:n≤maxLen) (m:Nat) (a':Option Addr) (c':Nat) (hm:m≤maxLen) (l:Nat) (hl:l≤1048576) (w:World) :
  Calls Tryz.prog 42 #[ansV num ok a n c a' m c',.int .i64 (l:Int)] w fun e w'=>e=.returned (.int .i64 (if n+m≤l then (l:Int) - (n:Int) - (m:Int) else -1))∧Below w.heap.size w w':=by
 unfold maxLen at hn hm
 unfold ansV
 by_cases g:n≤l
 ·have d1:decide ((l:Int) - (n:Int)<0)=false:=by simp;omega
  by_cases g2:n+m≤l
  ·rw [if_pos g2]
   have d2:decide ((l:Int) - (n:Int) - (m:Int)<0)=false:=by simp;omega
   go_enter Tryz.func42,Tryz.ntmps42
   go_wp2
   go_ret
   exact ⟨rfl,bel1 _ _⟩
  ·rw [if_neg g2]
   have d2:decide ((l:Int) - (n:Int) - (m:Int)<0)=true:=by simp;omega
   go_enter Tryz.func42,Tryz.ntmps42
   go_wp2
   go_ret
   exact ⟨rfl,bel1 _ _⟩
 ·rw [if_neg (by omega)]
  have d1:decide ((l:Int) - (n:Int)<0)=true:=by simp;omega
  go_enter Tryz.func42,Tryz.ntmps42
  go_wp2
  go_ret
  exact ⟨rfl,bel1 _ _⟩
set_option maxRecDepth 100000 in
set_option maxHeartbeats 2000000 in
theorem szRec_gen (kind id op a b sh anum:Int) (aok:Bool) (onum oop ov:Int) (a1:Option Addr) (k1 c1:Nat) (a2:Option Addr) (k2 c2:Nat) (a3:Option Addr) (k3 c3:Nat) (g1:k1≤maxLen) (g2:k2≤maxLen) (g3:k3≤maxLen) (l:Nat) (hl:l≤1048576) (w:World) :
  Calls Tryz.prog 19 #[.agg #[.int .i64 kind,.int .i64 id,.int .i64 op,.int .i64 a,.int .i64 b,.int .i64 sh,.int .i64 anum,.bool aok,.slice a1 k1 c1,.slice a2 k2 c2,.int .i64 onum,.int .i64 oop,.slice a3 k3 c3,.int .i64 ov],.int .i64 (l:Int)] w fun e w'=>∃ x:Int,e=.returned (.int .i64 x)∧(decide (x<0)=true∨(decide (x<0)=false∧x=(l:Int) - (k1:Int) - (k2:Int) - (k3:Int)))∧Below w.heap.size w w':=by
 obtain ⟨W,hW⟩:=ex0 (w.alloc (.cells #[.int .i64 kind,.int .i64 id,.int .i64 op,.int .i64 a,.int .i64 b,.int .i64 sh,.int .i64 anum,.bool aok,.slice a1 k1 c1,.slice a2 k2 c2,.int .i64 onum,.int .i64 oop,.slice a3 k3 c3,.int .i64 ov] 57))
 have bW:Good w W:=by rw [hW];exact (Good.refl w).alloc _
 have X:BxQ W w.heap.size 57 #[.int .i64 kind,.int .i64 id,.int .i64 op,.int .i64 a,.int .i64 b,.int .i64 sh,.int .i64 anum,.bool aok,.slice a1 k1 c1,.slice a2 k2 c2,.int .i64 onum,.int .i64 oop,.slice a3 k3 c3,.int .i64 ov]:=by rw [hW];exact BxQ.new _ _ _
 have HA:=hideIt (szAns_gen anum aok k1 a1 c1 g1 k2 a2 c2 g2 l hl W)
 have x6:=X.at 6 rfl
 have x7:=X.at 7 rfl
 have x8:=X.at 8 rfl
 have x9:=X.at 9 rfl
 have HX:=hideIt X
 have HB:=hideIt bW
 clear X bW
 by_cases h1:k1+k2≤l
 ·rw [if_pos h1] at HA
  have e1:decide ((l:Int) - (k1:Int) - (k2:Int)<0)=false:=decide_eq_false (by omega)
  have HO:Hid (∀ U,Calls Tryz.prog 43 #[.agg #[.int .i64 onum,.int .i64 oop,.slice a3 k3 c3,.int .i64 ov],.int .i64 ((l:Int) - (k1:Int) - (k2:Int))] U fun e v=>e=.returned (.int .i64 (if k3≤l - k1 - k2 then (l:Int) - (k1:Int) - (k2:Int) - (k3:Int) else -1))∧Below U.heap.size U v):=fun U=>by
   have ek:((l - k1 - k2:Nat):Int)=(l:Int) - (k1:Int) - (k2:Int):=by omega
   have:=szOrd_gen onum oop ov k3 (l - k1 - k2) a3 c3 g3 (by omega) U
   rw [ek] at this
   exact this
  by_cases h2:k3≤l - k1 - k2
  ·rw [if_pos h2] at HO
   have e2:decide (((l:Int) - (k1:Int) - (k2:Int) - (k3:Int))<0)=false:=decide_eq_false (by omega)
   go_enter Tryz.func19,Tryz.ntmps19
   go_upto_region 1 with fail
   rw [← hW]
   clear hW
   go_wp2_with (go_at_call 42;refine HA.out.mono ?_;rintro e w1 ⟨rfl,b1⟩;refine Hid.out ?_)
   refine (show ∀ {p:Prop},p→Hid p from fun h=>h) ?_
   have Y:=HX.out.bel b1
   have y10:=Y.at 10 rfl
   have y11:=Y.at 11 rfl
   have y12:=Y.at 12 rfl
   have y13:=Y.at 13 rfl
   have HB1:=hideIt (HB.out.up b1)
   have HO1:=hideIt (HO.out w1)
   clear Y b1 HA HO x6 x7 x8 x9
   go_wp2_with (go_at_call 43;refine HO1.out.mono ?_;rintro e w2 ⟨rfl,b2⟩)
   go_ret
   exact ⟨((l:Int) - (k1:Int) - (k2:Int) - (k3:Int)),rfl,.inr ⟨e2,rfl⟩,HB1.out.up b2⟩
  ·rw [if_neg h2] at HO
   have e2:decide ((-1:Int)<0)=true:=by decide
   go_enter Tryz.func19,Tryz.ntmps19
   go_upto_region 1 with fail
   rw [← hW]
   clear hW
   go_wp2_with (go_at_call 42;refine HA.out.mono ?_;rintro e w1 ⟨rfl,b1⟩;refine Hid.out ?_)
   refine (show ∀ {p:Prop},p→Hid p from fun h=>h) ?_
   have Y:=HX.out.bel b1
   have y10:=Y.at 10 rfl
   have y11:=Y.at 11 rfl
   have y12:=Y.at 12 rfl
   have y13:=Y.at 13 rfl
   have HB1:=hideIt (HB.out.up b1)
   have HO1:=hideIt (HO.out w1)
   clear Y b1 HA HO x6 x7 x8 x9
   go_wp2_with (go_at_call 43;refine HO1.out.mono ?_;rintro e w2 ⟨rfl,b2⟩)
   go_ret
   exact ⟨-1,rfl,.inl e2,HB1.out.up b2⟩
 ·rw [if_neg h1] at HA
  have e1:decide ((-1:Int)<0)=true:=by decide
  go_enter Tryz.func19,Tryz.ntmps19
  go_upto_region 1 with fail
  rw [← hW]
  clear hW
  go_wp2_with (go_at_call 42;refine HA.out.mono ?_;rintro e w1 ⟨rfl,b1⟩)
  go_ret
  exact ⟨-1,rfl,.inl e1,HB.out.up b1⟩
theorem own_trnL {P:Nat→Prop} {w w':World} {B e s n:Nat} {v:Value} {xs:List Value} (h:w.ownsRow B e s v n xs) (hg:Trn P w w') (hne:∀ g,v.ownBlock=some g→¬ P g):w'.ownsRow B e s v n xs:=by
 refine ⟨h.1,?_⟩
 rcases h.2 with h3 | ⟨g,cap,cur,hv,hg1,hcur,hrest⟩
 ·exact .inl h3
 ·refine .inr ⟨g,cap,cur,hv,hg1,?_,hrest⟩
  rw [hg.block g (h.lt g (by rw [hv];rfl)).2 (hne g (by rw [hv];rfl))]
  exact hcur
theorem trn_belowL {w u:World} (h:Below w.heap.size w u):Trn (fun _=>False) w u:=⟨h.os,h.tape,h.output,h.size,fun k hk _=>h.block k hk⟩
theorem trn_impL {P R:Nat→Prop} {u v:World} (h:Trn P u v) (hR:∀ i,P i→R i):Trn R u v:=⟨h.os,h.tape,h.output,h.size,fun i hi ho=>h.block i hi (fun hp=>ho (hR i hp))⟩
set_option maxRecDepth 100000 in
set_option maxHeartbeats 4000000 in
theorem toRec_own (kind id op a b sh anum:Int) (aok:Bool) (onum oop ov:Int) (a1:Option Addr) (k1 c1:Nat) (a2:Option Addr) (k2 c2:Nat) (a3:Option Addr) (k3 c3:Nat) (aes:List EdgeV) (als:List Int) (oes:List EdgeV) (l1:k1≤1048576) (l2:k2≤1048576) (l3:k3≤1048576) (w:World) (h1:Es w w.heap.size a1 k1 aes) (h2:Is w w.heap.size a2 k2 als) (h3:Es w w.heap.size a3 k3 oes) :
  Calls Tryz.prog 24 #[.agg #[.int .i64 kind,.int .i64 id,.int .i64 op,.int .i64 a,.int .i64 b,.int .i64 sh,.int .i64 anum,.bool aok,.slice a1 k1 c1,.slice a2 k2 c2,.int .i64 onum,.int .i64 oop,.slice a3 k3 c3,.int .i64 ov]] w fun e w'=>∃ g1 g2 g3:Nat,e=.returned (.agg #[.int .i64 kind,.int .i64 id,.int .i64 op,.int .i64 a,.int .i64 b,.int .i64 sh,.int .i64 anum,.bool aok,.slice (some ⟨g1,0,none⟩) k1 k1,.slice (some ⟨g2,0,none⟩) k2 k2,.int .i64 onum,.int .i64 oop,.slice (some ⟨g3,0,none⟩) k3 k3,.int .i64 ov])∧(w').ownsRow w.heap.size 107 2 (.slice (some ⟨g1,0,none⟩) k1 k1) k1 (ecells aes)∧(w').ownsRow w.heap.size 3 1 (.slice (some ⟨g2,0,none⟩) k2 k2) k2 (ic als)∧(w').ownsRow w.heap.size 107 2 (.slice (some ⟨g3,0,none⟩) k3 k3) k3 (ecells oes)∧g1≠g3∧Below w.heap.size w w':=by
 obtain ⟨W1,hW1⟩:=ex0 (((w.alloc (.cells #[.int .i64 kind,.int .i64 id,.int .i64 op,.int .i64 a,.int .i64 b,.int .i64 sh,.int .i64 anum,.bool aok,.slice a1 k1 c1,.slice a2 k2 c2,.int .i64 onum,.int .i64 oop,.slice a3 k3 c3,.int .i64 ov] 57)).alloc (.cells #[.int .i64 0,.int .i64 0,.int .i64 0,.int .i64 0,.int .i64 0,.int .i64 0,.int .i64 0,.bool false,.slice none 0 0,.slice none 0 0,.int .i64 0,.int .i64 0,.slice none 0 0,.int .i64 0] 62)).alloc (.cells #[.int .i64 kind,.int .i64 0,.int .i64 0,.int .i64 0,.int .i64 0,.int .i64 0,.int .i64 0,.bool false,.slice none 0 0,.slice none 0 0,.int .i64 0,.int .i64 0,.slice none 0 0,.int .i64 0] 62))
 have S1:=TQ.start w 57 62 [.int .i64 kind,.int .i64 id,.int .i64 op,.int .i64 a,.int .i64 b,.int .i64 sh,.int .i64 anum,.bool aok,.slice a1 k1 c1,.slice a2 k2 c2,.int .i64 onum,.int .i64 oop,.slice a3 k3 c3,.int .i64 ov] [.int .i64 0,.int .i64 0,.int .i64 0,.int .i64 0,.int .i64 0,.int .i64 0,.int .i64 0,.bool false,.slice none 0 0,.slice none 0 0,.int .i64 0,.int .i64 0,.slice none 0 0,.int .i64 0] [.int .i64 kind,.int .i64 0,.int .i64 0,.int .i64 0,.int .i64 0,.int .i64 0,.int .i64 0,.bool false,.slice none 0 0,.slice none 0 0,.int .i64 0,.int .i64 0,.slice none 0 0,.int .i64 0]
 rw [← hW1] at S1
 have HT:=hideIt (toAsk_new id op a b W1)
 have HE:=hideIt (And.intro h1 (And.intro h2 h3))
 have x1:=S1.lw.at 1 rfl
 have x2:=S1.lw.at 2 rfl
 have x3:=S1.lw.at 3 rfl
 have x4:=S1.lw.at 4 rfl
 have HS1:=hideIt S1
 clear h1 h2 h3 S1
 go_enter Tryz.func24,Tryz.ntmps24
 go_upto_region 3 with fail
 rw [← hW1]
 clear hW1
 go_wp2_with (go_at_call 57;refine HT.out.mono ?_;rintro e w2 ⟨rfl,b2⟩;refine Hid.out ?_)
 refine (show ∀ {p:Prop},p→Hid p from fun h=>h) ?_
 have T2:=HS1.out.up b2
 have S2:=(T2.set 1 [.int .i64 id,.int .i64 op,.int .i64 a,.int .i64 b]).set 5 [.int .i64 sh]
 obtain ⟨W2,hW2⟩:=ex0 (setQ (setQ w2 (w.heap.size+1+1) 1 [.int .i64 id,.int .i64 op,.int .i64 a,.int .i64 b]) (w.heap.size+1+1) 5 [.int .i64 sh])
 rw [← hW2] at S2
 dsimp only [setQ] at hW2
 have y1:=T2.out.at 1 rfl
 have y2:=T2.out.at 2 rfl
 have y3:=T2.out.at 3 rfl
 have y4:=T2.out.at 4 rfl
 have y5:=T2.out.at 5 rfl
 have f1:=T2.out.frozen 1
 have f2:=T2.out.frozen 2
 have f3:=T2.out.frozen 3
 have f4:=T2.out.frozen 4
 have f5:=T2.out.frozen 5
 have u5:=T2.lw.at 5 rfl
 have z6:=S2.lw.at 6 rfl
 have z7:=S2.lw.at 7 rfl
 have z8:=S2.lw.at 8 rfl
 have z9:=S2.lw.at 9 rfl
 have HS2:=hideIt S2
 have HO:=hideIt (toAnswer_any anum aok aes als k1 a1 c1 l1 k2 a2 c2 l2 W2 (HE.out.1.up S2.below) (HE.out.2.1.up S2.below))
 clear x1 x2 x3 x4 HT T2 S2 HS1 b2
 go_upto_region 5 with fail
 rw [← hW2]
 clear hW2 y1 y2 y3 y4 y5 f1 f2 f3 f4 f5 u5
 go_wp2_with (go_at_call 58;refine HO.out.mono ?_;rintro e w3 ⟨g1,g2,rfl,o1,o2,b3⟩;refine Hid.out ?_)
 refine (show ∀ {p:Prop},p→Hid p from fun h=>h) ?_
 have T3:=HS2.out.up b3
 have S3:=T3.set 6 [.int .i64 anum,.bool aok,.slice (some ⟨g1,0,none⟩) k1 k1,.slice (some ⟨g2,0,none⟩) k2 k2]
 have zl:=HS2.out.lt
 have p1:=own_setQ (own_mono o1 zl) (G:=w.heap.size+1+1) (by omega) 6 [.int .i64 anum,.bool aok,.slice (some ⟨g1,0,none⟩) k1 k1,.slice (some ⟨g2,0,none⟩) k2 k2]
 have p2:=own_setQ (own_mono o2 zl) (G:=w.heap.size+1+1) (by omega) 6 [.int .i64 anum,.bool aok,.slice (some ⟨g1,0,none⟩) k1 k1,.slice (some ⟨g2,0,none⟩) k2 k2]
 obtain ⟨W3,hW3⟩:=ex0 (setQ w3 (w.heap.size+1+1) 6 [.int .i64 anum,.bool aok,.slice (some ⟨g1,0,none⟩) k1 k1,.slice (some ⟨g2,0,none⟩) k2 k2])
 rw [← hW3] at S3 p1 p2
 dsimp only [setQ] at hW3
 have y6:=T3.out.at 6 rfl
 have y7:=T3.out.at 7 rfl
 have y8:=T3.out.at 8 rfl
 have y9:=T3.out.at 9 rfl
 have f6:=T3.out.frozen 6
 have f7:=T3.out.frozen 7
 have f8:=T3.out.frozen 8
 have f9:=T3.out.frozen 9
 have x10:=S3.lw.at 10 rfl
 have x11:=S3.lw.at 11 rfl
 have x12:=S3.lw.at 12 rfl
 have x13:=S3.lw.at 13 rfl
 have HS3:=hideIt S3
 have HP3:=hideIt (And.intro p1 p2)
 have HO2:=hideIt (toOrder_any onum oop ov oes k3 a3 c3 l3 W3 (HE.out.2.2.up S3.below))
 clear o1 o2 b3 T3 S3 p1 p2 HO HS2 HE zl z6 z7 z8 z9
 go_upto_region 6 with fail
 rw [← hW3]
 clear hW3 y6 y7 y8 y9 f6 f7 f8 f9
 go_wp2_with (go_at_call 59;refine HO2.out.mono ?_;rintro e w4 ⟨g3,rfl,o3,b4⟩;refine Hid.out ?_)
 refine (show ∀ {p:Prop},p→Hid p from fun h=>h) ?_
 have T4:=HS3.out.up b4
 have S4:=T4.set 10 [.int .i64 onum,.int .i64 oop,.slice (some ⟨g3,0,none⟩) k3 k3,.int .i64 ov]
 have zl:=HS3.out.lt
 have p1:=own_setQ (own_up10 HP3.out.1 b4) (G:=w.heap.size+1+1) (by omega) 10 [.int .i64 onum,.int .i64 oop,.slice (some ⟨g3,0,none⟩) k3 k3,.int .i64 ov]
 have p2:=own_setQ (own_up10 HP3.out.2 b4) (G:=w.heap.size+1+1) (by omega) 10 [.int .i64 onum,.int .i64 oop,.slice (some ⟨g3,0,none⟩) k3 k3,.int .i64 ov]
 have p3:=own_setQ (own_mono o3 zl) (G:=w.heap.size+1+1) (by omega) 10 [.int .i64 onum,.int .i64 oop,.slice (some ⟨g3,0,none⟩) k3 k3,.int .i64 ov]
 obtain ⟨W4,hW4⟩:=ex0 (setQ w4 (w.heap.size+1+1) 10 [.int .i64 onum,.int .i64 oop,.slice (some ⟨g3,0,none⟩) k3 k3,.int .i64 ov])
 rw [← hW4] at S4 p1 p2 p3
 dsimp only [setQ] at hW4
 have y10:=T4.out.at 10 rfl
 have y11:=T4.out.at 11 rfl
 have y12:=T4.out.at 12 rfl
 have y13:=T4.out.at 13 rfl
 have f10:=T4.out.frozen 10
 have f11:=T4.out.frozen 11
 have f12:=T4.out.frozen 12
 have f13:=T4.out.frozen 13
 have HS4:=hideIt S4
 have HP4:=hideIt (And.intro p1 (And.intro p2 p3))
 have HNE:=hideIt (show g1≠g3 from fun e=>by have q1:=(HP3.out.1.lt g1 rfl).2;have q3:=(o3.lt g3 rfl).1;omega)
 clear o3 b4 T4 S4 p1 p2 p3 HO2 HS3 HP3 zl x10 x11 x12 x13
 go_upto_region 7 with fail
 rw [← hW4]
 clear hW4 y10 y11 y12 y13 f10 f11 f12 f13
 have k_0:=HS4.out.out.at 0 rfl
 have k_1:=HS4.out.out.at 1 rfl
 have k_2:=HS4.out.out.at 2 rfl
 have k_3:=HS4.out.out.at 3 rfl
 have k_4:=HS4.out.out.at 4 rfl
 have k_5:=HS4.out.out.at 5 rfl
 have k_6:=HS4.out.out.at 6 rfl
 have k_7:=HS4.out.out.at 7 rfl
 have k_8:=HS4.out.out.at 8 rfl
 have k_9:=HS4.out.out.at 9 rfl
 have k_10:=HS4.out.out.at 10 rfl
 have k_11:=HS4.out.out.at 11 rfl
 have k_12:=HS4.out.out.at 12 rfl
 have k_13:=HS4.out.out.at 13 rfl
 have r_0:=HS4.out.rs.at 0 rfl
 have r_1:=HS4.out.rs.at 1 rfl
 have r_2:=HS4.out.rs.at 2 rfl
 have r_3:=HS4.out.rs.at 3 rfl
 have r_4:=HS4.out.rs.at 4 rfl
 have r_5:=HS4.out.rs.at 5 rfl
 have r_6:=HS4.out.rs.at 6 rfl
 have r_7:=HS4.out.rs.at 7 rfl
 have r_8:=HS4.out.rs.at 8 rfl
 have r_9:=HS4.out.rs.at 9 rfl
 have r_10:=HS4.out.rs.at 10 rfl
 have r_11:=HS4.out.rs.at 11 rfl
 have r_12:=HS4.out.rs.at 12 rfl
 have r_13:=HS4.out.rs.at 13 rfl
 have fz:=HS4.out.rs.frozen
 have q0:=fz 0
 have q1:=fz 1
 have q2:=fz 2
 have q3:=fz 3
 have q4:=fz 4
 have q5:=fz 5
 have q6:=fz 6
 have q7:=fz 7
 have q8:=fz 8
 have q9:=fz 9
 have q10:=fz 10
 have q11:=fz 11
 have q12:=fz 12
 have q13:=fz 13
 have HF:Hid ((setQ W4 (w.heap.size+1) 0 [.int .i64 kind,.int .i64 id,.int .i64 op,.int .i64 a,.int .i64 b,.int .i64 sh,.int .i64 anum,.bool aok,.slice (some ⟨g1,0,none⟩) k1 k1,.slice (some ⟨g2,0,none⟩) k2 k2,.int .i64 onum,.int .i64 oop,.slice (some ⟨g3,0,none⟩) k3 k3,.int .i64 ov]).ownsRow w.heap.size 107 2 (.slice (some ⟨g1,0,none⟩) k1 k1) k1 (ecells aes)∧(setQ W4 (w.heap.size+1) 0 [.int .i64 kind,.int .i64 id,.int .i64 op,.int .i64 a,.int .i64 b,.int .i64 sh,.int .i64 anum,.bool aok,.slice (some ⟨g1,0,none⟩) k1 k1,.slice (some ⟨g2,0,none⟩) k2 k2,.int .i64 onum,.int .i64 oop,.slice (some ⟨g3,0,none⟩) k3 k3,.int .i64 ov]).ownsRow w.heap.size 3 1 (.slice (some ⟨g2,0,none⟩) k2 k2) k2 (ic als)∧(setQ W4 (w.heap.size+1) 0 [.int .i64 kind,.int .i64 id,.int .i64 op,.int .i64 a,.int .i64 b,.int .i64 sh,.int .i64 anum,.bool aok,.slice (some ⟨g1,0,none⟩) k1 k1,.slice (some ⟨g2,0,none⟩) k2 k2,.int .i64 onum,.int .i64 oop,.slice (some ⟨g3,0,none⟩) k3 k3,.int .i64 ov]).ownsRow w.heap.size 107 2 (.slice (some ⟨g3,0,none⟩) k3 k3) k3 (ecells oes)∧g1≠g3∧Below w.heap.size w (setQ W4 (w.heap.size+1) 0 [.int .i64 kind,.int .i64 id,.int .i64 op,.int .i64 a,.int .i64 b,.int .i64 sh,.int .i64 anum,.bool aok,.slice (some ⟨g1,0,none⟩) k1 k1,.slice (some ⟨g2,0,none⟩) k2 k2,.int .i64 onum,.int .i64 oop,.slice (some ⟨g3,0,none⟩) k3 k3,.int .i64 ov])):=⟨own_mono (own_setQ HP4.out.1 (by omega) _ _) (by omega),own_mono (own_setQ HP4.out.2.1 (by omega) _ _) (by omega),own_mono (own_setQ HP4.out.2.2 (by omega) _ _) (by omega),HNE.out,below_setQ HS4.out.below (by omega) _ _⟩
 have XF:=HS4.out.rs.setQ 0 [.int .i64 kind,.int .i64 id,.int .i64 op,.int .i64 a,.int .i64 b,.int .i64 sh,.int .i64 anum,.bool aok,.slice (some ⟨g1,0,none⟩) k1 k1,.slice (some ⟨g2,0,none⟩) k2 k2,.int .i64 onum,.int .i64 oop,.slice (some ⟨g3,0,none⟩) k3 k3,.int .i64 ov]
 have c_0:=XF.at 0 rfl
 have c_1:=XF.at 1 rfl
 have c_2:=XF.at 2 rfl
 have c_3:=XF.at 3 rfl
 have c_4:=XF.at 4 rfl
 have c_5:=XF.at 5 rfl
 have c_6:=XF.at 6 rfl
 have c_7:=XF.at 7 rfl
 have c_8:=XF.at 8 rfl
 have c_9:=XF.at 9 rfl
 have c_10:=XF.at 10 rfl
 have c_11:=XF.at 11 rfl
 have c_12:=XF.at 12 rfl
 have c_13:=XF.at 13 rfl
 dsimp only [setQ] at HF c_0 c_1 c_2 c_3 c_4 c_5 c_6 c_7 c_8 c_9 c_10 c_11 c_12 c_13
 have HC:=hideIt (And.intro c_0 (And.intro c_1 (And.intro c_2 (And.intro c_3 (And.intro c_4 (And.intro c_5 (And.intro c_6 (And.intro c_7 (And.intro c_8 (And.intro c_9 (And.intro c_10 (And.intro c_11 (And.intro c_12 c_13)))))))))))))
 clear fz HP4 HS4 XF c_0 c_1 c_2 c_3 c_4 c_5 c_6 c_7 c_8 c_9 c_10 c_11 c_12 c_13
 go_wp2
 obtain ⟨c_0,c_1,c_2,c_3,c_4,c_5,c_6,c_7,c_8,c_9,c_10,c_11,c_12,c_13⟩:=HC.out
 exact bodyPost_ret (v:=.agg #[.int .i64 kind,.int .i64 id,.int .i64 op,.int .i64 a,.int .i64 b,.int .i64 sh,.int .i64 anum,.bool aok,.slice (some ⟨g1,0,none⟩) k1 k1,.slice (some ⟨g2,0,none⟩) k2 k2,.int .i64 onum,.int .i64 oop,.slice (some ⟨g3,0,none⟩) k3 k3,.int .i64 ov]) (by simp [results,Tryz.results24,go_sem,c_0,c_1,c_2,c_3,c_4,c_5,c_6,c_7,c_8,c_9,c_10,c_11,c_12,c_13]) rfl ⟨g1,g2,g3,rfl,HF.out.1,HF.out.2.1,HF.out.2.2.1,HF.out.2.2.2.1,HF.out.2.2.2.2⟩
structure RQ where
 r:RecV
 a1:Option Addr
 k1:Nat
 c1:Nat
 a2:Option Addr
 k2:Nat
 c2:Nat
 a3:Option Addr
 k3:Nat
 c3:Nat
 lo:Nat
 hi:Nat
def rqC (q:RQ):List Value:=[.int .i64 q.r.kind,.int .i64 q.r.id,.int .i64 q.r.op,.int .i64 q.r.a,.int .i64 q.r.b,.int .i64 q.r.sh,.int .i64 q.r.an.num,.bool q.r.an.ok,.slice q.a1 q.k1 q.c1,.slice q.a2 q.k2 q.c2,.int .i64 q.r.o.num,.int .i64 q.r.o.op,.slice q.a3 q.k3 q.c3,.int .i64 q.r.o.v]
theorem rqC_len (q:RQ):(rqC q).length=14:=rfl
structure RQ.ok (q:RQ) (u:World):Prop where
 r1:u.ownsRow q.lo 107 2 (.slice q.a1 q.k1 q.c1) q.k1 (ecells q.r.an.es)
 r2:u.ownsRow q.lo 3 1 (.slice q.a2 q.k2 q.c2) q.k2 (ic q.r.an.ls)
 r3:u.ownsRow q.lo 107 2 (.slice q.a3 q.k3 q.c3) q.k3 (ecells q.r.o.es)
 t1:∀ g,(Value.slice q.a1 q.k1 q.c1).ownBlock=some g→g<q.hi
 t2:∀ g,(Value.slice q.a2 q.k2 q.c2).ownBlock=some g→g<q.hi
 t3:∀ g,(Value.slice q.a3 q.k3 q.c3).ownBlock=some g→g<q.hi
 th:q.hi≤u.heap.size
 bd:q.k1≤1048576∧q.k2≤1048576∧q.k3≤1048576
 ap:∀ k,(Value.slice q.a1 q.k1 q.c1).ownBlock=some k→¬ (Value.slice q.a3 q.k3 q.c3).ownBlock=some k
theorem RQ.ok.trn {q:RQ} {u v:World} {P:Nat→Prop} (h:q.ok u) (ht:Trn P u v) (hP:∀ k,P k→k<q.lo∨q.hi≤k):q.ok v :=
 ⟨own_trnL h.r1 ht (fun g hg e=>by have:=hP _ e;have:=(h.r1.lt g hg).1;have:=h.t1 g hg;omega),
  own_trnL h.r2 ht (fun g hg e=>by have:=hP _ e;have:=(h.r2.lt g hg).1;have:=h.t2 g hg;omega),
  own_trnL h.r3 ht (fun g hg e=>by have:=hP _ e;have:=(h.r3.lt g hg).1;have:=h.t3 g hg;omega),h.t1,h.t2,h.t3,Nat.le_trans h.th ht.size,h.bd,h.ap⟩
def qcells (qs:List RQ):List Value:=qs.flatMap rqC
theorem qcells_nil:qcells []=[]:=rfl
theorem qcells_cons (q:RQ) (qs:List RQ):qcells (q :: qs)=rqC q ++ qcells qs:=by simp [qcells]
theorem qcells_app (ps qs:List RQ):qcells (ps ++ qs)=qcells ps ++ qcells qs:=by simp [qcells]
theorem qcells_len (qs:List RQ):(qcells qs).length=qs.length*14:=by
 induction qs with
 | nil=>rfl
 | cons q qs ih=>rw [qcells_cons,List.length_append,ih,rqC_len,List.length_cons];omega
theorem qcells_at (qs:List RQ) (j:Nat) (q:RQ) (h:qs[j]?=some q) (o:Nat) (ho:o<14):(qcells qs)[j*14+o]?=(rqC q)[o]?:=by
 induction qs generalizing j with
 | nil=>simp at h
 | cons p qs ih =>
  rw [qcells_cons]
  cases j with
  | zero =>
   simp at h
   subst h
   rw [List.getElem?_append_left (by rw [rqC_len];omega),Nat.zero_mul,Nat.zero_add]
  | succ j =>
   rw [List.getElem?_append_right (by rw [rqC_len];omega),rqC_len,show (j+1)*14+o - 14=j*14+o by omega]
   exact ih j (by simpa using h)
structure RS (u:World) (B:Nat) (a:Option Addr) (m c:Nat) (qs:List RQ):Prop where
 row:u.ownsRow B 62 14 (.slice a m c) m (qcells qs)
 each:∀ q ∈ qs,q.ok u∧B≤q.lo
 apart:qs.Pairwise (fun p q=>p.hi≤q.lo)
 out:∀ q ∈ qs,∀ g,(Value.slice a m c).ownBlock=some g→g<q.lo∨q.hi≤g
section
variable {u v:World} {B:Nat} {a:Option Addr} {m c:Nat} {qs:List RQ}
theorem RS.len (h:RS u B a m c qs):qs.length=m:=by have:=h.row.1;rw [qcells_len] at this;omega
theorem RS.up (h:RS u B a m c qs) (hb:Below u.heap.size u v):RS v B a m c qs :=
 ⟨own_up10 h.row hb,fun q hm=>⟨(h.each q hm).1.trn (trn_belowL hb) (fun _ e=>e.elim),(h.each q hm).2⟩,h.apart,h.out⟩
theorem RS.cell {g:Nat} (h:RS u B (some ⟨g,0,none⟩) m c qs) {j:Nat} {q:RQ} (hj:qs[j]?=some q) (o:Nat) (ho:o<14):u.cell? ⟨g,j*14+o,none⟩=(rqC q)[o]?:=by
 have hl:=h.len
 have hjl:=(List.getElem?_eq_some_iff.1 hj).1
 rw [h.row.cellAt (j*14+o) (by omega),qcells_at qs j q hj o ho]
theorem RS.some_of (h:RS u B a m c qs) (hm:0<m):∃ g,a=some ⟨g,0,none⟩:=by
 rcases h.row.2 with ⟨_,h0⟩ | ⟨g,cap,cur,hv,_⟩
 ·omega
 ·simp only [Value.slice.injEq] at hv
  exact ⟨g,hv.1⟩
end
set_option maxRecDepth 100000 in
set_option maxHeartbeats 4000000 in
theorem markEdgeS_big (base g c n k0:Nat) (fs:List EdgeV) (hn:n≤1048576) (hk1:k0≤100000000) (w:World)
  (h:w.ownsRow base 107 2 (.slice (some ⟨g,0,none⟩) n c) n (ecells fs)) :
  Calls Tryz.prog 33 #[.slice (some ⟨g,0,none⟩) n c,.int .i64 (k0:Int)] w fun e w'=>e=.returned (.int .i64 ((k0:Int)+(n:Int)*2)) ∧
   w'.ownsRow base 107 2 (.slice (some ⟨g,0,none⟩) n c) n (ecells (marks k0 n))∧w.grownBy w' (some g):=by
 have HO0:=hideIt h
 clear h
 go_enter Tryz.func33,Tryz.ntmps33
 go_wp2
 go_loopw [1,5] (fun kk i wr=>∃ (j:Nat) (xs:List Value),j≤n∧i=.int .i64 (j:Int)∧kk=.int .i64 ((k0:Int)+(j:Int)*2)∧Hid (xs.take (j*2)=ecells (marks k0 j)) ∧
   wr.ownsRow base 107 2 (.slice (some ⟨g,0,none⟩) n c) n xs∧w.grownBy wr (some g)) (fun _ i _=>n - (intOf i).toNat)
 case atStart=>exact ⟨0,_,by omega,rfl,by simp,by show _=_;simp [ecells,marks],HO0.out,⟨rfl,rfl,rfl,Nat.le_refl _,fun _ _ _=>rfl⟩⟩
 case round =>
  obtain ⟨j,xs,hj,rfl,rfl,hx,hown,hgr⟩:=hrel
  clear HO0
  have hl3:xs.length=n*2:=hown.1
  by_cases hlt:j<n
  ·have b1:(0:Int)≤(j:Int):=by omega
   have b2:(j:Int)<(n:Int):=by omega
   obtain ⟨y0,c0⟩:∃ y,wr.cell? ⟨g,j*2,none⟩=some y:=⟨_,by rw [hown.cellAt (j*2) (by omega)];exact List.getElem?_eq_getElem (by omega)⟩
   obtain ⟨y1,c1⟩:∃ y,wr.cell? ⟨g,j*2+1,none⟩=some y:=⟨_,by rw [hown.cellAt (j*2+1) (by omega)];exact List.getElem?_eq_getElem (by omega)⟩
   have f0:=hown.frozenAt (j*2)
   have f1:=hown.frozenAt (j*2+1)
   have hst1:=hown.stored (j*2) (.int .i64 ((k0:Int)+(j:Int)*2))
   have hst2:=hst1.1.stored (j*2+1) (.int .i64 ((k0:Int)+(j:Int)*2+1))
   have HO2:=hideIt hst2.1
   have HG2:=hideIt (grown_trans (grown_trans hgr hst1.2) hst2.2)
   have HX:Hid (((xs.set (j*2) (.int .i64 ((k0:Int)+(j:Int)*2))).set (j*2+1) (.int .i64 ((k0:Int)+(j:Int)*2+1))).take ((j+1)*2)=ecells (marks k0 (j+1))):=by
    show _=_
    rw [show (j+1)*2=j*2+2 by omega,take_set2 _ _ _ _ (by omega),hx.out,marks_snoc,ecells_snoc]
   clear hst1 hst2 hx hown hgr
   go_wp2
   exact ⟨⟨j+1,_,by omega,by go_num,by go_num,HX,HO2.out,HG2.out⟩,by simp [intOf];omega⟩
  ·obtain rfl:j=n:=by omega
   have HX:Hid (xs=ecells (marks k0 j)):=by
    show _=_
    have:=hx.out
    rw [List.take_of_length_le (by omega)] at this
    exact this
   have HO:=hideIt hown
   clear hx hown
   go_wp2
   go_ret
   exact ⟨rfl,by rw [← HX.out];exact HO.out,hgr⟩
set_option maxRecDepth 100000 in
set_option maxHeartbeats 4000000 in
theorem markIntS_big (base g c n k0:Nat) (xs0:List Value) (hn:n≤1048576) (hk1:k0≤100000000) (w:World) (h:w.ownsRow base 3 1 (.slice (some ⟨g,0,none⟩) n c) n xs0) :
  Calls Tryz.prog 34 #[.slice (some ⟨g,0,none⟩) n c,.int .i64 (k0:Int)] w fun e w'=>e=.returned (.int .i64 ((k0:Int)+(n:Int)))∧w'.ownsRow base 3 1 (.slice (some ⟨g,0,none⟩) n c) n (ic (imarks k0 n))∧w.grownBy w' (some g):=by
 have H0:=hideIt h
 clear h
 go_enter Tryz.func34,Tryz.ntmps34
 go_wp2
 go_loopw [1,5] (fun q i wr=>∃ (k:Nat) (xs:List Value),k≤n∧i=.int .i64 (k:Int)∧q=.int .i64 ((k0:Int)+(k:Int))∧Hid (xs.take k=ic (imarks k0 k))∧wr.ownsRow base 3 1 (.slice (some ⟨g,0,none⟩) n c) n xs∧w.grownBy wr (some g)) (fun _ i _=>n - (intOf i).toNat)
 case atStart=>exact ⟨0,xs0,by omega,rfl,by simp,by show _=_;simp [ic,imarks],H0.out,⟨rfl,rfl,rfl,Nat.le_refl _,fun _ _ _=>rfl⟩⟩
 case round =>
  obtain ⟨k,xs,hk,rfl,rfl,hx,hown,hg⟩:=hrel
  have hl3:xs.length=n*1:=hown.1
  by_cases hlt:k<n
  ·have b1:(0:Int)≤(k:Int):=by omega
   have b2:(k:Int)<(n:Int):=by omega
   have f0:=hown.frozenAt k
   obtain ⟨y0,x0⟩:∃ y,wr.cell? ⟨g,k,none⟩=some y:=⟨_,by rw [hown.cellAt k (by omega)];exact List.getElem?_eq_getElem (by omega)⟩
   have hst:=hown.stored k (.int .i64 ((k0:Int)+(k:Int)))
   have HO2:=hideIt hst.1
   have HG2:=hideIt (grown_trans hg hst.2)
   have HX:Hid ((xs.set k (.int .i64 ((k0:Int)+(k:Int)))).take (k+1)=ic (imarks k0 (k+1))):=by
    show _=_
    rw [List.take_add_one,List.take_set_of_le (Nat.le_refl _),hx.out,imarks_snoc,ic_snoc]
    simp [show k<xs.length by omega]
   clear hst hx hown hg
   go_wp2
   exact ⟨⟨k+1,_,by omega,by go_num,by go_num,HX,HO2.out,HG2.out⟩,by simp [intOf];omega⟩
  ·obtain rfl:k=n:=by omega
   have HX:Hid (xs=ic (imarks k0 k)):=by
    show _=_
    have:=hx.out
    rw [List.take_of_length_le (by omega)] at this
    exact this
   have HO:=hideIt hown
   clear hx hown
   go_wp2
   go_ret
   exact ⟨rfl,by rw [← HX.out];exact HO.out,hg⟩
theorem markE_own {u:World} {lo:Nat} (a:Option Addr) (m c:Nat) (gs:List EdgeV) (k0:Nat) (h:u.ownsRow lo 107 2 (.slice a m c) m (ecells gs)) (hm:m≤1048576) (h1:k0≤100000000) :
  Calls Tryz.prog 33 #[.slice a m c,.int .i64 (k0:Int)] u fun e v=>e=.returned (.int .i64 ((k0:Int)+(m:Int)*2))∧v.ownsRow lo 107 2 (.slice a m c) m (ecells (marks k0 m))∧Trn (fun k=>(Value.slice a m c).ownBlock=some k) u v:=by
 by_cases h0:m=0
 ·subst h0
  refine (markEdgeS_zero a c k0 u).mono ?_
  rintro e v ⟨rfl,hw⟩
  subst hw
  refine ⟨by simp,?_,rfl,rfl,rfl,Nat.le_refl _,fun k _ _=>rfl⟩
  have hl:=h.1
  rw [ecells_length] at hl
  have:gs=[]:=List.length_eq_zero_iff.1 (by omega)
  subst this
  exact h
 ·rcases h.2 with ⟨_,h3⟩ | ⟨g,cap,cur,hv,hg,_⟩
  ·omega
  ·simp at hv
   obtain ⟨rfl,rfl⟩:=hv
   refine (markEdgeS_big lo g c m k0 gs hm h1 u h).mono ?_
   rintro e v ⟨rfl,ho,hgr⟩
   exact ⟨rfl,ho,Trn.of_grown hgr⟩
theorem markI_own {u:World} {lo:Nat} (a:Option Addr) (m c:Nat) (xs:List Int) (k0:Nat) (h:u.ownsRow lo 3 1 (.slice a m c) m (ic xs)) (hm:m≤1048576) (h1:k0≤100000000) :
  Calls Tryz.prog 34 #[.slice a m c,.int .i64 (k0:Int)] u fun e v=>e=.returned (.int .i64 ((k0:Int)+(m:Int)))∧v.ownsRow lo 3 1 (.slice a m c) m (ic (imarks k0 m))∧Trn (fun k=>(Value.slice a m c).ownBlock=some k) u v:=by
 by_cases h0:m=0
 ·subst h0
  refine (markIntS_zero a c k0 u).mono ?_
  rintro e v ⟨rfl,hw⟩
  subst hw
  refine ⟨by simp,?_,rfl,rfl,rfl,Nat.le_refl _,fun k _ _=>rfl⟩
  have hl:=h.1
  rw [ic_len] at hl
  have:xs=[]:=List.length_eq_zero_iff.1 (by omega)
  subst this
  exact h
 ·rcases h.2 with ⟨_,h3⟩ | ⟨g,cap,cur,hv,hg,_⟩
  ·omega
  ·simp at hv
   obtain ⟨rfl,rfl⟩:=hv
   refine (markIntS_big lo g c m k0 (ic xs) hm h1 u h).mono ?_
   rintro e v ⟨rfl,ho,hgr⟩
   exact ⟨rfl,ho,Trn.of_grown hgr⟩
def mq (k:Nat) (q:RQ):RQ:={ q with r:=⟨(k:Int),(k:Int)+1,(k:Int)+1+1,(k:Int)+1+1+1,(k:Int)+1+1+1+1,(k:Int)+1+1+1+1+1,
 ⟨(k:Int)+1+1+1+1+1+1,decide (((k:Int)+1+1+1+1+1+1+1) % 3=0),marks (k+8) q.k1,imarks (k+8+q.k1*2) q.k2⟩,
 ⟨((k+8+q.k1*2+q.k2:Nat):Int),((k+8+q.k1*2+q.k2:Nat):Int)+1,marks (k+8+q.k1*2+q.k2+2) q.k3,((k+8+q.k1*2+q.k2+2+q.k3*2:Nat):Int)⟩⟩ }
def kq (k:Nat) (q:RQ):Nat:=k+8+q.k1*2+q.k2+2+q.k3*2+1
def mqs:Nat→List RQ→List RQ
 | _,[]=>[]
 | k,q :: qs=>mq k q :: mqs (kq k q) qs
def kqs:Nat→List RQ→Nat
 | k,[]=>k
 | k,q :: qs=>kqs (kq k q) qs
theorem mqs_len (qs:List RQ):∀ k,(mqs k qs).length=qs.length:=by
 induction qs with
 | nil=>intro k;rfl
 | cons q qs ih=>intro k;simp [mqs,ih]
theorem mqs_snoc (qs:List RQ) (q:RQ):∀ k,mqs k (qs ++ [q])=mqs k qs ++ [mq (kqs k qs) q]∧kqs k (qs ++ [q])=kq (kqs k qs) q:=by
 induction qs with
 | nil=>intro k;exact ⟨rfl,rfl⟩
 | cons p qs ih =>
  intro k
  have:=ih (kq k p)
  exact ⟨by rw [List.cons_append];show mq k p :: mqs (kq k p) (qs ++ [q])=_;rw [this.1];rfl,this.2⟩
def szq (qs:List RQ):Nat:=(qs.map fun q=>1+q.k1+q.k2+q.k3).sum
theorem szq_snoc (qs:List RQ) (q:RQ):szq (qs ++ [q])=szq qs+(1+q.k1+q.k2+q.k3):=by simp [szq]
theorem szq_app (ps qs:List RQ):szq (ps ++ qs)=szq ps+szq qs:=by simp [szq]
theorem set_mid (pre L post:List Value) (p o:Nat) (v:Value) (hp:pre.length=p) (ho:o<L.length):(pre ++ (L ++ post)).set (p+o) v=pre ++ (L.set o v ++ post):=by
 subst hp
 rw [List.set_append_right _ _ (by omega),List.set_append_left _ _ (by omega)]
 congr 3
 omega
theorem own_msR {u:World} {lo e s n g m c B:Nat} {x:Value} {xs cs:List Value} (h:u.ownsRow lo e s x n xs) (hr:u.ownsRow B 62 14 (.slice (some ⟨g,0,none⟩) m c) m cs) (he:e≠62):x.ownBlock≠some g:=by
 intro hx
 rcases h.2 with ⟨rfl,_⟩ | ⟨q,cap,cur,rfl,_,hc,_⟩
 ·simp [Value.ownBlock] at hx
 ·simp [Value.ownBlock] at hx
  subst hx
  rcases hr.2 with ⟨h0,_⟩ | ⟨q2,cap2,cur2,hv2,_,hc2,_⟩
  ·simp at h0
  ·simp only [Value.slice.injEq,Option.some.injEq] at hv2
   obtain ⟨hq2,_⟩:=hv2
   cases hq2
   rw [hc] at hc2
   simp at hc2
   exact he hc2.2
structure MS (P:Nat→Prop) (w0 u:World) (B g m c p:Nat) (pre L post:List Value):Prop where
 row:u.ownsRow B 62 14 (.slice (some ⟨g,0,none⟩) m c) m (pre ++ (L ++ post))
 len:pre.length=p
 l14:L.length=14
 tr:Trn P w0 u
 g:P g
section
variable {P:Nat→Prop} {w0 u v:World} {B g m c p:Nat} {pre L post:List Value}
theorem MS.set (h:MS P w0 u B g m c p pre L post) (o:Nat) (x:Value) (ho:o<14):MS P w0 (u.setCell ⟨g,p+o,none⟩ x) B g m c p pre (L.set o x) post :=
 ⟨by rw [← set_mid pre L post p o x h.len (by rw [h.l14];exact ho)];exact (h.row.stored (p+o) x).1,h.len,by rw [List.length_set];exact h.l14,
  trn_impL (h.tr.trans (Trn.of_grown (h.row.stored (p+o) x).2)) (fun k hk=>by
   rcases hk with hk | hk
   ·exact hk
   ·simp only [Option.some.injEq] at hk;rw [← hk];exact h.g),h.g⟩
theorem MS.cell (h:MS P w0 u B g m c p pre L post) (o:Nat) (ho:o<14):u.cell? ⟨g,p+o,none⟩=L[o]?:=by
 have h1:=h.l14
 have h2:=h.len
 have h3:=h.row.1
 rw [List.length_append,List.length_append] at h3
 rw [h.row.cellAt (p+o) (by omega),← h2,List.getElem?_append_right (by omega),List.getElem?_append_left (by omega)]
 congr 1
 omega
theorem MS.frozen (h:MS P w0 u B g m c p pre L post) (o:Nat):u.frozen? ⟨g,p+o,none⟩=false:=h.row.frozenAt (p+o)
theorem MS.trn {R:Nat→Prop} (h:MS P w0 u B g m c p pre L post) (ht:Trn R u v) (hR:∀ k,R k→P k) (hg:¬ R g):MS P w0 v B g m c p pre L post :=
 ⟨own_trnL h.row ht (fun k hk e=>by have hk':some g=some k:=hk;simp at hk';subst hk';exact hg e),h.len,h.l14,trn_impL (h.tr.trans ht) (fun k hk=>hk.elim id (hR k)),h.g⟩
theorem own_out {R:Nat→Prop} {e s n lo:Nat} {x:Value} {xs:List Value} (hx:u.ownsRow lo e s x n xs) (ht:Trn R u v) (hR:∀ k,x.ownBlock=some k→¬ R k):v.ownsRow lo e s x n xs:=own_trnL hx ht hR
theorem MS.own {e s n:Nat} {x:Value} {xs:List Value} {lo:Nat} (h:MS P w0 u B g m c p pre L post) (hx:u.ownsRow lo e s x n xs) (he:e≠62) (o:Nat) (y:Value):(u.setCell ⟨g,p+o,none⟩ y).ownsRow lo e s x n xs :=
 hx.kept (h.row.stored (p+o) y).2 (.inr (own_msR hx h.row he))
end
structure MR (P:Nat→Prop) (w0 u:World) (B g m c p:Nat) (pre L post:List Value) (q:RQ) (es:List EdgeV) (ls:List Int) (es3:List EdgeV):Prop where
 ms:MS P w0 u B g m c p pre L post
 o1:u.ownsRow q.lo 107 2 (.slice q.a1 q.k1 q.c1) q.k1 (ecells es)
 o2:u.ownsRow q.lo 3 1 (.slice q.a2 q.k2 q.c2) q.k2 (ic ls)
 o3:u.ownsRow q.lo 107 2 (.slice q.a3 q.k3 q.c3) q.k3 (ecells es3)
theorem MR.set {P:Nat→Prop} {w0 u:World} {B g m c p:Nat} {pre L post:List Value} {q:RQ} {es:List EdgeV} {ls:List Int} {es3:List EdgeV} (h:MR P w0 u B g m c p pre L post q es ls es3) (o:Nat) (x:Value) (ho:o<14) :
  MR P w0 (u.setCell ⟨g,p+o,none⟩ x) B g m c p pre (L.set o x) post q es ls es3 :=
 ⟨h.ms.set o x ho,h.ms.own h.o1 (by decide) o x,h.ms.own h.o2 (by decide) o x,h.ms.own h.o3 (by decide) o x⟩
theorem RS.turn {u v:World} {B g m c:Nat} {ps rs:List RQ} {q q':RQ} (h:RS u B (some ⟨g,0,none⟩) m c (ps ++ q :: rs)) (hr:v.ownsRow B 62 14 (.slice (some ⟨g,0,none⟩) m c) m (qcells ps ++ (rqC q' ++ qcells rs)))
  (hq:q'.ok v) (h1:q'.lo=q.lo) (h2:q'.hi=q.hi) (ht:Trn (fun k=>k=g∨(q.lo≤k∧k<q.hi)) u v):RS v B (some ⟨g,0,none⟩) m c (ps ++ q' :: rs):=by
 have hap:=List.pairwise_append.1 h.apart
 have hap2:=List.pairwise_cons.1 hap.2.1
 refine ⟨by rw [qcells_app,qcells_cons];exact hr,?_,?_,?_⟩
 ·intro x hx
  rcases List.mem_append.1 hx with hx | hx
  ·have hx2:=h.each x (List.mem_append_left _ hx)
   have ho:=h.out x (List.mem_append_left _ hx) g rfl
   have ha:=hap.2.2 x hx q (List.mem_cons_self ..)
   exact ⟨hx2.1.trn ht (fun k hk=>by rcases hk with rfl | hk <;> omega),hx2.2⟩
  ·rcases List.mem_cons.1 hx with rfl | hx
   ·exact ⟨hq,by rw [h1];exact (h.each q (by simp)).2⟩
   ·have hx2:=h.each x (by simp [hx])
    have ho:=h.out x (by simp [hx]) g rfl
    have ha:=hap2.1 x hx
    exact ⟨hx2.1.trn ht (fun k hk=>by rcases hk with rfl | hk <;> omega),hx2.2⟩
 ·refine List.pairwise_append.2 ⟨hap.1,List.pairwise_cons.2 ⟨fun x hx=>by rw [h2];exact hap2.1 x hx,hap2.2⟩,fun x hx y hy=>?_⟩
  rcases List.mem_cons.1 hy with rfl | hy
  ·rw [h1];exact hap.2.2 x hx q (List.mem_cons_self ..)
  ·exact hap.2.2 x hx y (List.mem_cons_of_mem _ hy)
 ·intro x hx k hk
  rcases List.mem_append.1 hx with hx | hx
  ·exact h.out x (List.mem_append_left _ hx) k hk
  ·rcases List.mem_cons.1 hx with rfl | hx
   ·rw [h1,h2];exact h.out q (by simp) k hk
   ·exact h.out x (by simp [hx]) k hk
set_option maxRecDepth 100000 in
set_option maxHeartbeats 16000000 in
theorem markRecS_any (qs:List RQ) (B g m c C:Nat) (hm:szq qs≤1048576) (u:World) (h:RS u B (some ⟨g,0,none⟩) m c qs) (hC:g<C∧∀ q ∈ qs,q.hi≤C) :
  Calls Tryz.prog 11 #[.slice (some ⟨g,0,none⟩) m c,.int .i64 1] u fun e v=>e=.returned (.int .i64 ((kqs 1 qs:Nat):Int))∧RS v B (some ⟨g,0,none⟩) m c (mqs 1 qs)∧Trn (fun k=>B≤k∧k<C) u v:=by
 have hlen:=h.len
 have hbd:∀ q ∈ qs,q.k1≤1048576∧q.k2≤1048576∧q.k3≤1048576:=fun q hq=>(h.each q hq).1.bd
 have hml:m≤1048576:=by
  have h1:∀ l:List RQ,l.length≤szq l:=fun l=>by
   induction l with
   | nil=>simp
   | cons p ps ih=>simp [szq] at ih ⊢;omega
  have:=h1 qs
  omega
 have HB:=hideIt hbd
 have HQ:=hideIt h
 have HC:=hideIt hC
 clear h hbd hC
 go_enter Tryz.func11,Tryz.ntmps11
 go_wp2
 go_loopw [1,5] (fun kk i wr=>∃ (j k:Nat),j≤m∧i=.int .i64 (j:Int)∧kk=.int .i64 (k:Int)∧Hid (k=kqs 1 (qs.take j))∧k≤1+szq (qs.take j)*11∧Hid (RS wr B (some ⟨g,0,none⟩) m c (mqs 1 (qs.take j) ++ qs.drop j))∧Hid (Trn (fun k=>B≤k∧k<C) u wr)) (fun _ i _=>m - (intOf i).toNat)
 case atStart=>exact ⟨0,1,by omega,rfl,rfl,rfl,by simp [szq],by show RS _ _ _ _ _ _;simpa [mqs] using HQ.out,⟨rfl,rfl,rfl,Nat.le_refl _,fun _ _ _=>rfl⟩⟩
 case round =>
  obtain ⟨j,k,hj,rfl,rfl,hk,hkb,hS,hT⟩:=hrel
  clear HQ
  by_cases hlt:j<m
  ·obtain ⟨q,hq⟩:∃ f,qs[j]?=some f:=⟨qs[j]'(by omega),List.getElem?_eq_getElem (by omega)⟩
   have hqd:qs.drop j=q :: qs.drop (j+1):=by
    obtain ⟨hk',rfl⟩:=List.getElem?_eq_some_iff.1 hq
    exact List.drop_eq_getElem_cons hk'
   have hqt:qs.take (j+1)=qs.take j ++ [q]:=by
    obtain ⟨hk',rfl⟩:=List.getElem?_eq_some_iff.1 hq
    rw [List.take_succ_eq_append_getElem hk']
   have hz1:szq (qs.take (j+1))=szq (qs.take j)+(1+q.k1+q.k2+q.k3):=by rw [hqt,szq_snoc]
   have hz2:szq (qs.take (j+1))≤1048576:=by have h1:=szq_app (qs.take (j+1)) (qs.drop (j+1));rw [List.take_append_drop] at h1;omega
   obtain ⟨zz,hz0⟩:∃ z,z=szq (qs.take j):=⟨_,rfl⟩
   obtain ⟨zz1,hzz⟩:∃ z,z=szq (qs.take (j+1)):=⟨_,rfl⟩
   rw [← hz0] at hkb hz1
   rw [← hzz] at hz1 hz2
   have HZ:=hideIt hzz
   clear hz0 hzz
   have hS':=hS.out
   rw [hqd] at hS'
   have hpl:(mqs 1 (qs.take j)).length=j:=by rw [mqs_len,List.length_take];omega
   have hms:=mqs_snoc (qs.take j) q 1
   rw [← hqt,← hk.out] at hms
   generalize hgp:mqs 1 (qs.take j)=ps at *
   generalize hgr:qs.drop (j+1)=rs at *
   have hqo:=(hS'.each q (by simp)).1
   have HqC:Hid (q.hi≤C):=HC.out.2 q (List.mem_of_getElem? hq)
   have hqb:=(hS'.each q (by simp)).2
   have hbq:=hqo.bd
   have M0:MS (fun i=>i=g∨(q.lo≤i∧i<q.hi)) wr wr B g m c (j*14) (qcells ps) (rqC q) (qcells rs):=⟨by have:=hS'.row;rw [qcells_app,qcells_cons] at this;exact this,by rw [qcells_len,hpl],rfl,⟨rfl,rfl,rfl,Nat.le_refl _,fun _ _ _=>rfl⟩,.inl rfl⟩
   obtain ⟨b,hb⟩:∃ b,decide (((k:Int)+1+1+1+1+1+1+1) % 3=0)=b:=⟨_,rfl⟩
   have dB:((((k:Int)+1+1+1+1+1+1+1) % 3) == 0)=b:=by rw [← hb];rfl
   have c0:=M0.cell 0 (by omega)
   have f0:=M0.frozen 0
   rw [Nat.add_zero] at c0 f0
   have c1:=M0.cell 1 (by omega)
   have f1:=M0.frozen 1
   have c2:=M0.cell 2 (by omega)
   have f2:=M0.frozen 2
   have c3:=M0.cell 3 (by omega)
   have f3:=M0.frozen 3
   have c4:=M0.cell 4 (by omega)
   have f4:=M0.frozen 4
   have c5:=M0.cell 5 (by omega)
   have f5:=M0.frozen 5
   have c6:=M0.cell 6 (by omega)
   have f6:=M0.frozen 6
   have c7:=M0.cell 7 (by omega)
   have f7:=M0.frozen 7
   simp only [rqC,List.getElem?_cons_zero,List.getElem?_cons_succ] at c0 c1 c2 c3 c4 c5 c6 c7
   have b1:(0:Int)≤(j:Int):=by omega
   have b2:(j:Int)<(m:Int):=by omega
   have HS':=hideIt hS'
   have HM0:=hideIt M0
   have HH:=hideIt hqo
   have HHb:=hideIt hb
   have HMS:=hideIt hms
   have HGR:=hideIt hgr
   clear hS hS' M0 hqo hms hb hq hqd hqt hk hgp hgr
   go_upto_region 20 with fail
   have R0:MR (fun i=>i=g∨(q.lo≤i∧i<q.hi)) wr wr B g m c (j*14) (qcells ps) [.int .i64 q.r.kind,.int .i64 q.r.id,.int .i64 q.r.op,.int .i64 q.r.a,.int .i64 q.r.b,.int .i64 q.r.sh,.int .i64 q.r.an.num,.bool q.r.an.ok,.slice q.a1 q.k1 q.c1,.slice q.a2 q.k2 q.c2,.int .i64 q.r.o.num,.int .i64 q.r.o.op,.slice q.a3 q.k3 q.c3,.int .i64 q.r.o.v] (qcells rs) q q.r.an.es q.r.an.ls q.r.o.es:=⟨HM0.out,HH.out.r1,HH.out.r2,HH.out.r3⟩
   obtain ⟨W1,e1⟩:∃ W,W=wr.setCell ⟨g,j*14,none⟩ (.int .i64 ((k:Int))):=⟨_,rfl⟩
   have R1:MR (fun i=>i=g∨(q.lo≤i∧i<q.hi)) wr W1 B g m c (j*14) (qcells ps) [.int .i64 ((k:Int)),.int .i64 q.r.id,.int .i64 q.r.op,.int .i64 q.r.a,.int .i64 q.r.b,.int .i64 q.r.sh,.int .i64 q.r.an.num,.bool q.r.an.ok,.slice q.a1 q.k1 q.c1,.slice q.a2 q.k2 q.c2,.int .i64 q.r.o.num,.int .i64 q.r.o.op,.slice q.a3 q.k3 q.c3,.int .i64 q.r.o.v] (qcells rs) q q.r.an.es q.r.an.ls q.r.o.es:=by rw [e1];exact R0.set 0 (.int .i64 ((k:Int))) (by omega)
   obtain ⟨W2,e2⟩:∃ W,W=W1.setCell ⟨g,j*14+1,none⟩ (.int .i64 ((k:Int)+1)):=⟨_,rfl⟩
   have R2:MR (fun i=>i=g∨(q.lo≤i∧i<q.hi)) wr W2 B g m c (j*14) (qcells ps) [.int .i64 ((k:Int)),.int .i64 ((k:Int)+1),.int .i64 q.r.op,.int .i64 q.r.a,.int .i64 q.r.b,.int .i64 q.r.sh,.int .i64 q.r.an.num,.bool q.r.an.ok,.slice q.a1 q.k1 q.c1,.slice q.a2 q.k2 q.c2,.int .i64 q.r.o.num,.int .i64 q.r.o.op,.slice q.a3 q.k3 q.c3,.int .i64 q.r.o.v] (qcells rs) q q.r.an.es q.r.an.ls q.r.o.es:=by rw [e2];exact R1.set 1 (.int .i64 ((k:Int)+1)) (by omega)
   obtain ⟨W3,e3⟩:∃ W,W=W2.setCell ⟨g,j*14+1+1,none⟩ (.int .i64 ((k:Int)+1+1)):=⟨_,rfl⟩
   have R3:MR (fun i=>i=g∨(q.lo≤i∧i<q.hi)) wr W3 B g m c (j*14) (qcells ps) [.int .i64 ((k:Int)),.int .i64 ((k:Int)+1),.int .i64 ((k:Int)+1+1),.int .i64 q.r.a,.int .i64 q.r.b,.int .i64 q.r.sh,.int .i64 q.r.an.num,.bool q.r.an.ok,.slice q.a1 q.k1 q.c1,.slice q.a2 q.k2 q.c2,.int .i64 q.r.o.num,.int .i64 q.r.o.op,.slice q.a3 q.k3 q.c3,.int .i64 q.r.o.v] (qcells rs) q q.r.an.es q.r.an.ls q.r.o.es:=by rw [e3];exact R2.set 2 (.int .i64 ((k:Int)+1+1)) (by omega)
   obtain ⟨W4,e4⟩:∃ W,W=W3.setCell ⟨g,j*14+1+2,none⟩ (.int .i64 ((k:Int)+1+1+1)):=⟨_,rfl⟩
   have R4:MR (fun i=>i=g∨(q.lo≤i∧i<q.hi)) wr W4 B g m c (j*14) (qcells ps) [.int .i64 ((k:Int)),.int .i64 ((k:Int)+1),.int .i64 ((k:Int)+1+1),.int .i64 ((k:Int)+1+1+1),.int .i64 q.r.b,.int .i64 q.r.sh,.int .i64 q.r.an.num,.bool q.r.an.ok,.slice q.a1 q.k1 q.c1,.slice q.a2 q.k2 q.c2,.int .i64 q.r.o.num,.int .i64 q.r.o.op,.slice q.a3 q.k3 q.c3,.int .i64 q.r.o.v] (qcells rs) q q.r.an.es q.r.an.ls q.r.o.es:=by rw [e4];exact R3.set 3 (.int .i64 ((k:Int)+1+1+1)) (by omega)
   obtain ⟨W5,e5⟩:∃ W,W=W4.setCell ⟨g,j*14+1+3,none⟩ (.int .i64 ((k:Int)+1+1+1+1)):=⟨_,rfl⟩
   have R5:MR (fun i=>i=g∨(q.lo≤i∧i<q.hi)) wr W5 B g m c (j*14) (qcells ps) [.int .i64 ((k:Int)),.int .i64 ((k:Int)+1),.int .i64 ((k:Int)+1+1),.int .i64 ((k:Int)+1+1+1),.int .i64 ((k:Int)+1+1+1+1),.int .i64 q.r.sh,.int .i64 q.r.an.num,.bool q.r.an.ok,.slice q.a1 q.k1 q.c1,.slice q.a2 q.k2 q.c2,.int .i64 q.r.o.num,.int .i64 q.r.o.op,.slice q.a3 q.k3 q.c3,.int .i64 q.r.o.v] (qcells rs) q q.r.an.es q.r.an.ls q.r.o.es:=by rw [e5];exact R4.set 4 (.int .i64 ((k:Int)+1+1+1+1)) (by omega)
   obtain ⟨W6,e6⟩:∃ W,W=W5.setCell ⟨g,j*14+5,none⟩ (.int .i64 ((k:Int)+1+1+1+1+1)):=⟨_,rfl⟩
   have R6:MR (fun i=>i=g∨(q.lo≤i∧i<q.hi)) wr W6 B g m c (j*14) (qcells ps) [.int .i64 ((k:Int)),.int .i64 ((k:Int)+1),.int .i64 ((k:Int)+1+1),.int .i64 ((k:Int)+1+1+1),.int .i64 ((k:Int)+1+1+1+1),.int .i64 ((k:Int)+1+1+1+1+1),.int .i64 q.r.an.num,.bool q.r.an.ok,.slice q.a1 q.k1 q.c1,.slice q.a2 q.k2 q.c2,.int .i64 q.r.o.num,.int .i64 q.r.o.op,.slice q.a3 q.k3 q.c3,.int .i64 q.r.o.v] (qcells rs) q q.r.an.es q.r.an.ls q.r.o.es:=by rw [e6];exact R5.set 5 (.int .i64 ((k:Int)+1+1+1+1+1)) (by omega)
   obtain ⟨W7,e7⟩:∃ W,W=W6.setCell ⟨g,j*14+6,none⟩ (.int .i64 ((k:Int)+1+1+1+1+1+1)):=⟨_,rfl⟩
   have R7:MR (fun i=>i=g∨(q.lo≤i∧i<q.hi)) wr W7 B g m c (j*14) (qcells ps) [.int .i64 ((k:Int)),.int .i64 ((k:Int)+1),.int .i64 ((k:Int)+1+1),.int .i64 ((k:Int)+1+1+1),.int .i64 ((k:Int)+1+1+1+1),.int .i64 ((k:Int)+1+1+1+1+1),.int .i64 ((k:Int)+1+1+1+1+1+1),.bool q.r.an.ok,.slice q.a1 q.k1 q.c1,.slice q.a2 q.k2 q.c2,.int .i64 q.r.o.num,.int .i64 q.r.o.op,.slice q.a3 q.k3 q.c3,.int .i64 q.r.o.v] (qcells rs) q q.r.an.es q.r.an.ls q.r.o.es:=by rw [e7];exact R6.set 6 (.int .i64 ((k:Int)+1+1+1+1+1+1)) (by omega)
   obtain ⟨W8,e8⟩:∃ W,W=W7.setCell ⟨g,j*14+6+1,none⟩ (.bool b):=⟨_,rfl⟩
   have R8:MR (fun i=>i=g∨(q.lo≤i∧i<q.hi)) wr W8 B g m c (j*14) (qcells ps) [.int .i64 ((k:Int)),.int .i64 ((k:Int)+1),.int .i64 ((k:Int)+1+1),.int .i64 ((k:Int)+1+1+1),.int .i64 ((k:Int)+1+1+1+1),.int .i64 ((k:Int)+1+1+1+1+1),.int .i64 ((k:Int)+1+1+1+1+1+1),.bool b,.slice q.a1 q.k1 q.c1,.slice q.a2 q.k2 q.c2,.int .i64 q.r.o.num,.int .i64 q.r.o.op,.slice q.a3 q.k3 q.c3,.int .i64 q.r.o.v] (qcells rs) q q.r.an.es q.r.an.ls q.r.o.es:=by rw [e8];exact R7.set 7 (.bool b) (by omega)
   rw [← e1,← e2,← e3,← e4,← e5,← e6,← e7,← e8]
   clear e1 e2 e3 e4 e5 e6 e7 e8 R0 R1 R2 R3 R4 R5 R6 R7 W1 W2 W3 W4 W5 W6 W7
   have M8:=R8.ms
   have o1:=R8.o1
   have o2:=R8.o2
   have o3:=R8.o3
   clear R8 c0 c1 c2 c3 c4 c5 c6 c7 f0 f1 f2 f3 f4 f5 f6 f7 dB
   have in1:∀ k,(Value.slice q.a1 q.k1 q.c1).ownBlock=some k→k=g∨(q.lo≤k∧k<q.hi):=fun k hk=>.inr ⟨(HH.out.r1.lt k hk).1,HH.out.t1 k hk⟩
   have in2:∀ k,(Value.slice q.a2 q.k2 q.c2).ownBlock=some k→k=g∨(q.lo≤k∧k<q.hi):=fun k hk=>.inr ⟨(HH.out.r2.lt k hk).1,HH.out.t2 k hk⟩
   have in3:∀ k,(Value.slice q.a3 q.k3 q.c3).ownBlock=some k→k=g∨(q.lo≤k∧k<q.hi):=fun k hk=>.inr ⟨(HH.out.r3.lt k hk).1,HH.out.t3 k hk⟩
   have ng1:=own_msR HH.out.r1 HM0.out.row (by decide)
   have ng2:=own_msR HH.out.r2 HM0.out.row (by decide)
   have ng3:=own_msR HH.out.r3 HM0.out.row (by decide)
   have n12:∀ k,(Value.slice q.a1 q.k1 q.c1).ownBlock=some k→¬ (Value.slice q.a2 q.k2 q.c2).ownBlock=some k:=fun k h1 h2=>rows_ne HH.out.r1 HH.out.r2 (by decide) k h1 h2
   have n21:∀ k,(Value.slice q.a2 q.k2 q.c2).ownBlock=some k→¬ (Value.slice q.a1 q.k1 q.c1).ownBlock=some k:=fun k h1 h2=>n12 k h2 h1
   have n23:∀ k,(Value.slice q.a2 q.k2 q.c2).ownBlock=some k→¬ (Value.slice q.a3 q.k3 q.c3).ownBlock=some k:=fun k h1 h2=>rows_ne HH.out.r2 HH.out.r3 (by decide) k h1 h2
   have n32:∀ k,(Value.slice q.a3 q.k3 q.c3).ownBlock=some k→¬ (Value.slice q.a2 q.k2 q.c2).ownBlock=some k:=fun k h1 h2=>n23 k h2 h1
   have n13:∀ k,(Value.slice q.a1 q.k1 q.c1).ownBlock=some k→¬ (Value.slice q.a3 q.k3 q.c3).ownBlock=some k:=HH.out.ap
   have n31:∀ k,(Value.slice q.a3 q.k3 q.c3).ownBlock=some k→¬ (Value.slice q.a1 q.k1 q.c1).ownBlock=some k:=fun k h1 h2=>n13 k h2 h1
   have IN:=hideIt (And.intro in1 (And.intro in2 in3))
   have NG:=hideIt (And.intro ng1 (And.intro ng2 ng3))
   have NN:=hideIt (And.intro n12 (And.intro n21 (And.intro n23 (And.intro n32 (And.intro n13 n31)))))
   clear in1 in2 in3 ng1 ng2 ng3 n12 n21 n23 n32 n13 n31
   obtain ⟨K1,hK1⟩:∃ K1,K1=k+8+q.k1*2:=⟨_,rfl⟩
   obtain ⟨K2,hK2⟩:∃ K2,K2=k+8+q.k1*2+q.k2:=⟨_,rfl⟩
   obtain ⟨K3,hK3⟩:∃ K3,K3=k+8+q.k1*2+q.k2+2+q.k3*2:=⟨_,rfl⟩
   have z1:K1≤40000000:=by omega
   have z2:K2≤40000000:=by omega
   have z3:K3≤40000000:=by omega
   have z4:K3+1≤1+zz1*11:=by omega
   have HK:=hideIt (And.intro hK1 (And.intro hK2 hK3))
   have HE1:Hid (Calls Tryz.prog 33 #[.slice q.a1 q.k1 q.c1,.int .i64 ((k:Int)+1+1+1+1+1+1+1+1)] W8 fun e v=>e=.returned (.int .i64 (K1:Int))∧v.ownsRow q.lo 107 2 (.slice q.a1 q.k1 q.c1) q.k1 (ecells (marks (k+8) q.k1))∧Trn (fun k=>(Value.slice q.a1 q.k1 q.c1).ownBlock=some k) W8 v):=by
    have h1:=markE_own q.a1 q.k1 q.c1 _ (k+8) o1 (by omega) (by omega)
    rw [show ((k+8:Nat):Int)=(k:Int)+1+1+1+1+1+1+1+1 by omega] at h1
    exact h1.mono fun e v h2=>⟨by rw [h2.1];congr 2;have:=HK.out;omega,h2.2⟩
   clear hK1 hK2 hK3
   have c8:=M8.cell 8 (by omega)
   simp only [List.getElem?_cons_zero,List.getElem?_cons_succ] at c8
   have HM8:=hideIt M8
   have HO2:=hideIt o2
   have HO3:=hideIt o3
   clear M8 o1 o2 o3
   go_wp2_with (go_at_call 33;refine HE1.out.mono ?_;rintro e w9 ⟨rfl,p1,t9⟩;refine Hid.out ?_)
   refine (show ∀ {p:Prop},p→Hid p from fun h=>h) ?_
   have M9:=HM8.out.trn t9 IN.out.1 NG.out.1
   have o2:=own_out HO2.out t9 NN.out.2.1
   have o3:=own_out HO3.out t9 NN.out.2.2.2.2.2
   have c9:=M9.cell 9 (by omega)
   simp only [List.getElem?_cons_zero,List.getElem?_cons_succ] at c9
   have HE2:Hid (Calls Tryz.prog 34 #[.slice q.a2 q.k2 q.c2,.int .i64 (K1:Int)] w9 fun e v=>e=.returned (.int .i64 (K2:Int))∧v.ownsRow q.lo 3 1 (.slice q.a2 q.k2 q.c2) q.k2 (ic (imarks K1 q.k2))∧Trn (fun k=>(Value.slice q.a2 q.k2 q.c2).ownBlock=some k) w9 v) :=
    (markI_own q.a2 q.k2 q.c2 _ K1 o2 (by omega) (by omega)).mono fun e v h2=>⟨by rw [h2.1];congr 2;have:=HK.out;omega,h2.2⟩
   have HM9:=hideIt M9
   have HP1:=hideIt p1
   have HO3':=hideIt o3
   clear HE1 t9 M9 o2 o3 p1 c8 HO2 HO3 HM8
   go_wp2_with (go_at_call 34;refine HE2.out.mono ?_;rintro e w10 ⟨rfl,p2,t10⟩;refine Hid.out ?_)
   refine (show ∀ {p:Prop},p→Hid p from fun h=>h) ?_
   have M10:=HM9.out.trn t10 IN.out.2.1 NG.out.2.1
   have p1:=own_out HP1.out t10 NN.out.1
   have o3:=own_out HO3'.out t10 NN.out.2.2.2.1
   have c10:=M10.cell 10 (by omega)
   have f10:=M10.frozen 10
   have c11:=M10.cell 11 (by omega)
   have f11:=M10.frozen 11
   simp only [List.getElem?_cons_zero,List.getElem?_cons_succ] at c10 c11
   have HM10:=hideIt M10
   have HP1':=hideIt p1
   have HP2:=hideIt p2
   have HO3'':=hideIt o3
   clear HE2 t10 M10 o3 p1 p2 c9 HP1 HO3' HM9
   go_upto_region 26 with fail
   have R10:MR (fun i=>i=g∨(q.lo≤i∧i<q.hi)) wr w10 B g m c (j*14) (qcells ps) [.int .i64 ((k:Int)),.int .i64 ((k:Int)+1),.int .i64 ((k:Int)+1+1),.int .i64 ((k:Int)+1+1+1),.int .i64 ((k:Int)+1+1+1+1),.int .i64 ((k:Int)+1+1+1+1+1),.int .i64 ((k:Int)+1+1+1+1+1+1),.bool b,.slice q.a1 q.k1 q.c1,.slice q.a2 q.k2 q.c2,.int .i64 q.r.o.num,.int .i64 q.r.o.op,.slice q.a3 q.k3 q.c3,.int .i64 q.r.o.v] (qcells rs) q (marks (k+8) q.k1) (imarks K1 q.k2) q.r.o.es:=⟨HM10.out,HP1'.out,HP2.out,HO3''.out⟩
   obtain ⟨W11,e11⟩:∃ W,W=w10.setCell ⟨g,j*14+10,none⟩ (.int .i64 (K2:Int)):=⟨_,rfl⟩
   have R11:MR (fun i=>i=g∨(q.lo≤i∧i<q.hi)) wr W11 B g m c (j*14) (qcells ps) [.int .i64 ((k:Int)),.int .i64 ((k:Int)+1),.int .i64 ((k:Int)+1+1),.int .i64 ((k:Int)+1+1+1),.int .i64 ((k:Int)+1+1+1+1),.int .i64 ((k:Int)+1+1+1+1+1),.int .i64 ((k:Int)+1+1+1+1+1+1),.bool b,.slice q.a1 q.k1 q.c1,.slice q.a2 q.k2 q.c2,.int .i64 (K2:Int),.int .i64 q.r.o.op,.slice q.a3 q.k3 q.c3,.int .i64 q.r.o.v] (qcells rs) q (marks (k+8) q.k1) (imarks K1 q.k2) q.r.o.es:=by rw [e11];exact R10.set 10 (.int .i64 (K2:Int)) (by omega)
   obtain ⟨W12,e12⟩:∃ W,W=W11.setCell ⟨g,j*14+10+1,none⟩ (.int .i64 ((K2:Int)+1)):=⟨_,rfl⟩
   have R12:MR (fun i=>i=g∨(q.lo≤i∧i<q.hi)) wr W12 B g m c (j*14) (qcells ps) [.int .i64 ((k:Int)),.int .i64 ((k:Int)+1),.int .i64 ((k:Int)+1+1),.int .i64 ((k:Int)+1+1+1),.int .i64 ((k:Int)+1+1+1+1),.int .i64 ((k:Int)+1+1+1+1+1),.int .i64 ((k:Int)+1+1+1+1+1+1),.bool b,.slice q.a1 q.k1 q.c1,.slice q.a2 q.k2 q.c2,.int .i64 (K2:Int),.int .i64 ((K2:Int)+1),.slice q.a3 q.k3 q.c3,.int .i64 q.r.o.v] (qcells rs) q (marks (k+8) q.k1) (imarks K1 q.k2) q.r.o.es:=by rw [e12];exact R11.set 11 (.int .i64 ((K2:Int)+1)) (by omega)
   rw [← e11,← e12]
   clear e11 e12 R10 R11 W11 c10 c11 f10 f11 HM10 HP1' HP2 HO3''
   have HE3:Hid (Calls Tryz.prog 33 #[.slice q.a3 q.k3 q.c3,.int .i64 ((K2:Int)+1+1)] W12 fun e v=>e=.returned (.int .i64 (K3:Int))∧v.ownsRow q.lo 107 2 (.slice q.a3 q.k3 q.c3) q.k3 (ecells (marks (K2+2) q.k3))∧Trn (fun k=>(Value.slice q.a3 q.k3 q.c3).ownBlock=some k) W12 v):=by
    have h1:=markE_own q.a3 q.k3 q.c3 _ (K2+2) R12.o3 (by omega) (by omega)
    rw [show ((K2+2:Nat):Int)=(K2:Int)+1+1 by omega] at h1
    exact h1.mono fun e v h2=>⟨by rw [h2.1];congr 2;have:=HK.out;omega,h2.2⟩
   have c12:=R12.ms.cell 12 (by omega)
   simp only [List.getElem?_cons_zero,List.getElem?_cons_succ] at c12
   have HR12:=hideIt R12
   clear R12
   go_wp2_with (go_at_call 33;refine HE3.out.mono ?_;rintro e w13 ⟨rfl,p3,t13⟩;refine Hid.out ?_)
   refine (show ∀ {p:Prop},p→Hid p from fun h=>h) ?_
   have R13:MR (fun i=>i=g∨(q.lo≤i∧i<q.hi)) wr w13 B g m c (j*14) (qcells ps) [.int .i64 ((k:Int)),.int .i64 ((k:Int)+1),.int .i64 ((k:Int)+1+1),.int .i64 ((k:Int)+1+1+1),.int .i64 ((k:Int)+1+1+1+1),.int .i64 ((k:Int)+1+1+1+1+1),.int .i64 ((k:Int)+1+1+1+1+1+1),.bool b,.slice q.a1 q.k1 q.c1,.slice q.a2 q.k2 q.c2,.int .i64 (K2:Int),.int .i64 ((K2:Int)+1),.slice q.a3 q.k3 q.c3,.int .i64 q.r.o.v] (qcells rs) q (marks (k+8) q.k1) (imarks K1 q.k2) (marks (K2+2) q.k3):=⟨HR12.out.ms.trn t13 IN.out.2.2 NG.out.2.2,own_out HR12.out.o1 t13 NN.out.2.2.2.2.1,own_out HR12.out.o2 t13 NN.out.2.2.1,p3⟩
   have c13:=R13.ms.cell 13 (by omega)
   have f13:=R13.ms.frozen 13
   simp only [List.getElem?_cons_zero,List.getElem?_cons_succ] at c13
   have R14:MR (fun i=>i=g∨(q.lo≤i∧i<q.hi)) wr (w13.setCell ⟨g,j*14+13,none⟩ (.int .i64 (K3:Int))) B g m c (j*14) (qcells ps) [.int .i64 ((k:Int)),.int .i64 ((k:Int)+1),.int .i64 ((k:Int)+1+1),.int .i64 ((k:Int)+1+1+1),.int .i64 ((k:Int)+1+1+1+1),.int .i64 ((k:Int)+1+1+1+1+1),.int .i64 ((k:Int)+1+1+1+1+1+1),.bool b,.slice q.a1 q.k1 q.c1,.slice q.a2 q.k2 q.c2,.int .i64 (K2:Int),.int .i64 ((K2:Int)+1),.slice q.a3 q.k3 q.c3,.int .i64 (K3:Int)] (qcells rs) q (marks (k+8) q.k1) (imarks K1 q.k2) (marks (K2+2) q.k3):=R13.set 13 (.int .i64 (K3:Int)) (by omega)
   have HN:Hid (RS (w13.setCell ⟨g,j*14+13,none⟩ (.int .i64 (K3:Int))) B (some ⟨g,0,none⟩) m c (mqs 1 (qs.take (j+1)) ++ qs.drop (j+1))∧K3+1=kqs 1 (qs.take (j+1))∧Trn (fun k=>B≤k∧k<C) u (w13.setCell ⟨g,j*14+13,none⟩ (.int .i64 (K3:Int)))):=by
    obtain ⟨e1,e2,e3⟩:=HK.out
    have hok:(mq k q).ok (w13.setCell ⟨g,j*14+13,none⟩ (.int .i64 (K3:Int))):=by
     have q1:=R14.o1
     have q2:=R14.o2
     have q3:=R14.o3
     rw [e1] at q2
     rw [e2] at q3
     exact ⟨q1,q2,q3,HH.out.t1,HH.out.t2,HH.out.t3,Nat.le_trans HH.out.th R14.ms.tr.size,HH.out.bd,HH.out.ap⟩
    have hrow:=R14.ms.row
    have hL:[.int .i64 ((k:Int)),.int .i64 ((k:Int)+1),.int .i64 ((k:Int)+1+1),.int .i64 ((k:Int)+1+1+1),.int .i64 ((k:Int)+1+1+1+1),.int .i64 ((k:Int)+1+1+1+1+1),.int .i64 ((k:Int)+1+1+1+1+1+1),.bool b,.slice q.a1 q.k1 q.c1,.slice q.a2 q.k2 q.c2,.int .i64 (K2:Int),.int .i64 ((K2:Int)+1),.slice q.a3 q.k3 q.c3,.int .i64 (K3:Int)]=rqC (mq k q):=by rw [e2,e3,← HHb.out];rfl
    rw [hL] at hrow
    have hT2:=HS'.out.turn (q':=mq k q) hrow hok rfl rfl R14.ms.tr
    refine ⟨?_,?_,?_⟩
    ·rw [HMS.out.1,HGR.out,List.append_assoc]
     exact hT2
    ·rw [HMS.out.2,e3]
     rfl
    ·refine trn_impL (hT.out.trans R14.ms.tr) (fun i hi=>?_)
     have h8:=(HM0.out.row.lt g rfl).1
     have h7:=HC.out.1
     have h6:=HqC.out
     rcases hi with hi | rfl | hi <;> omega
   clear R13 R14 HR12 HE3 c12 p3 t13 HK
   go_wp2
   have HZ2:K3+1≤1+szq (qs.take (j+1))*11:=by rw [← HZ.out];exact z4
   all_goals exact ⟨⟨j+1,K3+1,by omega,by go_num,by go_num,HN.out.2.1,HZ2,HN.out.1,HN.out.2.2⟩,by simp [intOf];omega⟩
  ·obtain rfl:j=m:=by omega
   have h1:qs.take j=qs:=List.take_of_length_le (by omega)
   have h2:qs.drop j=[]:=List.drop_of_length_le (by omega)
   have HN:Hid (RS wr B (some ⟨g,0,none⟩) j c (mqs 1 qs)∧k=kqs 1 qs):=by
    have q1:=hS.out
    have q2:=hk.out
    rw [h1,h2,List.append_nil] at q1
    rw [h1] at q2
    exact ⟨q1,q2⟩
   clear hS h1 h2 hk
   go_wp2
   go_ret
   exact ⟨by rw [← HN.out.2];rfl,HN.out.1,hT.out⟩
structure RV (q:RQ) (u:World) (B:Nat):Prop where
 e1:Es u B q.a1 q.k1 q.r.an.es
 e2:Is u B q.a2 q.k2 q.r.an.ls
 e3:Es u B q.a3 q.k3 q.r.o.es
structure RL (u:World) (B:Nat) (a:Option Addr) (m:Nat) (qs:List RQ):Prop where
 len:qs.length=m
 row:m=0∨∃ b off,a=some ⟨b,off,none⟩∧b<B∧∀ j q,qs[j]?=some q→∀ o v,(rqC q)[o]?=some v→u.cell? ⟨b,off+j*14+o,none⟩=some v
 each:∀ q ∈ qs,RV q u B
theorem RV.up {q:RQ} {u v:World} (h:RV q u u.heap.size) (hb:Below u.heap.size u v):RV q v v.heap.size:=⟨h.e1.up hb,h.e2.up hb,h.e3.up hb⟩
theorem RL.up {u v:World} {a:Option Addr} {m:Nat} {qs:List RQ} (h:RL u u.heap.size a m qs) (hb:Below u.heap.size u v):RL v v.heap.size a m qs :=
 ⟨h.len,h.row.imp id fun ⟨b,off,e,hbl,hc⟩=>⟨b,off,e,Nat.lt_of_lt_of_le hbl hb.size,fun j q hj o x hx=>by rw [hb.cell hbl];exact hc j q hj o x hx⟩,fun q hq=>(h.each q hq).up hb⟩
theorem RS.rl {u:World} {B:Nat} {a:Option Addr} {m c:Nat} {qs:List RQ} (h:RS u B a m c qs):RL u u.heap.size a m qs:=by
 refine ⟨h.len,?_,fun q hq=>⟨Es_of_own (h.each q hq).1.r1,Is_of_own (h.each q hq).1.r2,Es_of_own (h.each q hq).1.r3⟩⟩
 by_cases hm:m=0
 ·exact .inl hm
 ·obtain ⟨g,rfl⟩:=h.some_of (by omega)
  refine .inr ⟨g,0,rfl,(h.row.lt g rfl).2,fun j q hj o v hv=>?_⟩
  rw [Nat.zero_add,h.cell hj o (List.getElem?_eq_some_iff.1 hv).1]
  exact hv
def RcAt (u:World) (b o:Nat) (q:RQ):Prop:=u.cell? ⟨b,o,none⟩=some (.int .i64 q.r.kind)∧u.cell? ⟨b,o+1,none⟩=some (.int .i64 q.r.id)∧u.cell? ⟨b,o+2,none⟩=some (.int .i64 q.r.op)∧u.cell? ⟨b,o+3,none⟩=some (.int .i64 q.r.a)∧u.cell? ⟨b,o+4,none⟩=some (.int .i64 q.r.b)∧u.cell? ⟨b,o+5,none⟩=some (.int .i64 q.r.sh)∧u.cell? ⟨b,o+6,none⟩=some (.int .i64 q.r.an.num)∧u.cell? ⟨b,o+7,none⟩=some (.bool q.r.an.ok)∧u.cell? ⟨b,o+8,none⟩=some (.slice q.a1 q.k1 q.c1)∧u.cell? ⟨b,o+9,none⟩=some (.slice q.a2 q.k2 q.c2)∧u.cell? ⟨b,o+10,none⟩=some (.int .i64 q.r.o.num)∧u.cell? ⟨b,o+11,none⟩=some (.int .i64 q.r.o.op)∧u.cell? ⟨b,o+12,none⟩=some (.slice q.a3 q.k3 q.c3)∧u.cell? ⟨b,o+13,none⟩=some (.int .i64 q.r.o.v)
theorem rcAt {u:World} {b o:Nat} {q:RQ} (h:∀ k v,(rqC q)[k]?=some v→u.cell? ⟨b,o+k,none⟩=some v):RcAt u b o q:=by
 refine ⟨?_,h 1 _ rfl,h 2 _ rfl,h 3 _ rfl,h 4 _ rfl,h 5 _ rfl,h 6 _ rfl,h 7 _ rfl,h 8 _ rfl,h 9 _ rfl,h 10 _ rfl,h 11 _ rfl,h 12 _ rfl,h 13 _ rfl⟩
 have:=h 0 _ rfl
 rw [Nat.add_zero] at this
 exact this
theorem RL.at {u:World} {B:Nat} {a:Option Addr} {m:Nat} {qs:List RQ} (h:RL u B a m qs) {k:Nat} (hk:k<m):∃ b off q,a=some ⟨b,off,none⟩∧b<B∧qs[k]?=some q∧(∀ o v,(rqC q)[o]?=some v→u.cell? ⟨b,off+k*14+o,none⟩=some v)∧RV q u B:=by
 rcases h.row with hz | ⟨b,off,ha,hb,hc⟩
 ·omega
 ·have hl:=h.len
  have hx:qs[k]?=some (qs[k]'(by omega)):=List.getElem?_eq_getElem (by omega)
  exact ⟨b,off,_,ha,hb,hx,hc k _ hx,h.each _ (List.mem_of_getElem? hx)⟩
set_option maxRecDepth 100000 in
set_option maxHeartbeats 4000000 in
theorem szRecS_or (qs:List RQ) (n:Nat) (a:Option Addr) (c:Nat) (hn:n≤maxLen) (hk:∀ q ∈ qs,q.k1≤maxLen∧q.k2≤maxLen∧q.k3≤maxLen) (w:World) (h:RL w w.heap.size a n qs) :
  Calls Tryz.prog 5 #[.slice a n c,.int .i64 1048576] w fun e w'=>∃ x:Int,e=.returned (.int .i64 x)∧(decide (x<0)=true∨(decide (x<0)=false∧szq qs≤1048576))∧Below w.heap.size w w':=by
 have HR:=hideIt h
 have hlen:=h.len
 have HM:=hideIt hk
 clear h hk
 by_cases hbig:n≤1048576
 case neg =>
  have d1:decide ((1048576:Int) - (n:Int)<0)=true:=decide_eq_true (by omega)
  have w1:wrap64 ((1048576:Int) - (n:Int))=(1048576:Int) - (n:Int):=by unfold wrap64;unfold maxLen at hn;omega
  go_enter Tryz.func5,Tryz.ntmps5
  go_wp2
  go_ret
  exact ⟨-1,rfl,.inl (by decide),Below.refl _ _⟩
 case pos =>
 have d1:decide ((1048576:Int) - (n:Int)<0)=false:=decide_eq_false (by omega)
 obtain ⟨N,hN⟩:∃ N:Nat,N+n=1048576:=⟨1048576 - n,by omega⟩
 go_enter Tryz.func5,Tryz.ntmps5
 go_wp2
 go_loopw [1,5] (fun kk i wr=>∃ (j l:Nat),j≤n∧i=.int .i64 (j:Int)∧kk=.int .i64 (l:Int)∧Hid (l+n+szq (qs.take j)=1048576+j)∧l≤1048576∧Below w.heap.size w wr) (fun _ i _=>n - (intOf i).toNat)
 case atStart=>exact ⟨0,N,by omega,rfl,by congr 1;omega,by show _=_;simp [szq];omega,by omega,Below.refl _ _⟩
 case round =>
  obtain ⟨j,l,hj,rfl,rfl,hl,hlb,hb⟩:=hrel
  by_cases hlt:j<n
  ·obtain ⟨b,off,q,rfl,hbl,hq,hc,hv⟩:=(HR.out.up hb).at hlt
   have hg:=HM.out q (List.mem_of_getElem? hq)
   obtain ⟨e0,e1,e2,e3,e4,e5,e6,e7,e8,e9,e10,e11,e12,e13⟩:=rcAt hc
   have b1:(0:Int)≤(j:Int):=by omega
   have b2:(j:Int)<(n:Int):=by omega
   have HS:=hideIt (szRec_gen q.r.kind q.r.id q.r.op q.r.a q.r.b q.r.sh q.r.an.num q.r.an.ok q.r.o.num q.r.o.op q.r.o.v q.a1 q.k1 q.c1 q.a2 q.k2 q.c2 q.a3 q.k3 q.c3 hg.1 hg.2.1 hg.2.2 l hlb wr)
   have HT:Hid (szq (qs.take (j+1))=szq (qs.take j)+(1+q.k1+q.k2+q.k3)):=by show _=_;rw [take_snocF qs j q hq,szq_snoc]
   have HB:=hideIt hb
   clear hc hv hq hg hb
   go_upto_region 7 with fail
   go_wp2_with (go_at_call 19;refine HS.out.mono ?_;rintro e w1 ⟨x,rfl,hx,hb1⟩;refine Hid.out ?_)
   refine (show ∀ {p:Prop},p→Hid p from fun h=>h) ?_
   have HB1:=hideIt (HB.out.trans (hb1.mono HB.out.size))
   clear e0 e1 e2 e3 e4 e5 e6 e7 e8 e9 e10 e11 e12 e13 HS hb1
   rcases hx with hx | ⟨hx,hxe⟩
   ·go_wp2
    go_ret
    exact ⟨-1,rfl,.inl (by decide),HB1.out⟩
   ·have hx0:¬ x<0:=of_decide_eq_false hx
    obtain ⟨y,rfl⟩:∃ y:Nat,x=(y:Int):=⟨x.toNat,by omega⟩
    have HL:Hid (y+n+szq (qs.take (j+1))=1048576+(j+1)):=by have h1:=hl.out;have h2:=HT.out;show _=_;omega
    have hy:y≤1048576:=by omega
    clear hxe hx0
    go_wp2
    exact ⟨⟨j+1,y,by omega,by go_num,rfl,HL,hy,HB1.out⟩,by simp [intOf];omega⟩
  ·have HL:Hid (szq qs≤1048576):=by have h1:=hl.out;rw [List.take_of_length_le (by omega)] at h1;show _≤_;omega
   have dl:decide ((l:Int)<0)=false:=decide_eq_false (by omega)
   clear hl
   go_wp2
   go_ret
   exact ⟨(l:Int),rfl,.inr ⟨dl,HL.out⟩,hb⟩
theorem infoRec21:(Tryz.prog.info? 62).map (fun i=>(i.zero,i.size,i.bytes))=some (some (.agg #[.int .i64 0,.int .i64 0,.int .i64 0,.int .i64 0,.int .i64 0,.int .i64 0,.int .i64 0,.bool false,.slice none 0 0,.slice none 0 0,.int .i64 0,.int .i64 0,.slice none 0 0,.int .i64 0]),14,160):=by kernel_rfl
theorem own_setCells21 {B e s n g c:Nat}:∀ (vs:List Value) (p:Nat) (u:World) (xs:List Value),u.ownsRow B e s (.slice (some ⟨g,0,none⟩) n c) n xs→(u.setCells g p vs).ownsRow B e s (.slice (some ⟨g,0,none⟩) n c) n (setL xs p vs)∧u.grownBy (u.setCells g p vs) (some g):=by
 intro vs
 induction vs with
 | nil=>intro p u xs h;exact ⟨h,rfl,rfl,rfl,Nat.le_refl _,fun _ _ _=>rfl⟩
 | cons v vs ih =>
  intro p u xs h
  have h1:=h.stored p v
  have h2:=ih (p+1) _ _ h1.1
  rw [World.setCells,setL]
  exact ⟨h2.1,grown_trans h1.2 h2.2⟩
theorem setL_take (vs:List Value):∀ (p:Nat) (xs:List Value),p+vs.length≤xs.length→(setL xs p vs).take (p+vs.length)=xs.take p ++ vs:=by
 induction vs with
 | nil=>intro p xs _;simp [setL]
 | cons v vs ih =>
  intro p xs h
  rw [List.length_cons] at h ⊢
  rw [setL,show p+(vs.length+1)=(p+1)+vs.length by omega,ih (p+1) _ (by rw [List.length_set];omega)]
  rw [List.take_add_one,List.getElem?_set,if_pos rfl,if_pos (by omega),List.take_set_of_le (Nat.le_refl _)]
  simp
def sigR (q:RQ):RecV × Nat × Nat × Nat:=(q.r,q.k1,q.k2,q.k3)
theorem sig_szq (ps:List RQ):∀ qs:List RQ,ps.map sigR=qs.map sigR→szq ps=szq qs:=by
 induction ps with
 | nil=>intro qs h;cases qs with
  | nil=>rfl
  | cons q qs=>simp at h
 | cons p ps ih =>
  intro qs h
  cases qs with
  | nil=>simp at h
  | cons q qs =>
   simp only [List.map_cons,List.cons.injEq] at h
   have h1:=ih qs h.2
   have h2:=h.1
   simp only [sigR,Prod.mk.injEq] at h2
   simp only [szq,List.map_cons,List.sum_cons] at h1 ⊢
   omega
theorem sig_r {ps qs:List RQ} (h:ps.map sigR=qs.map sigR):ps.map (·.r)=qs.map (·.r):=by
 have:=congrArg (List.map Prod.fst) h
 simpa [sigR,List.map_map,Function.comp_def] using this
structure RP (u:World) (B g:Nat) (qs:List RQ):Prop where
 each:∀ q ∈ qs,q.ok u∧B≤q.lo
 apart:qs.Pairwise (fun p q=>p.hi≤q.lo)
 out:∀ q ∈ qs,g<q.lo∨q.hi≤g
theorem RP.up {u v:World} {B g:Nat} {qs:List RQ} (h:RP u B g qs) (hb:Below u.heap.size u v):RP v B g qs:=⟨fun q hq=>⟨(h.each q hq).1.trn (trn_belowL hb) (fun _ e=>e.elim),(h.each q hq).2⟩,h.apart,h.out⟩
theorem RP.gr {u v:World} {B g:Nat} {qs:List RQ} (h:RP u B g qs) (hg:u.grownBy v (some g)):RP v B g qs :=
 ⟨fun q hq=>⟨(h.each q hq).1.trn (Trn.of_grown hg) (fun k hk=>by have:=h.out q hq;simp only [Option.some.injEq] at hk;omega),(h.each q hq).2⟩,h.apart,h.out⟩
theorem RP.snoc {u:World} {B g:Nat} {qs:List RQ} {q:RQ} (h:RP u B g qs) (hq:q.ok u) (hB:B≤q.lo) (hg:g<q.lo) (hl:∀ p ∈ qs,p.hi≤q.lo):RP u B g (qs ++ [q]):=by
 refine ⟨fun p hp=>?_,List.pairwise_append.2 ⟨h.apart,by simp,fun p hp x hx=>?_⟩,fun p hp=>?_⟩
 ·rcases List.mem_append.1 hp with hp | hp
  ·exact h.each p hp
  ·rw [List.mem_singleton.1 hp];exact ⟨hq,hB⟩
 ·rw [List.mem_singleton.1 hx];exact hl p hp
 ·rcases List.mem_append.1 hp with hp | hp
  ·exact h.out p hp
  ·rw [List.mem_singleton.1 hp];exact .inl hg
set_option maxRecDepth 100000 in
set_option maxHeartbeats 4000000 in
theorem toRecS_any (qs:List RQ) (n:Nat) (a:Option Addr) (cap:Nat) (hz:szq qs≤1048576) (w:World) (h:RL w w.heap.size a n qs) :
  Calls Tryz.prog 7 #[.slice a n cap] w fun e w'=>∃ g ps,e=.returned (.slice (some ⟨g,0,none⟩) n n)∧RS w' w.heap.size (some ⟨g,0,none⟩) n n ps∧ps.map sigR=qs.map sigR∧Below w.heap.size w w':=by
 have hzl:∀ l:List RQ,l.length≤szq l∧∀ q ∈ l,q.k1≤szq l∧q.k2≤szq l∧q.k3≤szq l:=fun l=>by
  induction l with
  | nil=>simp
  | cons p ps ih =>
   simp only [szq,List.map_cons,List.sum_cons,List.length_cons] at ih ⊢
   refine ⟨by omega,fun q hq=>?_⟩
   rcases List.mem_cons.1 hq with rfl | hq
   ·omega
   ·have:=ih.2 q hq;omega
 have hn:n≤1048576:=by have:=h.len;have:=(hzl qs).1;omega
 have HK:Hid (∀ q ∈ qs,q.k1≤1048576∧q.k2≤1048576∧q.k3≤1048576):=fun q hq=>by have:=(hzl qs).2 q hq;omega
 obtain ⟨i0,hi,hz0,hz1,hz2⟩:=info_parts infoRec21
 have hmk:∀ u:World,(Instr.makeSlice 38 (.int .i64 (n:Int)) (.int .i64 (n:Int))).run Tryz.prog u =
   .ok (.slice (some ⟨u.heap.size,0,none⟩) n n) (u.alloc (.cells (madeCells #[.int .i64 0,.int .i64 0,.int .i64 0,.int .i64 0,.int .i64 0,.int .i64 0,.int .i64 0,.bool false,.slice none 0 0,.slice none 0 0,.int .i64 0,.int .i64 0,.slice none 0 0,.int .i64 0] (n*14)) 62)):=fun u=>by
  have h:=run_make (P:=Tryz.prog) u 38 62 i0 _ Tryz.underlying38 hi hz0 .i64 .i64 (n:Int) (n:Int) (by omega) (by omega) (by rw [hz2];omega) (by omega)
  rw [Int.toNat_natCast] at h
  simpa [hz1,Value.cells] using h
 have HR:=hideIt h
 have hlen:=h.len
 clear h hz hzl
 go_enter Tryz.func7,Tryz.ntmps7
 go_wp2
 go_loopw [4] (fun i wr=>∃ (k:Nat) (xs:List Value) (ps:List RQ),k≤n∧i=.int .i64 (k:Int)∧Hid (xs.take (k*14)=qcells ps∧ps.map sigR=(qs.take k).map sigR)∧wr.ownsRow w.heap.size 62 14 (.slice (some ⟨w.heap.size,0,none⟩) n n) n xs∧Hid (RP wr w.heap.size w.heap.size ps)∧Below w.heap.size w wr)
  (fun i _=>n - (intOf i).toNat)
 case atStart=>exact ⟨0,_,[],by omega,rfl,by show _∧_;simp [qcells],World.ownsRow_lit (base:=w.heap.size) (e:=62) (size:=14) w (madeCells #[.int .i64 0,.int .i64 0,.int .i64 0,.int .i64 0,.int .i64 0,.int .i64 0,.int .i64 0,.bool false,.slice none 0 0,.slice none 0 0,.int .i64 0,.int .i64 0,.slice none 0 0,.int .i64 0] (n*14)) n (Nat.le_refl _) (by unfold maxLen;omega) (by simp [madeCells]),⟨by simp,List.Pairwise.nil,by simp⟩,(Below.refl _ _).alloc (Nat.le_refl _) _⟩
 case round =>
  obtain ⟨k,xs,ps,hk,rfl,hx,hown,hrp,hb⟩:=hrel
  by_cases hlt:k<n
  ·obtain ⟨b,off,q,rfl,hbl,hq,hc,hv⟩:=(HR.out.up hb).at hlt
   have hqk:=HK.out q (List.mem_of_getElem? hq)
   obtain ⟨e0,e1,e2,e3,e4,e5,e6,e7,e8,e9,e10,e11,e12,e13⟩:=rcAt hc
   have b1:(0:Int)≤(k:Int):=by omega
   have b2:(k:Int)<(n:Int):=by omega
   have HT:=hideIt (toRec_own q.r.kind q.r.id q.r.op q.r.a q.r.b q.r.sh q.r.an.num q.r.an.ok q.r.o.num q.r.o.op q.r.o.v q.a1 q.k1 q.c1 q.a2 q.k2 q.c2 q.a3 q.k3 q.c3 q.r.an.es q.r.an.ls q.r.o.es hqk.1 hqk.2.1 hqk.2.2 wr hv.e1 hv.e2 hv.e3)
   have HTk:=hideIt (take_snocF qs k q hq)
   have Hqk:=hideIt hqk
   have hgW:w.heap.size<wr.heap.size:=(hown.lt w.heap.size rfl).2
   clear hc hv hq hqk
   go_upto_region 5 with fail
   go_wp2_with (go_at_call 24;refine HT.out.mono ?_;rintro e w1 ⟨g1,g2,g3,rfl,o1,o2,o3,ne13,hb1⟩;refine Hid.out ?_)
   refine (show ∀ {p:Prop},p→Hid p from fun h=>h) ?_
   have hown1:=own_up10 hown hb1
   have hl3:xs.length=n*14:=hown1.1
   have hst:=own_setCells21 [.int .i64 q.r.kind,.int .i64 q.r.id,.int .i64 q.r.op,.int .i64 q.r.a,.int .i64 q.r.b,.int .i64 q.r.sh,.int .i64 q.r.an.num,.bool q.r.an.ok,.slice (some ⟨g1,0,none⟩) q.k1 q.k1,.slice (some ⟨g2,0,none⟩) q.k2 q.k2,.int .i64 q.r.o.num,.int .i64 q.r.o.op,.slice (some ⟨g3,0,none⟩) q.k3 q.k3,.int .i64 q.r.o.v] (k*14) w1 xs hown1
   have hth:w1.there w.heap.size (k*14) 14:=fun j hj=>⟨by rw [hown1.cellAt (k*14+j) (by omega),List.getElem?_eq_getElem (by omega)];rfl,hown1.frozenAt (k*14+j)⟩
   clear e0 e1 e2 e3 e4 e5 e6 e7 e8 e9 e10 e11 e12 e13 HT
   go_step
   go_step
   go_step
   go_step
   go_step
   refine wp_store_mid 62 (.tmp 21) (.tmp 20) rfl w.heap.size (k*14) #[.int .i64 q.r.kind,.int .i64 q.r.id,.int .i64 q.r.op,.int .i64 q.r.a,.int .i64 q.r.b,.int .i64 q.r.sh,.int .i64 q.r.an.num,.bool q.r.an.ok,.slice (some ⟨g1,0,none⟩) q.k1 q.k1,.slice (some ⟨g2,0,none⟩) q.k2 q.k2,.int .i64 q.r.o.num,.int .i64 q.r.o.op,.slice (some ⟨g3,0,none⟩) q.k3 q.k3,.int .i64 q.r.o.v] (by rfl) rfl hth (by kernel_rfl) (by kernel_rfl) ?_
   obtain ⟨W2,hW2⟩:∃ W2,W2=w1.setCells w.heap.size (k*14) [.int .i64 q.r.kind,.int .i64 q.r.id,.int .i64 q.r.op,.int .i64 q.r.a,.int .i64 q.r.b,.int .i64 q.r.sh,.int .i64 q.r.an.num,.bool q.r.an.ok,.slice (some ⟨g1,0,none⟩) q.k1 q.k1,.slice (some ⟨g2,0,none⟩) q.k2 q.k2,.int .i64 q.r.o.num,.int .i64 q.r.o.op,.slice (some ⟨g3,0,none⟩) q.k3 q.k3,.int .i64 q.r.o.v]:=⟨_,rfl⟩
   rw [← hW2] at hst
   rw [show w1.setCells w.heap.size (k*14) (#[.int .i64 q.r.kind,.int .i64 q.r.id,.int .i64 q.r.op,.int .i64 q.r.a,.int .i64 q.r.b,.int .i64 q.r.sh,.int .i64 q.r.an.num,.bool q.r.an.ok,.slice (some ⟨g1,0,none⟩) q.k1 q.k1,.slice (some ⟨g2,0,none⟩) q.k2 q.k2,.int .i64 q.r.o.num,.int .i64 q.r.o.op,.slice (some ⟨g3,0,none⟩) q.k3 q.k3,.int .i64 q.r.o.v]:Array Value).toList=W2 from hW2.symm]
   have HN:Hid (∃ (xs':List Value) (ps':List RQ),(xs'.take ((k+1)*14)=qcells ps'∧ps'.map sigR=(qs.take (k+1)).map sigR)∧W2.ownsRow w.heap.size 62 14 (.slice (some ⟨w.heap.size,0,none⟩) n n) n xs'∧RP W2 w.heap.size w.heap.size ps'∧Below w.heap.size w W2):=by
    have r1:=(hrp.out.up hb1)
    have lw1:=hb1.size
    have hok:RQ.ok ⟨q.r,some ⟨g1,0,none⟩,q.k1,q.k1,some ⟨g2,0,none⟩,q.k2,q.k2,some ⟨g3,0,none⟩,q.k3,q.k3,wr.heap.size,w1.heap.size⟩ w1 :=
     ⟨o1,o2,o3,fun g hg=>(o1.lt g hg).2,fun g hg=>(o2.lt g hg).2,fun g hg=>(o3.lt g hg).2,Nat.le_refl _,Hqk.out,fun k h1 h2=>by
      have h1':some g1=some k:=h1
      have h2':some g3=some k:=h2
      simp only [Option.some.injEq] at h1' h2'
      omega⟩
    have r2:=r1.snoc hok (show w.heap.size≤wr.heap.size by omega) (show w.heap.size<wr.heap.size by omega) (fun p hp=>(hrp.out.each p hp).1.th)
    refine ⟨_,_,⟨?_,?_⟩,hst.1,r2.gr hst.2,?_⟩
    ·rw [qcells_app,qcells_cons,qcells_nil,List.append_nil,← hx.out.1]
     have h5:=setL_take [.int .i64 q.r.kind,.int .i64 q.r.id,.int .i64 q.r.op,.int .i64 q.r.a,.int .i64 q.r.b,.int .i64 q.r.sh,.int .i64 q.r.an.num,.bool q.r.an.ok,.slice (some ⟨g1,0,none⟩) q.k1 q.k1,.slice (some ⟨g2,0,none⟩) q.k2 q.k2,.int .i64 q.r.o.num,.int .i64 q.r.o.op,.slice (some ⟨g3,0,none⟩) q.k3 q.k3,.int .i64 q.r.o.v] (k*14) xs (by show k*14+14≤_;omega)
     rw [show (k+1)*14=k*14+14 by omega]
     exact h5
    ·rw [List.map_append,hx.out.2,HTk.out,List.map_append]
     rfl
    ·exact (hb.trans (hb1.mono hb.size)).grown hst.2 (Nat.le_trans hb.size hb1.size) (fun j hj=>by simp only [Option.some.injEq] at hj;omega)
   clear hW2 hst hth hown1 hl3 o1 o2 o3 ne13 hb1 hx hown hrp HTk
   go_wp2
   obtain ⟨xs',ps',h1,h2,h3,h4⟩:=HN.out
   exact ⟨⟨k+1,xs',ps',by omega,by go_num,h1,h2,h3,h4⟩,by simp [intOf];omega⟩
  ·have e:qs.take k=qs:=List.take_of_length_le (by omega)
   have hl3:xs.length=n*14:=hown.1
   have HN:Hid (RS wr w.heap.size (some ⟨w.heap.size,0,none⟩) n n ps∧ps.map sigR=qs.map sigR):=by
    have h1:=hx.out
    rw [e,List.take_of_length_le (by omega)] at h1
    refine ⟨⟨by rw [← h1.1];exact hown,hrp.out.each,hrp.out.apart,fun q hq g hg=>?_⟩,h1.2⟩
    have hg':some w.heap.size=some g:=hg
    simp only [Option.some.injEq] at hg'
    have:=hrp.out.out q hq
    omega
   clear hx e hown hl3 hrp
   go_wp2
   go_ret
   exact ⟨w.heap.size,ps,rfl,HN.out.1,HN.out.2,hb⟩
end Go.Proofs.YtnagchanokbgdaaGreat.Q
