/- A head in a box of its own; what say makes of it, the program's and the specification's. Say: what was asked is answered, in a head's box; the program's and the specification's. Order: what was asked is a task, in a head's box; the program's and the specification's. A question of a head in a box: does it make sense; its edge. A head in a box: whether a question was answered with yes; a vertex that moves. What a head makes of an answer. -/
import Derived.Test.YtnagchanokbgdaaGreatJCq20
import Derived.Deep.AppendLies
import Derived.Deep.RegionLaw
import Derived.Test.YtnagchanokbgdaaGreatJSq1
import Derived.Test.YtnagchanokbgdaaGreatJE6
import Derived.Test.YtnagchanokbgdaaGreatJSTake
namespace Go.Proofs.YtnagchanokbgdaaGreat
open Go.RowKit
structure HX (lo:Nat) (u:World) (G:Nat) (h:Hd) (p:Hp) (R:List Rw):Prop where
 bx:BxA u G 35 (hC h p)
 ge:lo≤G
 hw:HW u lo h p R
section
variable {lo G:Nat} {u v:World} {h:Hd} {p:Hp} {R:List Rw}
theorem HX.up (k:HX lo u G h p R) (hb:Below u.heap.size u v):HX lo v G h p R:=⟨k.bx.up hb,k.ge,k.hw.up hb⟩
theorem own_neB {B e s n:Nat} {x:Value} {xs:List Value} {cs:Array Value} (hr:u.ownsRow B e s x n xs) (X:BxA u G 35 cs) (he:e≠35):x.ownBlock≠some G:=by
 intro hb
 rcases hr.2 with ⟨rfl,_⟩ | ⟨g,cap,cur,rfl,_,hc,_⟩
 ·simp [Value.ownBlock] at hb
 ·simp [Value.ownBlock] at hb
  subst hb
  unfold BxA at X
  rw [hc] at X
  simp at X
  exact he X.2
theorem own_keepG {B e s n:Nat} {x:Value} {xs:List Value} {cs:Array Value} (hr:u.ownsRow B e s x n xs) (X:BxA u G 35 cs) (he:e≠35) (hg:u.grownBy v (some G)):v.ownsRow B e s x n xs :=
 World.ownsRow.kept hr hg (.inr (own_neB hr X he))
theorem RwB.neB {r:Rw} {cs:Array Value} (hr:RwB u r) (X:BxA u G 35 cs):r.g≠G:=by
 obtain ⟨cur,hc⟩:=hr.blk
 intro e
 unfold BxA at X
 rw [e,X] at hc
 simp at hc
theorem FB.keepG {a:Option Addr} {n c:Nat} {cs:Array Value} (hf:FB u lo u.heap.size a n c R) (X:BxA u G 35 cs) (hg:u.grownBy v (some G)):FB v lo v.heap.size a n c R :=
 ⟨hf.len,own_keepG hf.own X (by decide) hg,fun g hx=>Nat.lt_of_lt_of_le (hf.row g hx) hg.size,Nat.le_refl _,fun r hr=>by
  have:=hf.ins r hr
  have h2:=this.1.grown hg (fun e=>this.1.neB X (Option.some.inj e).symm)
  exact ⟨h2,this.2.1,h2.lt⟩,hf.nod⟩
theorem own_keepR {B e s n B' e' s' n':Nat} {x y:Value} {xs ys:List Value} (hr:u.ownsRow B e s x n xs) (hy:u.ownsRow B' e' s' y n' ys) (he:e≠e') (hg:u.grownBy v y.ownBlock):v.ownsRow B e s x n xs:=by
 refine World.ownsRow.kept hr hg ?_
 cases hb:x.ownBlock with
 | none=>exact .inl rfl
 | some b=>exact .inr fun e2=>rowsNe hr hy he b hb e2.symm
theorem RwB.neR {r:Rw} {B' e' s' n':Nat} {y:Value} {ys:List Value} (hr:RwB u r) (hy:u.ownsRow B' e' s' y n' ys) (he:(3:Nat)≠e'):y.ownBlock≠some r.g:=by
 intro hb
 obtain ⟨cur,hc⟩:=hr.blk
 rcases hy.2 with ⟨rfl,_⟩ | ⟨g,cap,cur',rfl,_,hc',_⟩
 ·simp [Value.ownBlock] at hb
 ·simp [Value.ownBlock] at hb
  subst hb
  rw [hc] at hc'
  simp at hc'
  exact he hc'.2
theorem FB.keepR {a:Option Addr} {n c B' e' s' n':Nat} {y:Value} {ys:List Value} (hf:FB u lo u.heap.size a n c R) (hy:u.ownsRow B' e' s' y n' ys) (he:(3:Nat)≠e') (he2:(24:Nat)≠e') (hg:u.grownBy v y.ownBlock):FB v lo v.heap.size a n c R :=
 ⟨hf.len,own_keepR hf.own hy he2 hg,fun g hx=>Nat.lt_of_lt_of_le (hf.row g hx) hg.size,Nat.le_refl _,fun r hr=>by
  have:=hf.ins r hr
  have h2:=this.1.grown hg (this.1.neR hy he)
  exact ⟨h2,this.2.1,h2.lt⟩,hf.nod⟩
abbrev sayP (p:Hp) (g n c:Nat):Hp:=⟨p.o,p.c,p.l,p.n,nilS,⟨some ⟨g,0,none⟩,n,c⟩⟩
theorem HX.said {i o a b s:Int} {w1 x:World} {g c:Nat} (k:HX lo u G h p R) (hl:lo≤u.heap.size) (hb:Below u.heap.size u w1) {y:World} (hg:w1.grownBy y p.s.v.ownBlock) (hs:y.ownsRow lo 82 6 (.slice (some ⟨g,0,none⟩) (p.s.n+1) c) (p.s.n+1) (scells h.said ++ scell ⟨i,i,o,a,b,s⟩))
  (hgG:y.grownBy x (some G)) (X:BxA x G 35 (hC (sayH h i o a b s) (sayP p g (p.s.n+1) c))):HX lo x G (sayH h i o a b s) (sayP p g (p.s.n+1) c) R∧Below lo u x:=by
 have k1:=k.up hb
 have ks:=k1.hw.ow.s
 have bxy:BxA y G 35 (hC h p):=k1.bx.grown hg (own_neB ks k1.bx (by decide))
 have ro:=own_keepG (own_keepR k1.hw.ow.o ks (by decide) hg) bxy (by decide) hgG
 have rc:=own_keepG (own_keepR k1.hw.ow.c ks (by decide) hg) bxy (by decide) hgG
 have rn:=own_keepG (own_keepR k1.hw.ow.n ks (by decide) hg) bxy (by decide) hgG
 have rl:=FB.keepG (FB.keepR k1.hw.ow.l ks (by decide) (by decide) hg) bxy hgG
 have rs:=own_keepG hs bxy (by decide) hgG
 refine ⟨⟨X,k.ge,⟨ro,rc,rl,k.hw.ow.r,rn,World.ownsRow_nil _ _ _ _,?_⟩,⟨k.hw.sp.on,k.hw.sp.orr,k.hw.sp.nr⟩,fun b hb=>by simp [Value.ownBlock]⟩,?_⟩
 ·show x.ownsRow lo 82 6 (.slice (some ⟨g,0,none⟩) (p.s.n+1) c) (p.s.n+1) (scells (h.said ++ [⟨i,i,o,a,b,s⟩]))
  rw [scells_snoc]
  exact rs
 ·have b1:Below lo u w1:=hb.mono hl
  have b2:=b1.grown hg (Nat.le_trans hl hb.size) (fun j hj=>(ks.lt j hj).1)
  exact b2.grown hgG (Nat.le_trans hl b2.size) (fun j hj=>by cases hj;exact k.ge)
end
set_option maxRecDepth 100000 in
set_option maxHeartbeats 8000000 in
theorem pSay_any {lo G:Nat} {h:Hd} {p:Hp} {R:List Rw} (i o a b s:Int) (u:World) (k:HX lo u G h p R) (hl:lo≤u.heap.size) (hn:p.s.n≤1000) :
  Calls Tryz.prog 111 #[.pointer (some ⟨G,0,none⟩),.agg #[.int .i64 i,.int .i64 o,.int .i64 a,.int .i64 b],.int .i64 s] u fun e v=>e=.returned (.int .i64 1)∧(∃ g c,HX lo v G (sayH h i o a b s) (sayP p g (p.s.n+1) c) R)∧Below lo u v:=by
 obtain ⟨i0,hi,hz0,hz1,hz2⟩:=info_parts infoSd
 have HK:=hideIt k
 have lG:G<u.heap.size:=k.bx.lt
 have HL:=hideIt hl
 have x14:u.cell? ⟨G,14,none⟩=some (.slice p.s.a p.s.n p.s.c):=k.bx.cell 14 rfl
 have f14:=k.bx.frozen 14
 have HA:Hid (∀ (y w1:World),Below u.heap.size u y→y.grownBy w1 p.s.v.ownBlock→w1.cell? ⟨G,14,none⟩=some (.slice p.s.a p.s.n p.s.c)∧w1.frozen? ⟨G,14,none⟩=false∧BxA w1 G 35 (hC h p)):=fun y w1 hb hg=>by
  have Y:=(HK.out.up hb).bx.grown hg (own_neB (HK.out.up hb).hw.ow.s (HK.out.up hb).bx (by decide))
  exact ⟨Y.cell 14 rfl,Y.frozen 14,Y⟩
 have b0:Below u.heap.size u ((u.alloc (.cells #[.int .i64 i,.int .i64 o,.int .i64 a,.int .i64 b] 28)).alloc (.cells #[.int .i64 i,.int .i64 i,.int .i64 o,.int .i64 a,.int .i64 b,.int .i64 s] 82)):=(belA _ _).alloc (by simp) _
 have HNw:Hid (((u.alloc (.cells #[.int .i64 i,.int .i64 o,.int .i64 a,.int .i64 b] 28)).alloc (.cells #[.int .i64 i,.int .i64 i,.int .i64 o,.int .i64 a,.int .i64 b,.int .i64 s] 82)).drew.heap[u.heap.size+1]?=some (.cells #[.int .i64 i,.int .i64 i,.int .i64 o,.int .i64 a,.int .i64 b,.int .i64 s] 82 (0,0))∧((u.alloc (.cells #[.int .i64 i,.int .i64 o,.int .i64 a,.int .i64 b] 28)).drew.alloc (.cells #[.int .i64 i,.int .i64 i,.int .i64 o,.int .i64 a,.int .i64 b,.int .i64 s] 82)).heap[u.heap.size+1]?=some (.cells #[.int .i64 i,.int .i64 i,.int .i64 o,.int .i64 a,.int .i64 b,.int .i64 s] 82 (0,0))):=by
  have h:=heap_alloc_new (u.alloc (.cells #[.int .i64 i,.int .i64 o,.int .i64 a,.int .i64 b] 28)) (.cells #[.int .i64 i,.int .i64 i,.int .i64 o,.int .i64 a,.int .i64 b,.int .i64 s] 82)
  rw [show (u.alloc (.cells #[.int .i64 i,.int .i64 o,.int .i64 a,.int .i64 b] 28)).heap.size=u.heap.size+1 by simp] at h
  exact ⟨h,h⟩
 have HBe:Hid (Below u.heap.size u ((u.alloc (.cells #[.int .i64 i,.int .i64 o,.int .i64 a,.int .i64 b] 28)).alloc (.cells #[.int .i64 i,.int .i64 i,.int .i64 o,.int .i64 a,.int .i64 b,.int .i64 s] 82)).drew∧Below u.heap.size u ((u.alloc (.cells #[.int .i64 i,.int .i64 o,.int .i64 a,.int .i64 b] 28)).drew.alloc (.cells #[.int .i64 i,.int .i64 i,.int .i64 o,.int .i64 a,.int .i64 b,.int .i64 s] 82))):=⟨b0.drew,(belA _ _).drew.alloc (by simp) _⟩
 clear k hl b0
 go_enter Tryz.func111,Tryz.ntmps111
 go_wp2
 go_region_law (refine step_append_lies _ (by rfl) _ _ _ (by rfl) lo 82 i0 _ 6 48 Tryz.underlying33 hi hz0 hz1 hz2 rfl (by omega) _ p.s.n (scells h.said) (by rfl) (by first | exact (HK.out.up HBe.out.1).hw.ow.s | exact (HK.out.up HBe.out.2).hw.ow.s) ⟨u.heap.size+1,0,none⟩ 1 1 [.int .i64 i,.int .i64 i,.int .i64 o,.int .i64 a,.int .i64 b,.int .i64 s] (by rfl) (by rfl) (World.news_of_block (cs:=#[.int .i64 i,.int .i64 i,.int .i64 o,.int .i64 a,.int .i64 b,.int .i64 s]) (t:=82) (fr:=(0,0)) (by first | exact HNw.out.1 | exact HNw.out.2)) (by simp [Value.oneCell']) (by omega) (by unfold maxLen;omega) (by omega) (by have:=HL.out;simp;omega) (u.heap.size+2) (by simp) ?_;intro g1 cap1 w1 hown1 hg1 hat1 hlt1;obtain ⟨q14,qf14,Y⟩:=(by first | exact HA.out _ w1 HBe.out.1 hg1 | exact HA.out _ w1 HBe.out.2 hg1:w1.cell? ⟨G,14,none⟩=some (.slice p.s.a p.s.n p.s.c)∧w1.frozen? ⟨G,14,none⟩=false∧BxA w1 G 35 (hC h p)))
 all_goals
  have HSd:Hid (∀ x,w1.grownBy x (some G)→BxA x G 35 (hC (sayH h i o a b s) (sayP p g1 (p.s.n+1) cap1))→HX lo x G (sayH h i o a b s) (sayP p g1 (p.s.n+1) cap1) R∧Below lo u x):=fun x hx X=>by
   first
   | exact HK.out.said HL.out HBe.out.1 hg1 hown1 hx X
   | exact HK.out.said HL.out HBe.out.2 hg1 hown1 hx X
  have hY:=Y.set 14 (.slice (some ⟨g1,0,none⟩) (p.s.n+1) cap1)
  have hZ:BxA (w1.setCell ⟨G,14,none⟩ (.slice (some ⟨g1,0,none⟩) (p.s.n+1) cap1)) G 35 (hC h ⟨p.o,p.c,p.l,p.n,p.e,⟨some ⟨g1,0,none⟩,p.s.n+1,cap1⟩⟩):=hY
  have hG0:=grownSet w1 G 14 (.slice (some ⟨g1,0,none⟩) (p.s.n+1) cap1)
  obtain ⟨W2,hW2⟩:∃ W2,W2=w1.setCell ⟨G,14,none⟩ (.slice (some ⟨g1,0,none⟩) (p.s.n+1) cap1):=⟨_,rfl⟩
  clear hown1 hg1 hat1 HNw HBe HA HK Y hY x14 f14
  go_upto_region 2 with fail
  rw [← hW2] at hZ hG0 ⊢
  clear hW2 q14 qf14
  have z5:=hZ.cell 5 rfl
  have z6:=hZ.cell 6 rfl
  have z7:=hZ.cell 7 rfl
  have z8:=hZ.cell 8 rfl
  have z9:=hZ.cell 9 rfl
  have z10:=hZ.cell 10 rfl
  have z11:=hZ.cell 11 rfl
  have z12:=hZ.cell 12 rfl
  have z13:=hZ.cell 13 rfl
  have fz5:=hZ.frozen 5
  have fz6:=hZ.frozen 6
  have fz7:=hZ.frozen 7
  have fz8:=hZ.frozen 8
  have fz9:=hZ.frozen 9
  have fz10:=hZ.frozen 10
  have fz11:=hZ.frozen 11
  have fz12:=hZ.frozen 12
  have fz13:=hZ.frozen 13
  have XF:=BxA.setA (l:=hLs h ⟨p.o,p.c,p.l,p.n,p.e,⟨some ⟨g1,0,none⟩,p.s.n+1,cap1⟩⟩) hZ 5 [.int .i64 0,.int .i64 0,.int .i64 0,.int .i64 0,.int .i64 0,.int .i64 0,.int .i64 0,.slice none 0 0,.int .i64 0]
  have HFin:=hideIt (HSd.out (setA W2 G 5 [.int .i64 0,.int .i64 0,.int .i64 0,.int .i64 0,.int .i64 0,.int .i64 0,.int .i64 0,.slice none 0 0,.int .i64 0]) (setA_gr w1 G _ 5 W2 hG0) XF)
  clear hZ hG0 HSd XF
  go_wp2
  go_ret
  exact ⟨rfl,⟨g1,cap1,HFin.out.1⟩,HFin.out.2⟩
set_option maxRecDepth 100000 in
set_option maxHeartbeats 8000000 in
theorem sSay_any {lo G:Nat} {h:Hd} {p:Hp} {R:List Rw} (i o a b s:Int) (u:World) (k:HX lo u G h p R) (hl:lo≤u.heap.size) (hn:p.s.n≤1000) :
  Calls Tryz.prog 50 #[.pointer (some ⟨G,0,none⟩),.agg #[.int .i64 i,.int .i64 o,.int .i64 a,.int .i64 b],.int .i64 s] u fun e v=>e=.returned (.tuple #[])∧(∃ g c,HX lo v G (sayH h i o a b s) (sayP p g (p.s.n+1) c) R)∧Below lo u v:=by
 obtain ⟨i0,hi,hz0,hz1,hz2⟩:=info_parts infoSd
 have HK:=hideIt k
 have lG:G<u.heap.size:=k.bx.lt
 have HL:=hideIt hl
 have x14:u.cell? ⟨G,14,none⟩=some (.slice p.s.a p.s.n p.s.c):=k.bx.cell 14 rfl
 have f14:=k.bx.frozen 14
 have HA:Hid (∀ (y w1:World),Below u.heap.size u y→y.grownBy w1 p.s.v.ownBlock→w1.cell? ⟨G,14,none⟩=some (.slice p.s.a p.s.n p.s.c)∧w1.frozen? ⟨G,14,none⟩=false∧BxA w1 G 35 (hC h p)):=fun y w1 hb hg=>by
  have Y:=(HK.out.up hb).bx.grown hg (own_neB (HK.out.up hb).hw.ow.s (HK.out.up hb).bx (by decide))
  exact ⟨Y.cell 14 rfl,Y.frozen 14,Y⟩
 have b0:Below u.heap.size u ((u.alloc (.cells #[.int .i64 i,.int .i64 o,.int .i64 a,.int .i64 b] 28)).alloc (.cells #[.int .i64 i,.int .i64 i,.int .i64 o,.int .i64 a,.int .i64 b,.int .i64 s] 82)):=(belA _ _).alloc (by simp) _
 have HNw:Hid (((u.alloc (.cells #[.int .i64 i,.int .i64 o,.int .i64 a,.int .i64 b] 28)).alloc (.cells #[.int .i64 i,.int .i64 i,.int .i64 o,.int .i64 a,.int .i64 b,.int .i64 s] 82)).drew.heap[u.heap.size+1]?=some (.cells #[.int .i64 i,.int .i64 i,.int .i64 o,.int .i64 a,.int .i64 b,.int .i64 s] 82 (0,0))∧((u.alloc (.cells #[.int .i64 i,.int .i64 o,.int .i64 a,.int .i64 b] 28)).drew.alloc (.cells #[.int .i64 i,.int .i64 i,.int .i64 o,.int .i64 a,.int .i64 b,.int .i64 s] 82)).heap[u.heap.size+1]?=some (.cells #[.int .i64 i,.int .i64 i,.int .i64 o,.int .i64 a,.int .i64 b,.int .i64 s] 82 (0,0))):=by
  have h:=heap_alloc_new (u.alloc (.cells #[.int .i64 i,.int .i64 o,.int .i64 a,.int .i64 b] 28)) (.cells #[.int .i64 i,.int .i64 i,.int .i64 o,.int .i64 a,.int .i64 b,.int .i64 s] 82)
  rw [show (u.alloc (.cells #[.int .i64 i,.int .i64 o,.int .i64 a,.int .i64 b] 28)).heap.size=u.heap.size+1 by simp] at h
  exact ⟨h,h⟩
 have HBe:Hid (Below u.heap.size u ((u.alloc (.cells #[.int .i64 i,.int .i64 o,.int .i64 a,.int .i64 b] 28)).alloc (.cells #[.int .i64 i,.int .i64 i,.int .i64 o,.int .i64 a,.int .i64 b,.int .i64 s] 82)).drew∧Below u.heap.size u ((u.alloc (.cells #[.int .i64 i,.int .i64 o,.int .i64 a,.int .i64 b] 28)).drew.alloc (.cells #[.int .i64 i,.int .i64 i,.int .i64 o,.int .i64 a,.int .i64 b,.int .i64 s] 82))):=⟨b0.drew,(belA _ _).drew.alloc (by simp) _⟩
 clear k hl b0
 go_enter Tryz.func50,Tryz.ntmps50
 go_wp2
 go_region_law (refine step_append_lies _ (by rfl) _ _ _ (by rfl) lo 82 i0 _ 6 48 Tryz.underlying33 hi hz0 hz1 hz2 rfl (by omega) _ p.s.n (scells h.said) (by rfl) (by first | exact (HK.out.up HBe.out.1).hw.ow.s | exact (HK.out.up HBe.out.2).hw.ow.s) ⟨u.heap.size+1,0,none⟩ 1 1 [.int .i64 i,.int .i64 i,.int .i64 o,.int .i64 a,.int .i64 b,.int .i64 s] (by rfl) (by rfl) (World.news_of_block (cs:=#[.int .i64 i,.int .i64 i,.int .i64 o,.int .i64 a,.int .i64 b,.int .i64 s]) (t:=82) (fr:=(0,0)) (by first | exact HNw.out.1 | exact HNw.out.2)) (by simp [Value.oneCell']) (by omega) (by unfold maxLen;omega) (by omega) (by have:=HL.out;simp;omega) (u.heap.size+2) (by simp) ?_;intro g1 cap1 w1 hown1 hg1 hat1 hlt1;obtain ⟨q14,qf14,Y⟩:=(by first | exact HA.out _ w1 HBe.out.1 hg1 | exact HA.out _ w1 HBe.out.2 hg1:w1.cell? ⟨G,14,none⟩=some (.slice p.s.a p.s.n p.s.c)∧w1.frozen? ⟨G,14,none⟩=false∧BxA w1 G 35 (hC h p)))
 all_goals
  have HSd:Hid (∀ x,w1.grownBy x (some G)→BxA x G 35 (hC (sayH h i o a b s) (sayP p g1 (p.s.n+1) cap1))→HX lo x G (sayH h i o a b s) (sayP p g1 (p.s.n+1) cap1) R∧Below lo u x):=fun x hx X=>by
   first
   | exact HK.out.said HL.out HBe.out.1 hg1 hown1 hx X
   | exact HK.out.said HL.out HBe.out.2 hg1 hown1 hx X
  have hY:=Y.set 14 (.slice (some ⟨g1,0,none⟩) (p.s.n+1) cap1)
  have hZ:BxA (w1.setCell ⟨G,14,none⟩ (.slice (some ⟨g1,0,none⟩) (p.s.n+1) cap1)) G 35 (hC h ⟨p.o,p.c,p.l,p.n,p.e,⟨some ⟨g1,0,none⟩,p.s.n+1,cap1⟩⟩):=hY
  have hG0:=grownSet w1 G 14 (.slice (some ⟨g1,0,none⟩) (p.s.n+1) cap1)
  obtain ⟨W2,hW2⟩:∃ W2,W2=w1.setCell ⟨G,14,none⟩ (.slice (some ⟨g1,0,none⟩) (p.s.n+1) cap1):=⟨_,rfl⟩
  clear hown1 hg1 hat1 HNw HBe HA HK Y hY x14 f14
  go_upto_region 2 with fail
  rw [← hW2] at hZ hG0 ⊢
  clear hW2 q14 qf14
  have z5:=hZ.cell 5 rfl
  have z6:=hZ.cell 6 rfl
  have z7:=hZ.cell 7 rfl
  have z8:=hZ.cell 8 rfl
  have z9:=hZ.cell 9 rfl
  have z10:=hZ.cell 10 rfl
  have z11:=hZ.cell 11 rfl
  have z12:=hZ.cell 12 rfl
  have z13:=hZ.cell 13 rfl
  have fz5:=hZ.frozen 5
  have fz6:=hZ.frozen 6
  have fz7:=hZ.frozen 7
  have fz8:=hZ.frozen 8
  have fz9:=hZ.frozen 9
  have fz10:=hZ.frozen 10
  have fz11:=hZ.frozen 11
  have fz12:=hZ.frozen 12
  have fz13:=hZ.frozen 13
  have XF:=BxA.setA (l:=hLs h ⟨p.o,p.c,p.l,p.n,p.e,⟨some ⟨g1,0,none⟩,p.s.n+1,cap1⟩⟩) hZ 5 [.int .i64 0,.int .i64 0,.int .i64 0,.int .i64 0,.int .i64 0,.int .i64 0,.int .i64 0,.slice none 0 0,.int .i64 0]
  have HFin:=hideIt (HSd.out (setA W2 G 5 [.int .i64 0,.int .i64 0,.int .i64 0,.int .i64 0,.int .i64 0,.int .i64 0,.int .i64 0,.slice none 0 0,.int .i64 0]) (setA_gr w1 G _ 5 W2 hG0) XF)
  clear hZ hG0 HSd XF
  go_wp2
  exact bodyPost_end (v:=.tuple #[]) (results_none rfl _ _ _) rfl ⟨rfl,⟨g1,cap1,HFin.out.1⟩,HFin.out.2⟩
abbrev ordP (p:Hp) (e:Sx):Hp:=⟨p.o,p.c,p.l,p.n,e,p.s⟩
theorem HX.ordered {lo G:Nat} {u x:World} {h h':Hd} {p:Hp} {R:List Rw} {e:Sx} (k:HX lo u G h p R) (h1:h'.own=h.own) (h2:h'.cuts=h.cuts) (h3:h'.lab=h.lab) (h4:h'.nums=h.nums) (h5:h'.said=h.said) (hE:u.ownsRow lo 107 2 e.v e.n (O.ecells h'.es)) (hce:∀ b,p.c.v.ownBlock=some b→e.v.ownBlock≠some b)
  (hg:u.grownBy x (some G)) (X:BxA x G 35 (hC h' (ordP p e))):HX lo x G h' (ordP p e) R :=
 ⟨X,k.ge,⟨by rw [h1];exact own_keepG k.hw.ow.o k.bx (by decide) hg,by rw [h2];exact own_keepG k.hw.ow.c k.bx (by decide) hg,FB.keepG k.hw.ow.l k.bx hg,by rw [h3];exact k.hw.ow.r,by rw [h4];exact own_keepG k.hw.ow.n k.bx (by decide) hg,own_keepG hE k.bx (by decide) hg,by rw [h5];exact own_keepG k.hw.ow.s k.bx (by decide) hg⟩,⟨k.hw.sp.on,k.hw.sp.orr,k.hw.sp.nr⟩,hce⟩
set_option maxRecDepth 100000 in
set_option maxHeartbeats 8000000 in
theorem pOrder_any {lo G:Nat} {h:Hd} {p:Hp} {R:List Rw} (i o a b:Int) (s:Nat) (n0 op vv:Int) (es:List O.EdgeV) (aE:Option Addr) (nE cE:Nat) (u:World) (k:HX lo u G h p R) (hl:lo≤u.heap.size) (hs:s<h.nums.length) (hs3:s≤2) (hb1:∀ y ∈ h.nums,0≤y∧y≤1000)
  (hE:u.ownsRow lo 107 2 (.slice aE nE cE) nE (O.ecells es)) (hce:∀ b,p.c.v.ownBlock=some b→(Value.slice aE nE cE).ownBlock≠some b) :
  Calls Tryz.prog 138 #[.pointer (some ⟨G,0,none⟩),.agg #[.int .i64 i,.int .i64 o,.int .i64 a,.int .i64 b],.int .i64 ((s:Int)+1),.agg #[.int .i64 n0,.int .i64 op,.slice aE nE cE,.int .i64 vv]] u fun e v=>e=.returned (.int .i64 2)∧HX lo v G (ordH h i o a b ((s:Int)+1) op es vv) (ordP p ⟨aE,nE,cE⟩) R∧Below lo u v:=by
 obtain ⟨x,hx⟩:=ex0 (O.atI h.nums ((s:Int)+1 - 1))
 have hm:=atI_mem (ls:=h.nums) (v:=(s:Int)+1 - 1) (by omega) (by omega)
 rw [← hx] at hm
 have hxb:=hb1 x hm.1
 have hm2:=hm.2
 rw [show ((s:Int)+1 - 1).toNat=s by omega] at hm2
 have hNl:h.nums.length=p.n.n:=(Is_own k.hw.ow.n).1
 obtain ⟨pO,pC,pL,⟨aN,nN,cN⟩,pE,pS⟩:=p
 dsimp only at hNl
 obtain ⟨bn,on,rfl,hbn,hcn⟩:∃ bn on,aN=some ⟨bn,on,none⟩∧bn<u.heap.size∧u.cell? ⟨bn,on+s,none⟩=some (.int .i64 x):=by
  rcases (Is_own k.hw.ow.n).2 with h0 | ⟨bn,on,e,hb,hc⟩
  ·dsimp only at h0;omega
  ·exact ⟨bn,on,e,hb,hc _ _ hm2⟩
 obtain ⟨W,hW⟩:=ex0 ((u.alloc (.cells #[.int .i64 i,.int .i64 o,.int .i64 a,.int .i64 b] 28)).alloc (.cells #[.int .i64 n0,.int .i64 op,.slice aE nE cE,.int .i64 vv] 30))
 have bW:Below u.heap.size u W:=by rw [hW];exact (belA _ _).alloc (by simp) _
 have XA:BxA W u.heap.size 28 #[.int .i64 i,.int .i64 o,.int .i64 a,.int .i64 b]:=by rw [hW];exact (BxA.new u _ _).up (belA _ _)
 have XO:BxA W (u.heap.size+1) 30 #[.int .i64 n0,.int .i64 op,.slice aE nE cE,.int .i64 vv]:=by
  have:=BxA.new (u.alloc (.cells #[.int .i64 i,.int .i64 o,.int .i64 a,.int .i64 b] 28)) 30 #[.int .i64 n0,.int .i64 op,.slice aE nE cE,.int .i64 vv]
  rw [show (u.alloc (.cells #[.int .i64 i,.int .i64 o,.int .i64 a,.int .i64 b] 28)).heap.size=u.heap.size+1 by simp] at this
  rw [hW];exact this
 have lG:G<u.heap.size:=k.bx.lt
 have HK:=hideIt k
 have HE:=hideIt hE
 have Hce:=hideIt hce
 have HB:=hideIt bW
 have HL:=hideIt hl
 have g4:W.cell? ⟨G,4,none⟩=some (.slice (some ⟨bn,on,none⟩) nN cN):=(k.bx.up bW).cell 4 rfl
 have c0:W.cell? ⟨bn,on+s,none⟩=some (.int .i64 x):=by rw [bW.cell (p:=⟨bn,on+s,none⟩) hbn];exact hcn
 have o0:=XO.cell 0 rfl
 have fo0:=XO.frozen 0
 have HXA:=hideIt XA
 have HXO:=hideIt XO
 have q1:(0:Int)≤(s:Int):=by omega
 have q2:(s:Int)<(nN:Int):=by omega
 have Hx:=hideIt hx
 have w0:wrap64 (s:Int)=(s:Int):=by unfold wrap64;omega
 clear k hl hb1 hE hce hm hm2 hNl hbn hcn bW XA XO hx hs
 go_enter Tryz.func138,Tryz.ntmps138
 go_upto_region 1 with fail
 rw [← hW]
 clear hW
 go_upto_region 2 with fail
 obtain ⟨W2,hW2⟩:=ex0 (W.setCell ⟨u.heap.size+1,0,none⟩ (.int .i64 (x+1)))
 rw [← hW2]
 have b2:Below u.heap.size u W2:=by rw [hW2];exact Below.setCell HB.out (p:=⟨u.heap.size+1,0,none⟩) (by show u.heap.size≤u.heap.size+1;omega) _
 have YA:BxA W2 u.heap.size 28 #[.int .i64 i,.int .i64 o,.int .i64 a,.int .i64 b]:=by rw [hW2];exact HXA.out.setO _ (by omega)
 have YO:BxA W2 (u.heap.size+1) 30 #[.int .i64 (x+1),.int .i64 op,.slice aE nE cE,.int .i64 vv]:=by rw [hW2];exact HXO.out.set 0 _
 have k2:=HK.out.up b2
 have y0:=YA.cell 0 rfl
 have y1:=YA.cell 1 rfl
 have y2:=YA.cell 2 rfl
 have y3:=YA.cell 3 rfl
 have i0:=YO.cell 0 rfl
 have i1:=YO.cell 1 rfl
 have i2:=YO.cell 2 rfl
 have i3:=YO.cell 3 rfl
 have z5:=k2.bx.cell 5 rfl
 have z6:=k2.bx.cell 6 rfl
 have z7:=k2.bx.cell 7 rfl
 have z8:=k2.bx.cell 8 rfl
 have z9:=k2.bx.cell 9 rfl
 have z10:=k2.bx.cell 10 rfl
 have z11:=k2.bx.cell 11 rfl
 have z12:=k2.bx.cell 12 rfl
 have z13:=k2.bx.cell 13 rfl
 have fz5:=k2.bx.frozen 5
 have fz6:=k2.bx.frozen 6
 have fz7:=k2.bx.frozen 7
 have fz8:=k2.bx.frozen 8
 have fz9:=k2.bx.frozen 9
 have fz10:=k2.bx.frozen 10
 have fz11:=k2.bx.frozen 11
 have fz12:=k2.bx.frozen 12
 have fz13:=k2.bx.frozen 13
 have XF:=BxA.setA (l:=hLs h ⟨pO,pC,pL,⟨some ⟨bn,on,none⟩,nN,cN⟩,pE,pS⟩) k2.bx 5 [.int .i64 i,.int .i64 o,.int .i64 a,.int .i64 b,.int .i64 ((s:Int)+1),.int .i64 (x+1),.int .i64 op,.slice aE nE cE,.int .i64 vv]
 have hgr:=setA_gr W2 G [.int .i64 i,.int .i64 o,.int .i64 a,.int .i64 b,.int .i64 ((s:Int)+1),.int .i64 (x+1),.int .i64 op,.slice aE nE cE,.int .i64 vv] 5 W2 (gr_self W2 _)
 have HFin:=hideIt (k2.ordered (h':=ordH h i o a b ((s:Int)+1) op es vv) (e:=⟨aE,nE,cE⟩) rfl rfl rfl rfl rfl (own_up HE.out b2) Hce.out hgr (by
  have e:ordH h i o a b ((s:Int)+1) op es vv=⟨h.N,h.own,h.cuts,h.lab,h.nums,i,o,a,b,(s:Int)+1,x+1,op,es,vv,h.said⟩:=by rw [Hx.out];rfl
  rw [e]
  exact XF))
 have HBl:=hideIt (below_grB (C:=lo) (b2.mono HL.out) hgr HK.out.ge HL.out)
 clear hW2 b2 YA YO k2 XF hgr HK HE Hce HB HXA HXO g4 c0 o0 fo0
 go_wp2
 go_ret
 exact ⟨rfl,HFin.out,HBl.out⟩
set_option maxRecDepth 100000 in
set_option maxHeartbeats 8000000 in
theorem sTask_any {lo G:Nat} {h:Hd} {p:Hp} {R:List Rw} (i o a b:Int) (s:Nat) (n0 op vv:Int) (es:List O.EdgeV) (aE:Option Addr) (nE cE:Nat) (u:World) (k:HX lo u G h p R) (hl:lo≤u.heap.size) (hs:s<h.nums.length) (hs3:s≤2) (hb1:∀ y ∈ h.nums,0≤y∧y≤1000)
  (hE:u.ownsRow lo 107 2 (.slice aE nE cE) nE (O.ecells es)) (hce:∀ b,p.c.v.ownBlock=some b→(Value.slice aE nE cE).ownBlock≠some b) :
  Calls Tryz.prog 52 #[.pointer (some ⟨G,0,none⟩),.agg #[.int .i64 i,.int .i64 o,.int .i64 a,.int .i64 b],.int .i64 ((s:Int)+1),.agg #[.int .i64 n0,.int .i64 op,.slice aE nE cE,.int .i64 vv]] u fun e v=>e=.returned (.int .i64 2)∧HX lo v G (ordH h i o a b ((s:Int)+1) op es vv) (ordP p ⟨aE,nE,cE⟩) R∧Below lo u v∧∀ b,b<u.heap.size→b≠G→v.heap[b]?=u.heap[b]?:=by
 obtain ⟨x,hx⟩:=ex0 (O.atI h.nums ((s:Int)+1 - 1))
 have hm:=atI_mem (ls:=h.nums) (v:=(s:Int)+1 - 1) (by omega) (by omega)
 rw [← hx] at hm
 have hxb:=hb1 x hm.1
 have hm2:=hm.2
 rw [show ((s:Int)+1 - 1).toNat=s by omega] at hm2
 have hNl:h.nums.length=p.n.n:=(Is_own k.hw.ow.n).1
 obtain ⟨pO,pC,pL,⟨aN,nN,cN⟩,pE,pS⟩:=p
 dsimp only at hNl
 obtain ⟨bn,on,rfl,hbn,hcn⟩:∃ bn on,aN=some ⟨bn,on,none⟩∧bn<u.heap.size∧u.cell? ⟨bn,on+s,none⟩=some (.int .i64 x):=by
  rcases (Is_own k.hw.ow.n).2 with h0 | ⟨bn,on,e,hb,hc⟩
  ·dsimp only at h0;omega
  ·exact ⟨bn,on,e,hb,hc _ _ hm2⟩
 obtain ⟨W,hW⟩:=ex0 ((u.alloc (.cells #[.int .i64 i,.int .i64 o,.int .i64 a,.int .i64 b] 28)).alloc (.cells #[.int .i64 n0,.int .i64 op,.slice aE nE cE,.int .i64 vv] 30))
 have bW:Below u.heap.size u W:=by rw [hW];exact (belA _ _).alloc (by simp) _
 have XA:BxA W u.heap.size 28 #[.int .i64 i,.int .i64 o,.int .i64 a,.int .i64 b]:=by rw [hW];exact (BxA.new u _ _).up (belA _ _)
 have XO:BxA W (u.heap.size+1) 30 #[.int .i64 n0,.int .i64 op,.slice aE nE cE,.int .i64 vv]:=by
  have:=BxA.new (u.alloc (.cells #[.int .i64 i,.int .i64 o,.int .i64 a,.int .i64 b] 28)) 30 #[.int .i64 n0,.int .i64 op,.slice aE nE cE,.int .i64 vv]
  rw [show (u.alloc (.cells #[.int .i64 i,.int .i64 o,.int .i64 a,.int .i64 b] 28)).heap.size=u.heap.size+1 by simp] at this
  rw [hW];exact this
 have lG:G<u.heap.size:=k.bx.lt
 have HK:=hideIt k
 have HE:=hideIt hE
 have Hce:=hideIt hce
 have HB:=hideIt bW
 have HL:=hideIt hl
 have g4:W.cell? ⟨G,4,none⟩=some (.slice (some ⟨bn,on,none⟩) nN cN):=(k.bx.up bW).cell 4 rfl
 have c0:W.cell? ⟨bn,on+s,none⟩=some (.int .i64 x):=by rw [bW.cell (p:=⟨bn,on+s,none⟩) hbn];exact hcn
 have o0:=XO.cell 0 rfl
 have fo0:=XO.frozen 0
 have HXA:=hideIt XA
 have HXO:=hideIt XO
 have q1:(0:Int)≤(s:Int):=by omega
 have q2:(s:Int)<(nN:Int):=by omega
 have Hx:=hideIt hx
 have w0:wrap64 (s:Int)=(s:Int):=by unfold wrap64;omega
 clear k hl hb1 hE hce hm hm2 hNl hbn hcn bW XA XO hx hs
 go_enter Tryz.func52,Tryz.ntmps52
 go_upto_region 1 with fail
 rw [← hW]
 clear hW
 go_upto_region 2 with fail
 obtain ⟨W2,hW2⟩:=ex0 (W.setCell ⟨u.heap.size+1,0,none⟩ (.int .i64 (x+1)))
 rw [← hW2]
 have b2:Below u.heap.size u W2:=by rw [hW2];exact Below.setCell HB.out (p:=⟨u.heap.size+1,0,none⟩) (by show u.heap.size≤u.heap.size+1;omega) _
 have YA:BxA W2 u.heap.size 28 #[.int .i64 i,.int .i64 o,.int .i64 a,.int .i64 b]:=by rw [hW2];exact HXA.out.setO _ (by omega)
 have YO:BxA W2 (u.heap.size+1) 30 #[.int .i64 (x+1),.int .i64 op,.slice aE nE cE,.int .i64 vv]:=by rw [hW2];exact HXO.out.set 0 _
 have k2:=HK.out.up b2
 have y0:=YA.cell 0 rfl
 have y1:=YA.cell 1 rfl
 have y2:=YA.cell 2 rfl
 have y3:=YA.cell 3 rfl
 have i0:=YO.cell 0 rfl
 have i1:=YO.cell 1 rfl
 have i2:=YO.cell 2 rfl
 have i3:=YO.cell 3 rfl
 have z5:=k2.bx.cell 5 rfl
 have z6:=k2.bx.cell 6 rfl
 have z7:=k2.bx.cell 7 rfl
 have z8:=k2.bx.cell 8 rfl
 have z9:=k2.bx.cell 9 rfl
 have z10:=k2.bx.cell 10 rfl
 have z11:=k2.bx.cell 11 rfl
 have z12:=k2.bx.cell 12 rfl
 have z13:=k2.bx.cell 13 rfl
 have fz5:=k2.bx.frozen 5
 have fz6:=k2.bx.frozen 6
 have fz7:=k2.bx.frozen 7
 have fz8:=k2.bx.frozen 8
 have fz9:=k2.bx.frozen 9
 have fz10:=k2.bx.frozen 10
 have fz11:=k2.bx.frozen 11
 have fz12:=k2.bx.frozen 12
 have fz13:=k2.bx.frozen 13
 have XF:=BxA.setA (l:=hLs h ⟨pO,pC,pL,⟨some ⟨bn,on,none⟩,nN,cN⟩,pE,pS⟩) k2.bx 5 [.int .i64 i,.int .i64 o,.int .i64 a,.int .i64 b,.int .i64 ((s:Int)+1),.int .i64 (x+1),.int .i64 op,.slice aE nE cE,.int .i64 vv]
 have hgr:=setA_gr W2 G [.int .i64 i,.int .i64 o,.int .i64 a,.int .i64 b,.int .i64 ((s:Int)+1),.int .i64 (x+1),.int .i64 op,.slice aE nE cE,.int .i64 vv] 5 W2 (gr_self W2 _)
 have HFin:=hideIt (k2.ordered (h':=ordH h i o a b ((s:Int)+1) op es vv) (e:=⟨aE,nE,cE⟩) rfl rfl rfl rfl rfl (own_up HE.out b2) Hce.out hgr (by
  have e:ordH h i o a b ((s:Int)+1) op es vv=⟨h.N,h.own,h.cuts,h.lab,h.nums,i,o,a,b,(s:Int)+1,x+1,op,es,vv,h.said⟩:=by rw [Hx.out];rfl
  rw [e]
  exact XF))
 have HBl:=hideIt (below_grB (C:=lo) (b2.mono HL.out) hgr HK.out.ge HL.out)
 have HEx:=hideIt (fun b (h1:b<u.heap.size) (h2:b≠G)=>(hgr.block b (Nat.lt_of_lt_of_le h1 b2.size) (fun e=>h2 (Option.some.inj e))).trans (b2.block b h1))
 clear hW2 b2 YA YO k2 XF hgr HK HE Hce HB HXA HXO g4 c0 o0 fo0
 go_wp2
 go_ret
 exact ⟨rfl,HFin.out,HBl.out,HEx.out⟩
def edA (xa xb:Int):O.EdgeV:=(min xa xb,max xa xb)
theorem askEdge_any (xi xo xa xb:Int) (w:World):Calls Tryz.prog 150 #[.agg #[.int .i64 xi,.int .i64 xo,.int .i64 xa,.int .i64 xb]] w fun e w'=>e=.returned (.agg #[.int .i64 (edA xa xb).1,.int .i64 (edA xa xb).2])∧Below w.heap.size w w':=by
 go_enter Tryz.func150,Tryz.ntmps150
 go_wp2
 exact bodyPost_ret (v:=.agg #[.int .i64 (min xa xb),.int .i64 (max xa xb)]) (by simp [results,Tryz.results150,go_sem]) rfl ⟨rfl,((Below.refl _ _).alloc (Nat.le_refl _) _).alloc (by simp) _⟩
theorem l12Edge_any (xi xo xa xb:Int) (w:World):Calls Tryz.prog 77 #[.agg #[.int .i64 xi,.int .i64 xo,.int .i64 xa,.int .i64 xb]] w fun e w'=>e=.returned (.agg #[.int .i64 (edA xa xb).1,.int .i64 (edA xa xb).2])∧Below w.heap.size w w':=by
 by_cases h:xa<xb
 ·have d1:decide (xa<xb)=true:=decide_eq_true h
  have e1:edA xa xb=(xa,xb):=by unfold edA;rw [Int.min_eq_left (by omega),Int.max_eq_right (by omega)]
  rw [e1]
  clear h e1
  go_enter Tryz.func77,Tryz.ntmps77
  go_wp2
  exact bodyPost_ret (v:=.agg #[.int .i64 xa,.int .i64 xb]) (by simp [results,Tryz.results77,go_sem]) rfl ⟨rfl,((Below.refl _ _).alloc (Nat.le_refl _) _).alloc (by simp) _⟩
 ·have d1:decide (xa<xb)=false:=decide_eq_false h
  have e1:edA xa xb=(xb,xa):=by unfold edA;rw [Int.min_eq_right (by omega),Int.max_eq_left (by omega)]
  rw [e1]
  clear h e1
  go_enter Tryz.func77,Tryz.ntmps77
  go_wp2
  exact bodyPost_ret (v:=.agg #[.int .i64 xb,.int .i64 xa]) (by simp [results,Tryz.results77,go_sem]) rfl ⟨rfl,((Below.refl _ _).alloc (Nat.le_refl _) _).alloc (by simp) _⟩
theorem exec_loadH {o:Oper} {a:Act} {w:World} {x:Operand} {b:Nat} {h:Hd} {p:Hp} (ho:o.op=.load 35 x) (hx:a.eval x=.pointer (some ⟨b,0,none⟩)) (X:BxA w b 35 (hC h p)):(execOp a.eval o).run Tryz.prog w=.ok (.value (.agg (hC h p))) w:=by
 unfold execOp
 simp only [ho,hx,Instr.loadAt,Instr.sureAddr,Sem.run_bind,Sem.run_pure,Result.andThen_ok,run_loadVar_mid (P:=Tryz.prog) w b 0 35 (hLs h p) _ (BxA.range X) Tryz.underlying35 rfl (by kernel_rfl)]
set_option maxRecDepth 100000 in
set_option maxHeartbeats 4000000 in
theorem ms8t1 {G:Nat} {h:Hd} {p:Hp} (i a b:Int) (e0:(a == b)=false) (ha:0≤a∧a<h.N) (vb:Bool) (hvb:decide (0≤b∧b<h.N)=vb)  (w:World) (X:BxA w G 35 (hC h p)) :
  Calls Tryz.prog 110 #[.pointer (some ⟨G,0,none⟩),.agg #[.int .i64 i,.int .i64 1,.int .i64 a,.int .i64 b]] w fun e w'=>e=.returned (.bool vb)∧Below w.heap.size w w':=by
 obtain ⟨W,hW⟩:=ex0 (w.alloc (.cells #[.int .i64 i,.int .i64 1,.int .i64 a,.int .i64 b] 28))
 have bW:Below w.heap.size w W:=by rw [hW];exact belA _ _
 have XA:BxA W w.heap.size 28 #[.int .i64 i,.int .i64 1,.int .i64 a,.int .i64 b]:=by rw [hW];exact BxA.new _ _ _
 have HB:=hideIt bW
 have HX:=hideIt (X.up bW)
 have HXA:=hideIt XA
 have HS:Hid (∀ u,Below W.heap.size W u→BxA u G 35 (hC h p)∧u.cell? ⟨w.heap.size,2,none⟩=some (.int .i64 a)∧u.cell? ⟨w.heap.size,3,none⟩=some (.int .i64 b)):=fun u hu=>⟨HX.out.up hu,(HXA.out.up hu).cell 2 rfl,(HXA.out.up hu).cell 3 rfl⟩
 have c0:=Below.refl W.heap.size W
 have x1:=XA.cell 1 rfl
 have x2:=XA.cell 2 rfl
 have x3:=XA.cell 3 rfl
 clear X XA bW
 have HVa:Hid (∀ u,Below W.heap.size W u→Calls Tryz.prog 133 #[.agg (hC h p),.int .i64 a] u fun e v=>e=.returned (.bool true)∧Below W.heap.size W v):=fun u hu=>(hasVertex_any h _ a u).mono fun e v ⟨h1,h2⟩=>⟨by rw [h1,decide_eq_true ha],hu.trans (h2.mono hu.size)⟩
 clear ha
 have HVb:Hid (∀ u,Below W.heap.size W u→Calls Tryz.prog 133 #[.agg (hC h p),.int .i64 b] u fun e v=>e=.returned (.bool vb)∧Below W.heap.size W v):=fun u hu=>(hasVertex_any h _ b u).mono fun e v ⟨h1,h2⟩=>⟨by rw [h1,hvb],hu.trans (h2.mono hu.size)⟩
 clear hvb
 go_enter Tryz.func110,Tryz.ntmps110
 go_upto_region 1 with fail
 rw [← hW]
 clear hW
 go_upto_region 8 with fail
 refine wp_region_held_drew (S:=(fun u=>BxA u G 35 (hC h p)∧u.cell? ⟨w.heap.size,2,none⟩=some (.int .i64 a)∧u.cell? ⟨w.heap.size,3,none⟩=some (.int .i64 b))) (by kernel_rfl) (HS.out _ c0.drew) (fun hHeld=>?_)
 refine tq0 (i:=0) (v:=?_) rfl ?_ (by assumption) ?_
 rotate_left
 ·intro w hSw;obtain ⟨_,za,zb⟩:=hSw;go_simp;try with_reducible rfl
 try simp only [Act.put,pU0]
 refine tq0 (i:=1) (v:=?_) rfl ?_ (by assumption) ?_
 rotate_left
 ·intro w hSw;obtain ⟨_,za,zb⟩:=hSw;go_simp;try with_reducible rfl
 try simp only [Act.put,pU0]
 refine tq0 (i:=2) (v:=.agg (hC h p)) rfl (fun w hSw=>exec_loadH rfl rfl hSw.1) (by assumption) ?_
 try simp only [Act.put,pU0]
 refine tq0 (i:=3) (v:=?_) rfl ?_ (by assumption) ?_
 rotate_left
 ·intro w hSw;obtain ⟨_,za,zb⟩:=hSw;go_simp;try with_reducible rfl
 try simp only [Act.put,pU0]
 refine tq0 (i:=4) (v:=?_) rfl ?_ (by assumption) ?_
 rotate_left
 ·intro w hSw;obtain ⟨_,za,zb⟩:=hSw;go_simp;try with_reducible rfl
 try simp only [Act.put,pU0]
 refine wr0 (i:=5) rfl (fun K hK=>?_)
 rw [if_pos]
 rotate_left
 ·kernel_rfl
 go_wp2_with (go_at_call 133;refine (HVa.out _ c0.drew).mono ?_;rintro e w2 ⟨rfl,c2⟩;refine Hid.out ?_)
 refine hidp20 ?_
 refine hK.out _ _ (HS.out _ c2) (fun hHeld=>?_)
 clear hK K
 try simp only [Act.put,pU0]
 refine tq0 (i:=6) (v:=?_) rfl ?_ (by assumption) ?_
 rotate_left
 ·intro w hSw;obtain ⟨_,za,zb⟩:=hSw;go_simp;try with_reducible rfl
 try simp only [Act.put,pU0]
 refine tq0 (i:=7) (v:=?_) rfl ?_ (by assumption) ?_
 rotate_left
 ·intro w hSw;obtain ⟨_,za,zb⟩:=hSw;go_simp;try with_reducible rfl
 try simp only [Act.put,pU0]
 refine tq0 (i:=8) (v:=?_) rfl ?_ (by assumption) ?_
 rotate_left
 ·intro w hSw;obtain ⟨_,za,zb⟩:=hSw;go_simp;try with_reducible rfl
 try simp only [Act.put,pU0]
 refine tq0 (i:=9) (v:=.agg (hC h p)) rfl (fun w hSw=>exec_loadH rfl rfl hSw.1) (by assumption) ?_
 try simp only [Act.put,pU0]
 refine tq0 (i:=10) (v:=?_) rfl ?_ (by assumption) ?_
 rotate_left
 ·intro w hSw;obtain ⟨_,za,zb⟩:=hSw;go_simp;try with_reducible rfl
 try simp only [Act.put,pU0]
 refine tq0 (i:=11) (v:=?_) rfl ?_ (by assumption) ?_
 rotate_left
 ·intro w hSw;obtain ⟨_,za,zb⟩:=hSw;go_simp;try with_reducible rfl
 try simp only [Act.put,pU0]
 refine wr0 (i:=12) rfl (fun K hK=>?_)
 rw [if_pos]
 rotate_left
 ·kernel_rfl
 go_wp2_with (go_at_call 133;refine (HVb.out _ c2).mono ?_;rintro e w3 ⟨rfl,c3⟩;refine Hid.out ?_)
 refine hidp20 ?_
 refine hK.out _ _ (HS.out _ c3) (fun hHeld=>?_)
 clear hK K
 try simp only [Act.put,pU0]
 refine tq0 (i:=13) (v:=?_) rfl ?_ (by assumption) ?_
 rotate_left
 ·intro w hSw;obtain ⟨_,za,zb⟩:=hSw;go_simp;try with_reducible rfl
 try simp only [Act.put,pU0]
 refine tq0 (i:=14) (v:=?_) rfl ?_ (by assumption) ?_
 rotate_left
 ·intro w hSw;obtain ⟨_,za,zb⟩:=hSw;go_simp;try with_reducible rfl
 try simp only [Act.put,pU0]
 refine wpAnyH_done (by kernel_rfl) ?_ _
 go_wp2
 go_ret
 exact ⟨rfl,HB.out.trans (c3.mono HB.out.size)⟩
set_option maxRecDepth 100000 in
set_option maxHeartbeats 4000000 in
theorem ms8f1 {G:Nat} {h:Hd} {p:Hp} (i a b:Int) (e0:(a == b)=false) (ha:¬ (0≤a∧a<h.N))  (w:World) (X:BxA w G 35 (hC h p)) :
  Calls Tryz.prog 110 #[.pointer (some ⟨G,0,none⟩),.agg #[.int .i64 i,.int .i64 1,.int .i64 a,.int .i64 b]] w fun e w'=>e=.returned (.bool false)∧Below w.heap.size w w':=by
 obtain ⟨W,hW⟩:=ex0 (w.alloc (.cells #[.int .i64 i,.int .i64 1,.int .i64 a,.int .i64 b] 28))
 have bW:Below w.heap.size w W:=by rw [hW];exact belA _ _
 have XA:BxA W w.heap.size 28 #[.int .i64 i,.int .i64 1,.int .i64 a,.int .i64 b]:=by rw [hW];exact BxA.new _ _ _
 have HB:=hideIt bW
 have HX:=hideIt (X.up bW)
 have HXA:=hideIt XA
 have HS:Hid (∀ u,Below W.heap.size W u→BxA u G 35 (hC h p)∧u.cell? ⟨w.heap.size,2,none⟩=some (.int .i64 a)∧u.cell? ⟨w.heap.size,3,none⟩=some (.int .i64 b)):=fun u hu=>⟨HX.out.up hu,(HXA.out.up hu).cell 2 rfl,(HXA.out.up hu).cell 3 rfl⟩
 have c0:=Below.refl W.heap.size W
 have x1:=XA.cell 1 rfl
 have x2:=XA.cell 2 rfl
 have x3:=XA.cell 3 rfl
 clear X XA bW
 have HVa:Hid (∀ u,Below W.heap.size W u→Calls Tryz.prog 133 #[.agg (hC h p),.int .i64 a] u fun e v=>e=.returned (.bool false)∧Below W.heap.size W v):=fun u hu=>(hasVertex_any h _ a u).mono fun e v ⟨h1,h2⟩=>⟨by rw [h1,decide_eq_false ha],hu.trans (h2.mono hu.size)⟩
 clear ha
 go_enter Tryz.func110,Tryz.ntmps110
 go_upto_region 1 with fail
 rw [← hW]
 clear hW
 go_upto_region 8 with fail
 refine wp_region_held_drew (S:=(fun u=>BxA u G 35 (hC h p)∧u.cell? ⟨w.heap.size,2,none⟩=some (.int .i64 a)∧u.cell? ⟨w.heap.size,3,none⟩=some (.int .i64 b))) (by kernel_rfl) (HS.out _ c0.drew) (fun hHeld=>?_)
 refine tq0 (i:=0) (v:=?_) rfl ?_ (by assumption) ?_
 rotate_left
 ·intro w hSw;obtain ⟨_,za,zb⟩:=hSw;go_simp;try with_reducible rfl
 try simp only [Act.put,pU0]
 refine tq0 (i:=1) (v:=?_) rfl ?_ (by assumption) ?_
 rotate_left
 ·intro w hSw;obtain ⟨_,za,zb⟩:=hSw;go_simp;try with_reducible rfl
 try simp only [Act.put,pU0]
 refine tq0 (i:=2) (v:=.agg (hC h p)) rfl (fun w hSw=>exec_loadH rfl rfl hSw.1) (by assumption) ?_
 try simp only [Act.put,pU0]
 refine tq0 (i:=3) (v:=?_) rfl ?_ (by assumption) ?_
 rotate_left
 ·intro w hSw;obtain ⟨_,za,zb⟩:=hSw;go_simp;try with_reducible rfl
 try simp only [Act.put,pU0]
 refine tq0 (i:=4) (v:=?_) rfl ?_ (by assumption) ?_
 rotate_left
 ·intro w hSw;obtain ⟨_,za,zb⟩:=hSw;go_simp;try with_reducible rfl
 try simp only [Act.put,pU0]
 refine wr0 (i:=5) rfl (fun K hK=>?_)
 rw [if_pos]
 rotate_left
 ·kernel_rfl
 go_wp2_with (go_at_call 133;refine (HVa.out _ c0.drew).mono ?_;rintro e w2 ⟨rfl,c2⟩;refine Hid.out ?_)
 refine hidp20 ?_
 refine hK.out _ _ (HS.out _ c2) (fun hHeld=>?_)
 clear hK K
 try simp only [Act.put,pU0]
 refine tq0 (i:=6) (v:=?_) rfl ?_ (by assumption) ?_
 rotate_left
 ·intro w hSw;obtain ⟨_,za,zb⟩:=hSw;go_simp;try with_reducible rfl
 try simp only [Act.put,pU0]
 refine wpAnyH_take (i:=7) rfl (by kernel_rfl) (by kernel_rfl) (by kernel_rfl) (fun _ _ _ h=>h) (Or.inr ⟨by kernel_rfl,rfl⟩) (by assumption) ?_
 refine wpAnyH_take (i:=8) rfl (by kernel_rfl) (by kernel_rfl) (by kernel_rfl) (fun _ _ _ h=>h) (Or.inr ⟨by kernel_rfl,rfl⟩) (by assumption) ?_
 refine wpAnyH_take (i:=9) rfl (by kernel_rfl) (by kernel_rfl) (by kernel_rfl) (fun _ _ _ h=>h) (Or.inr ⟨by kernel_rfl,rfl⟩) (by assumption) ?_
 refine wpAnyH_take (i:=10) rfl (by kernel_rfl) (by kernel_rfl) (by kernel_rfl) (fun _ _ _ h=>h) (Or.inr ⟨by kernel_rfl,rfl⟩) (by assumption) ?_
 refine wpAnyH_take (i:=11) rfl (by kernel_rfl) (by kernel_rfl) (by kernel_rfl) (fun _ _ _ h=>h) (Or.inr ⟨by kernel_rfl,rfl⟩) (by assumption) ?_
 refine wpAnyH_take (i:=12) rfl (by kernel_rfl) (by kernel_rfl) (by kernel_rfl) (fun _ _ _ h=>h) (Or.inr ⟨by kernel_rfl,rfl⟩) (by assumption) ?_
 refine tq0 (i:=13) (v:=?_) rfl ?_ (by assumption) ?_
 rotate_left
 ·intro w hSw;obtain ⟨_,za,zb⟩:=hSw;go_simp;try with_reducible rfl
 try simp only [Act.put,pU0]
 refine tq0 (i:=14) (v:=?_) rfl ?_ (by assumption) ?_
 rotate_left
 ·intro w hSw;obtain ⟨_,za,zb⟩:=hSw;go_simp;try with_reducible rfl
 try simp only [Act.put,pU0]
 refine wpAnyH_done (by kernel_rfl) ?_ _
 go_wp2
 go_ret
 exact ⟨rfl,HB.out.trans (c2.mono HB.out.size)⟩
set_option maxRecDepth 100000 in
set_option maxHeartbeats 4000000 in
theorem ms8t2 {G:Nat} {h:Hd} {p:Hp} (i a b:Int) (e0:(a == b)=false) (ha:0≤a∧a<h.N) (vb:Bool) (hvb:decide (0≤b∧b<h.N)=vb)  (w:World) (X:BxA w G 35 (hC h p)) :
  Calls Tryz.prog 110 #[.pointer (some ⟨G,0,none⟩),.agg #[.int .i64 i,.int .i64 2,.int .i64 a,.int .i64 b]] w fun e w'=>e=.returned (.bool vb)∧Below w.heap.size w w':=by
 obtain ⟨W,hW⟩:=ex0 (w.alloc (.cells #[.int .i64 i,.int .i64 2,.int .i64 a,.int .i64 b] 28))
 have bW:Below w.heap.size w W:=by rw [hW];exact belA _ _
 have XA:BxA W w.heap.size 28 #[.int .i64 i,.int .i64 2,.int .i64 a,.int .i64 b]:=by rw [hW];exact BxA.new _ _ _
 have HB:=hideIt bW
 have HX:=hideIt (X.up bW)
 have HXA:=hideIt XA
 have HS:Hid (∀ u,Below W.heap.size W u→BxA u G 35 (hC h p)∧u.cell? ⟨w.heap.size,2,none⟩=some (.int .i64 a)∧u.cell? ⟨w.heap.size,3,none⟩=some (.int .i64 b)):=fun u hu=>⟨HX.out.up hu,(HXA.out.up hu).cell 2 rfl,(HXA.out.up hu).cell 3 rfl⟩
 have c0:=Below.refl W.heap.size W
 have x1:=XA.cell 1 rfl
 have x2:=XA.cell 2 rfl
 have x3:=XA.cell 3 rfl
 clear X XA bW
 have HVa:Hid (∀ u,Below W.heap.size W u→Calls Tryz.prog 133 #[.agg (hC h p),.int .i64 a] u fun e v=>e=.returned (.bool true)∧Below W.heap.size W v):=fun u hu=>(hasVertex_any h _ a u).mono fun e v ⟨h1,h2⟩=>⟨by rw [h1,decide_eq_true ha],hu.trans (h2.mono hu.size)⟩
 clear ha
 have HVb:Hid (∀ u,Below W.heap.size W u→Calls Tryz.prog 133 #[.agg (hC h p),.int .i64 b] u fun e v=>e=.returned (.bool vb)∧Below W.heap.size W v):=fun u hu=>(hasVertex_any h _ b u).mono fun e v ⟨h1,h2⟩=>⟨by rw [h1,hvb],hu.trans (h2.mono hu.size)⟩
 clear hvb
 go_enter Tryz.func110,Tryz.ntmps110
 go_upto_region 1 with fail
 rw [← hW]
 clear hW
 go_upto_region 8 with fail
 refine wp_region_held_drew (S:=(fun u=>BxA u G 35 (hC h p)∧u.cell? ⟨w.heap.size,2,none⟩=some (.int .i64 a)∧u.cell? ⟨w.heap.size,3,none⟩=some (.int .i64 b))) (by kernel_rfl) (HS.out _ c0.drew) (fun hHeld=>?_)
 refine tq0 (i:=0) (v:=?_) rfl ?_ (by assumption) ?_
 rotate_left
 ·intro w hSw;obtain ⟨_,za,zb⟩:=hSw;go_simp;try with_reducible rfl
 try simp only [Act.put,pU0]
 refine tq0 (i:=1) (v:=?_) rfl ?_ (by assumption) ?_
 rotate_left
 ·intro w hSw;obtain ⟨_,za,zb⟩:=hSw;go_simp;try with_reducible rfl
 try simp only [Act.put,pU0]
 refine tq0 (i:=2) (v:=.agg (hC h p)) rfl (fun w hSw=>exec_loadH rfl rfl hSw.1) (by assumption) ?_
 try simp only [Act.put,pU0]
 refine tq0 (i:=3) (v:=?_) rfl ?_ (by assumption) ?_
 rotate_left
 ·intro w hSw;obtain ⟨_,za,zb⟩:=hSw;go_simp;try with_reducible rfl
 try simp only [Act.put,pU0]
 refine tq0 (i:=4) (v:=?_) rfl ?_ (by assumption) ?_
 rotate_left
 ·intro w hSw;obtain ⟨_,za,zb⟩:=hSw;go_simp;try with_reducible rfl
 try simp only [Act.put,pU0]
 refine wr0 (i:=5) rfl (fun K hK=>?_)
 rw [if_pos]
 rotate_left
 ·kernel_rfl
 go_wp2_with (go_at_call 133;refine (HVa.out _ c0.drew).mono ?_;rintro e w2 ⟨rfl,c2⟩;refine Hid.out ?_)
 refine hidp20 ?_
 refine hK.out _ _ (HS.out _ c2) (fun hHeld=>?_)
 clear hK K
 try simp only [Act.put,pU0]
 refine tq0 (i:=6) (v:=?_) rfl ?_ (by assumption) ?_
 rotate_left
 ·intro w hSw;obtain ⟨_,za,zb⟩:=hSw;go_simp;try with_reducible rfl
 try simp only [Act.put,pU0]
 refine tq0 (i:=7) (v:=?_) rfl ?_ (by assumption) ?_
 rotate_left
 ·intro w hSw;obtain ⟨_,za,zb⟩:=hSw;go_simp;try with_reducible rfl
 try simp only [Act.put,pU0]
 refine tq0 (i:=8) (v:=?_) rfl ?_ (by assumption) ?_
 rotate_left
 ·intro w hSw;obtain ⟨_,za,zb⟩:=hSw;go_simp;try with_reducible rfl
 try simp only [Act.put,pU0]
 refine tq0 (i:=9) (v:=.agg (hC h p)) rfl (fun w hSw=>exec_loadH rfl rfl hSw.1) (by assumption) ?_
 try simp only [Act.put,pU0]
 refine tq0 (i:=10) (v:=?_) rfl ?_ (by assumption) ?_
 rotate_left
 ·intro w hSw;obtain ⟨_,za,zb⟩:=hSw;go_simp;try with_reducible rfl
 try simp only [Act.put,pU0]
 refine tq0 (i:=11) (v:=?_) rfl ?_ (by assumption) ?_
 rotate_left
 ·intro w hSw;obtain ⟨_,za,zb⟩:=hSw;go_simp;try with_reducible rfl
 try simp only [Act.put,pU0]
 refine wr0 (i:=12) rfl (fun K hK=>?_)
 rw [if_pos]
 rotate_left
 ·kernel_rfl
 go_wp2_with (go_at_call 133;refine (HVb.out _ c2).mono ?_;rintro e w3 ⟨rfl,c3⟩;refine Hid.out ?_)
 refine hidp20 ?_
 refine hK.out _ _ (HS.out _ c3) (fun hHeld=>?_)
 clear hK K
 try simp only [Act.put,pU0]
 refine tq0 (i:=13) (v:=?_) rfl ?_ (by assumption) ?_
 rotate_left
 ·intro w hSw;obtain ⟨_,za,zb⟩:=hSw;go_simp;try with_reducible rfl
 try simp only [Act.put,pU0]
 refine tq0 (i:=14) (v:=?_) rfl ?_ (by assumption) ?_
 rotate_left
 ·intro w hSw;obtain ⟨_,za,zb⟩:=hSw;go_simp;try with_reducible rfl
 try simp only [Act.put,pU0]
 refine wpAnyH_done (by kernel_rfl) ?_ _
 go_wp2
 go_ret
 exact ⟨rfl,HB.out.trans (c3.mono HB.out.size)⟩
set_option maxRecDepth 100000 in
set_option maxHeartbeats 4000000 in
theorem ms8f2 {G:Nat} {h:Hd} {p:Hp} (i a b:Int) (e0:(a == b)=false) (ha:¬ (0≤a∧a<h.N))  (w:World) (X:BxA w G 35 (hC h p)) :
  Calls Tryz.prog 110 #[.pointer (some ⟨G,0,none⟩),.agg #[.int .i64 i,.int .i64 2,.int .i64 a,.int .i64 b]] w fun e w'=>e=.returned (.bool false)∧Below w.heap.size w w':=by
 obtain ⟨W,hW⟩:=ex0 (w.alloc (.cells #[.int .i64 i,.int .i64 2,.int .i64 a,.int .i64 b] 28))
 have bW:Below w.heap.size w W:=by rw [hW];exact belA _ _
 have XA:BxA W w.heap.size 28 #[.int .i64 i,.int .i64 2,.int .i64 a,.int .i64 b]:=by rw [hW];exact BxA.new _ _ _
 have HB:=hideIt bW
 have HX:=hideIt (X.up bW)
 have HXA:=hideIt XA
 have HS:Hid (∀ u,Below W.heap.size W u→BxA u G 35 (hC h p)∧u.cell? ⟨w.heap.size,2,none⟩=some (.int .i64 a)∧u.cell? ⟨w.heap.size,3,none⟩=some (.int .i64 b)):=fun u hu=>⟨HX.out.up hu,(HXA.out.up hu).cell 2 rfl,(HXA.out.up hu).cell 3 rfl⟩
 have c0:=Below.refl W.heap.size W
 have x1:=XA.cell 1 rfl
 have x2:=XA.cell 2 rfl
 have x3:=XA.cell 3 rfl
 clear X XA bW
 have HVa:Hid (∀ u,Below W.heap.size W u→Calls Tryz.prog 133 #[.agg (hC h p),.int .i64 a] u fun e v=>e=.returned (.bool false)∧Below W.heap.size W v):=fun u hu=>(hasVertex_any h _ a u).mono fun e v ⟨h1,h2⟩=>⟨by rw [h1,decide_eq_false ha],hu.trans (h2.mono hu.size)⟩
 clear ha
 go_enter Tryz.func110,Tryz.ntmps110
 go_upto_region 1 with fail
 rw [← hW]
 clear hW
 go_upto_region 8 with fail
 refine wp_region_held_drew (S:=(fun u=>BxA u G 35 (hC h p)∧u.cell? ⟨w.heap.size,2,none⟩=some (.int .i64 a)∧u.cell? ⟨w.heap.size,3,none⟩=some (.int .i64 b))) (by kernel_rfl) (HS.out _ c0.drew) (fun hHeld=>?_)
 refine tq0 (i:=0) (v:=?_) rfl ?_ (by assumption) ?_
 rotate_left
 ·intro w hSw;obtain ⟨_,za,zb⟩:=hSw;go_simp;try with_reducible rfl
 try simp only [Act.put,pU0]
 refine tq0 (i:=1) (v:=?_) rfl ?_ (by assumption) ?_
 rotate_left
 ·intro w hSw;obtain ⟨_,za,zb⟩:=hSw;go_simp;try with_reducible rfl
 try simp only [Act.put,pU0]
 refine tq0 (i:=2) (v:=.agg (hC h p)) rfl (fun w hSw=>exec_loadH rfl rfl hSw.1) (by assumption) ?_
 try simp only [Act.put,pU0]
 refine tq0 (i:=3) (v:=?_) rfl ?_ (by assumption) ?_
 rotate_left
 ·intro w hSw;obtain ⟨_,za,zb⟩:=hSw;go_simp;try with_reducible rfl
 try simp only [Act.put,pU0]
 refine tq0 (i:=4) (v:=?_) rfl ?_ (by assumption) ?_
 rotate_left
 ·intro w hSw;obtain ⟨_,za,zb⟩:=hSw;go_simp;try with_reducible rfl
 try simp only [Act.put,pU0]
 refine wr0 (i:=5) rfl (fun K hK=>?_)
 rw [if_pos]
 rotate_left
 ·kernel_rfl
 go_wp2_with (go_at_call 133;refine (HVa.out _ c0.drew).mono ?_;rintro e w2 ⟨rfl,c2⟩;refine Hid.out ?_)
 refine hidp20 ?_
 refine hK.out _ _ (HS.out _ c2) (fun hHeld=>?_)
 clear hK K
 try simp only [Act.put,pU0]
 refine tq0 (i:=6) (v:=?_) rfl ?_ (by assumption) ?_
 rotate_left
 ·intro w hSw;obtain ⟨_,za,zb⟩:=hSw;go_simp;try with_reducible rfl
 try simp only [Act.put,pU0]
 refine wpAnyH_take (i:=7) rfl (by kernel_rfl) (by kernel_rfl) (by kernel_rfl) (fun _ _ _ h=>h) (Or.inr ⟨by kernel_rfl,rfl⟩) (by assumption) ?_
 refine wpAnyH_take (i:=8) rfl (by kernel_rfl) (by kernel_rfl) (by kernel_rfl) (fun _ _ _ h=>h) (Or.inr ⟨by kernel_rfl,rfl⟩) (by assumption) ?_
 refine wpAnyH_take (i:=9) rfl (by kernel_rfl) (by kernel_rfl) (by kernel_rfl) (fun _ _ _ h=>h) (Or.inr ⟨by kernel_rfl,rfl⟩) (by assumption) ?_
 refine wpAnyH_take (i:=10) rfl (by kernel_rfl) (by kernel_rfl) (by kernel_rfl) (fun _ _ _ h=>h) (Or.inr ⟨by kernel_rfl,rfl⟩) (by assumption) ?_
 refine wpAnyH_take (i:=11) rfl (by kernel_rfl) (by kernel_rfl) (by kernel_rfl) (fun _ _ _ h=>h) (Or.inr ⟨by kernel_rfl,rfl⟩) (by assumption) ?_
 refine wpAnyH_take (i:=12) rfl (by kernel_rfl) (by kernel_rfl) (by kernel_rfl) (fun _ _ _ h=>h) (Or.inr ⟨by kernel_rfl,rfl⟩) (by assumption) ?_
 refine tq0 (i:=13) (v:=?_) rfl ?_ (by assumption) ?_
 rotate_left
 ·intro w hSw;obtain ⟨_,za,zb⟩:=hSw;go_simp;try with_reducible rfl
 try simp only [Act.put,pU0]
 refine tq0 (i:=14) (v:=?_) rfl ?_ (by assumption) ?_
 rotate_left
 ·intro w hSw;obtain ⟨_,za,zb⟩:=hSw;go_simp;try with_reducible rfl
 try simp only [Act.put,pU0]
 refine wpAnyH_done (by kernel_rfl) ?_ _
 go_wp2
 go_ret
 exact ⟨rfl,HB.out.trans (c2.mono HB.out.size)⟩
set_option maxRecDepth 100000 in
set_option maxHeartbeats 4000000 in
theorem ms8t3 {G:Nat} {h:Hd} {p:Hp} (i a b:Int) (ha:0≤a∧a<h.N) (vb:Bool) (hvb:decide (0≤b∧b<h.N)=vb)  (w:World) (X:BxA w G 35 (hC h p)) :
  Calls Tryz.prog 110 #[.pointer (some ⟨G,0,none⟩),.agg #[.int .i64 i,.int .i64 3,.int .i64 a,.int .i64 b]] w fun e w'=>e=.returned (.bool vb)∧Below w.heap.size w w':=by
 obtain ⟨W,hW⟩:=ex0 (w.alloc (.cells #[.int .i64 i,.int .i64 3,.int .i64 a,.int .i64 b] 28))
 have bW:Below w.heap.size w W:=by rw [hW];exact belA _ _
 have XA:BxA W w.heap.size 28 #[.int .i64 i,.int .i64 3,.int .i64 a,.int .i64 b]:=by rw [hW];exact BxA.new _ _ _
 have HB:=hideIt bW
 have HX:=hideIt (X.up bW)
 have HXA:=hideIt XA
 have HS:Hid (∀ u,Below W.heap.size W u→BxA u G 35 (hC h p)∧u.cell? ⟨w.heap.size,2,none⟩=some (.int .i64 a)∧u.cell? ⟨w.heap.size,3,none⟩=some (.int .i64 b)):=fun u hu=>⟨HX.out.up hu,(HXA.out.up hu).cell 2 rfl,(HXA.out.up hu).cell 3 rfl⟩
 have c0:=Below.refl W.heap.size W
 have x1:=XA.cell 1 rfl
 have x2:=XA.cell 2 rfl
 have x3:=XA.cell 3 rfl
 clear X XA bW
 have HVa:Hid (∀ u,Below W.heap.size W u→Calls Tryz.prog 133 #[.agg (hC h p),.int .i64 a] u fun e v=>e=.returned (.bool true)∧Below W.heap.size W v):=fun u hu=>(hasVertex_any h _ a u).mono fun e v ⟨h1,h2⟩=>⟨by rw [h1,decide_eq_true ha],hu.trans (h2.mono hu.size)⟩
 clear ha
 have HVb:Hid (∀ u,Below W.heap.size W u→Calls Tryz.prog 133 #[.agg (hC h p),.int .i64 b] u fun e v=>e=.returned (.bool vb)∧Below W.heap.size W v):=fun u hu=>(hasVertex_any h _ b u).mono fun e v ⟨h1,h2⟩=>⟨by rw [h1,hvb],hu.trans (h2.mono hu.size)⟩
 clear hvb
 go_enter Tryz.func110,Tryz.ntmps110
 go_upto_region 1 with fail
 rw [← hW]
 clear hW
 go_upto_region 8 with fail
 refine wp_region_held_drew (S:=(fun u=>BxA u G 35 (hC h p)∧u.cell? ⟨w.heap.size,2,none⟩=some (.int .i64 a)∧u.cell? ⟨w.heap.size,3,none⟩=some (.int .i64 b))) (by kernel_rfl) (HS.out _ c0.drew) (fun hHeld=>?_)
 refine tq0 (i:=0) (v:=?_) rfl ?_ (by assumption) ?_
 rotate_left
 ·intro w hSw;obtain ⟨_,za,zb⟩:=hSw;go_simp;try with_reducible rfl
 try simp only [Act.put,pU0]
 refine tq0 (i:=1) (v:=?_) rfl ?_ (by assumption) ?_
 rotate_left
 ·intro w hSw;obtain ⟨_,za,zb⟩:=hSw;go_simp;try with_reducible rfl
 try simp only [Act.put,pU0]
 refine tq0 (i:=2) (v:=.agg (hC h p)) rfl (fun w hSw=>exec_loadH rfl rfl hSw.1) (by assumption) ?_
 try simp only [Act.put,pU0]
 refine tq0 (i:=3) (v:=?_) rfl ?_ (by assumption) ?_
 rotate_left
 ·intro w hSw;obtain ⟨_,za,zb⟩:=hSw;go_simp;try with_reducible rfl
 try simp only [Act.put,pU0]
 refine tq0 (i:=4) (v:=?_) rfl ?_ (by assumption) ?_
 rotate_left
 ·intro w hSw;obtain ⟨_,za,zb⟩:=hSw;go_simp;try with_reducible rfl
 try simp only [Act.put,pU0]
 refine wr0 (i:=5) rfl (fun K hK=>?_)
 rw [if_pos]
 rotate_left
 ·kernel_rfl
 go_wp2_with (go_at_call 133;refine (HVa.out _ c0.drew).mono ?_;rintro e w2 ⟨rfl,c2⟩;refine Hid.out ?_)
 refine hidp20 ?_
 refine hK.out _ _ (HS.out _ c2) (fun hHeld=>?_)
 clear hK K
 try simp only [Act.put,pU0]
 refine tq0 (i:=6) (v:=?_) rfl ?_ (by assumption) ?_
 rotate_left
 ·intro w hSw;obtain ⟨_,za,zb⟩:=hSw;go_simp;try with_reducible rfl
 try simp only [Act.put,pU0]
 refine tq0 (i:=7) (v:=?_) rfl ?_ (by assumption) ?_
 rotate_left
 ·intro w hSw;obtain ⟨_,za,zb⟩:=hSw;go_simp;try with_reducible rfl
 try simp only [Act.put,pU0]
 refine tq0 (i:=8) (v:=?_) rfl ?_ (by assumption) ?_
 rotate_left
 ·intro w hSw;obtain ⟨_,za,zb⟩:=hSw;go_simp;try with_reducible rfl
 try simp only [Act.put,pU0]
 refine tq0 (i:=9) (v:=.agg (hC h p)) rfl (fun w hSw=>exec_loadH rfl rfl hSw.1) (by assumption) ?_
 try simp only [Act.put,pU0]
 refine tq0 (i:=10) (v:=?_) rfl ?_ (by assumption) ?_
 rotate_left
 ·intro w hSw;obtain ⟨_,za,zb⟩:=hSw;go_simp;try with_reducible rfl
 try simp only [Act.put,pU0]
 refine tq0 (i:=11) (v:=?_) rfl ?_ (by assumption) ?_
 rotate_left
 ·intro w hSw;obtain ⟨_,za,zb⟩:=hSw;go_simp;try with_reducible rfl
 try simp only [Act.put,pU0]
 refine wr0 (i:=12) rfl (fun K hK=>?_)
 rw [if_pos]
 rotate_left
 ·kernel_rfl
 go_wp2_with (go_at_call 133;refine (HVb.out _ c2).mono ?_;rintro e w3 ⟨rfl,c3⟩;refine Hid.out ?_)
 refine hidp20 ?_
 refine hK.out _ _ (HS.out _ c3) (fun hHeld=>?_)
 clear hK K
 try simp only [Act.put,pU0]
 refine tq0 (i:=13) (v:=?_) rfl ?_ (by assumption) ?_
 rotate_left
 ·intro w hSw;obtain ⟨_,za,zb⟩:=hSw;go_simp;try with_reducible rfl
 try simp only [Act.put,pU0]
 refine tq0 (i:=14) (v:=?_) rfl ?_ (by assumption) ?_
 rotate_left
 ·intro w hSw;obtain ⟨_,za,zb⟩:=hSw;go_simp;try with_reducible rfl
 try simp only [Act.put,pU0]
 refine wpAnyH_done (by kernel_rfl) ?_ _
 go_wp2
 go_ret
 exact ⟨rfl,HB.out.trans (c3.mono HB.out.size)⟩
set_option maxRecDepth 100000 in
set_option maxHeartbeats 4000000 in
theorem ms8f3 {G:Nat} {h:Hd} {p:Hp} (i a b:Int) (ha:¬ (0≤a∧a<h.N))  (w:World) (X:BxA w G 35 (hC h p)) :
  Calls Tryz.prog 110 #[.pointer (some ⟨G,0,none⟩),.agg #[.int .i64 i,.int .i64 3,.int .i64 a,.int .i64 b]] w fun e w'=>e=.returned (.bool false)∧Below w.heap.size w w':=by
 obtain ⟨W,hW⟩:=ex0 (w.alloc (.cells #[.int .i64 i,.int .i64 3,.int .i64 a,.int .i64 b] 28))
 have bW:Below w.heap.size w W:=by rw [hW];exact belA _ _
 have XA:BxA W w.heap.size 28 #[.int .i64 i,.int .i64 3,.int .i64 a,.int .i64 b]:=by rw [hW];exact BxA.new _ _ _
 have HB:=hideIt bW
 have HX:=hideIt (X.up bW)
 have HXA:=hideIt XA
 have HS:Hid (∀ u,Below W.heap.size W u→BxA u G 35 (hC h p)∧u.cell? ⟨w.heap.size,2,none⟩=some (.int .i64 a)∧u.cell? ⟨w.heap.size,3,none⟩=some (.int .i64 b)):=fun u hu=>⟨HX.out.up hu,(HXA.out.up hu).cell 2 rfl,(HXA.out.up hu).cell 3 rfl⟩
 have c0:=Below.refl W.heap.size W
 have x1:=XA.cell 1 rfl
 have x2:=XA.cell 2 rfl
 have x3:=XA.cell 3 rfl
 clear X XA bW
 have HVa:Hid (∀ u,Below W.heap.size W u→Calls Tryz.prog 133 #[.agg (hC h p),.int .i64 a] u fun e v=>e=.returned (.bool false)∧Below W.heap.size W v):=fun u hu=>(hasVertex_any h _ a u).mono fun e v ⟨h1,h2⟩=>⟨by rw [h1,decide_eq_false ha],hu.trans (h2.mono hu.size)⟩
 clear ha
 go_enter Tryz.func110,Tryz.ntmps110
 go_upto_region 1 with fail
 rw [← hW]
 clear hW
 go_upto_region 8 with fail
 refine wp_region_held_drew (S:=(fun u=>BxA u G 35 (hC h p)∧u.cell? ⟨w.heap.size,2,none⟩=some (.int .i64 a)∧u.cell? ⟨w.heap.size,3,none⟩=some (.int .i64 b))) (by kernel_rfl) (HS.out _ c0.drew) (fun hHeld=>?_)
 refine tq0 (i:=0) (v:=?_) rfl ?_ (by assumption) ?_
 rotate_left
 ·intro w hSw;obtain ⟨_,za,zb⟩:=hSw;go_simp;try with_reducible rfl
 try simp only [Act.put,pU0]
 refine tq0 (i:=1) (v:=?_) rfl ?_ (by assumption) ?_
 rotate_left
 ·intro w hSw;obtain ⟨_,za,zb⟩:=hSw;go_simp;try with_reducible rfl
 try simp only [Act.put,pU0]
 refine tq0 (i:=2) (v:=.agg (hC h p)) rfl (fun w hSw=>exec_loadH rfl rfl hSw.1) (by assumption) ?_
 try simp only [Act.put,pU0]
 refine tq0 (i:=3) (v:=?_) rfl ?_ (by assumption) ?_
 rotate_left
 ·intro w hSw;obtain ⟨_,za,zb⟩:=hSw;go_simp;try with_reducible rfl
 try simp only [Act.put,pU0]
 refine tq0 (i:=4) (v:=?_) rfl ?_ (by assumption) ?_
 rotate_left
 ·intro w hSw;obtain ⟨_,za,zb⟩:=hSw;go_simp;try with_reducible rfl
 try simp only [Act.put,pU0]
 refine wr0 (i:=5) rfl (fun K hK=>?_)
 rw [if_pos]
 rotate_left
 ·kernel_rfl
 go_wp2_with (go_at_call 133;refine (HVa.out _ c0.drew).mono ?_;rintro e w2 ⟨rfl,c2⟩;refine Hid.out ?_)
 refine hidp20 ?_
 refine hK.out _ _ (HS.out _ c2) (fun hHeld=>?_)
 clear hK K
 try simp only [Act.put,pU0]
 refine tq0 (i:=6) (v:=?_) rfl ?_ (by assumption) ?_
 rotate_left
 ·intro w hSw;obtain ⟨_,za,zb⟩:=hSw;go_simp;try with_reducible rfl
 try simp only [Act.put,pU0]
 refine wpAnyH_take (i:=7) rfl (by kernel_rfl) (by kernel_rfl) (by kernel_rfl) (fun _ _ _ h=>h) (Or.inr ⟨by kernel_rfl,rfl⟩) (by assumption) ?_
 refine wpAnyH_take (i:=8) rfl (by kernel_rfl) (by kernel_rfl) (by kernel_rfl) (fun _ _ _ h=>h) (Or.inr ⟨by kernel_rfl,rfl⟩) (by assumption) ?_
 refine wpAnyH_take (i:=9) rfl (by kernel_rfl) (by kernel_rfl) (by kernel_rfl) (fun _ _ _ h=>h) (Or.inr ⟨by kernel_rfl,rfl⟩) (by assumption) ?_
 refine wpAnyH_take (i:=10) rfl (by kernel_rfl) (by kernel_rfl) (by kernel_rfl) (fun _ _ _ h=>h) (Or.inr ⟨by kernel_rfl,rfl⟩) (by assumption) ?_
 refine wpAnyH_take (i:=11) rfl (by kernel_rfl) (by kernel_rfl) (by kernel_rfl) (fun _ _ _ h=>h) (Or.inr ⟨by kernel_rfl,rfl⟩) (by assumption) ?_
 refine wpAnyH_take (i:=12) rfl (by kernel_rfl) (by kernel_rfl) (by kernel_rfl) (fun _ _ _ h=>h) (Or.inr ⟨by kernel_rfl,rfl⟩) (by assumption) ?_
 refine tq0 (i:=13) (v:=?_) rfl ?_ (by assumption) ?_
 rotate_left
 ·intro w hSw;obtain ⟨_,za,zb⟩:=hSw;go_simp;try with_reducible rfl
 try simp only [Act.put,pU0]
 refine tq0 (i:=14) (v:=?_) rfl ?_ (by assumption) ?_
 rotate_left
 ·intro w hSw;obtain ⟨_,za,zb⟩:=hSw;go_simp;try with_reducible rfl
 try simp only [Act.put,pU0]
 refine wpAnyH_done (by kernel_rfl) ?_ _
 go_wp2
 go_ret
 exact ⟨rfl,HB.out.trans (c2.mono HB.out.size)⟩
set_option maxRecDepth 100000 in
set_option maxHeartbeats 4000000 in
theorem ms9t {G:Nat} {h:Hd} {p:Hp} (i a b:Int) (ha:0≤a∧a<h.N) (vb:Bool) (hvb:decide (1≤b∧b≤(p.l.n:Int))=vb)  (w:World) (X:BxA w G 35 (hC h p)) :
  Calls Tryz.prog 110 #[.pointer (some ⟨G,0,none⟩),.agg #[.int .i64 i,.int .i64 4,.int .i64 a,.int .i64 b]] w fun e w'=>e=.returned (.bool vb)∧Below w.heap.size w w':=by
 obtain ⟨W,hW⟩:=ex0 (w.alloc (.cells #[.int .i64 i,.int .i64 4,.int .i64 a,.int .i64 b] 28))
 have bW:Below w.heap.size w W:=by rw [hW];exact belA _ _
 have XA:BxA W w.heap.size 28 #[.int .i64 i,.int .i64 4,.int .i64 a,.int .i64 b]:=by rw [hW];exact BxA.new _ _ _
 have HB:=hideIt bW
 have HX:=hideIt (X.up bW)
 have HXA:=hideIt XA
 have HS:Hid (∀ u,Below W.heap.size W u→BxA u G 35 (hC h p)∧u.cell? ⟨w.heap.size,2,none⟩=some (.int .i64 a)∧u.cell? ⟨w.heap.size,3,none⟩=some (.int .i64 b)):=fun u hu=>⟨HX.out.up hu,(HXA.out.up hu).cell 2 rfl,(HXA.out.up hu).cell 3 rfl⟩
 have c0:=Below.refl W.heap.size W
 have x1:=XA.cell 1 rfl
 have x2:=XA.cell 2 rfl
 have x3:=XA.cell 3 rfl
 clear X XA bW
 have HVa:Hid (∀ u,Below W.heap.size W u→Calls Tryz.prog 133 #[.agg (hC h p),.int .i64 a] u fun e v=>e=.returned (.bool true)∧Below W.heap.size W v):=fun u hu=>(hasVertex_any h _ a u).mono fun e v ⟨h1,h2⟩=>⟨by rw [h1,decide_eq_true ha],hu.trans (h2.mono hu.size)⟩
 clear ha
 have HSb:Hid (∀ u,Below W.heap.size W u→Calls Tryz.prog 124 #[.agg (hC h p),.int .i64 b] u fun e v=>e=.returned (.bool vb)∧Below W.heap.size W v):=fun u hu=>(hasShard_any h _ b u).mono fun e v ⟨h1,h2⟩=>⟨by rw [h1,hvb],hu.trans (h2.mono hu.size)⟩
 clear hvb
 go_enter Tryz.func110,Tryz.ntmps110
 go_upto_region 1 with fail
 rw [← hW]
 clear hW
 go_upto_region 9 with fail
 refine wp_region_held_drew (S:=(fun u=>BxA u G 35 (hC h p)∧u.cell? ⟨w.heap.size,2,none⟩=some (.int .i64 a)∧u.cell? ⟨w.heap.size,3,none⟩=some (.int .i64 b))) (by kernel_rfl) (HS.out _ c0.drew) (fun hHeld=>?_)
 refine tq0 (i:=0) (v:=?_) rfl ?_ (by assumption) ?_
 rotate_left
 ·intro w hSw;obtain ⟨_,za,zb⟩:=hSw;go_simp;try with_reducible rfl
 try simp only [Act.put,pU0]
 refine tq0 (i:=1) (v:=?_) rfl ?_ (by assumption) ?_
 rotate_left
 ·intro w hSw;obtain ⟨_,za,zb⟩:=hSw;go_simp;try with_reducible rfl
 try simp only [Act.put,pU0]
 refine tq0 (i:=2) (v:=.agg (hC h p)) rfl (fun w hSw=>exec_loadH rfl rfl hSw.1) (by assumption) ?_
 try simp only [Act.put,pU0]
 refine tq0 (i:=3) (v:=?_) rfl ?_ (by assumption) ?_
 rotate_left
 ·intro w hSw;obtain ⟨_,za,zb⟩:=hSw;go_simp;try with_reducible rfl
 try simp only [Act.put,pU0]
 refine tq0 (i:=4) (v:=?_) rfl ?_ (by assumption) ?_
 rotate_left
 ·intro w hSw;obtain ⟨_,za,zb⟩:=hSw;go_simp;try with_reducible rfl
 try simp only [Act.put,pU0]
 refine wr0 (i:=5) rfl (fun K hK=>?_)
 rw [if_pos]
 rotate_left
 ·kernel_rfl
 go_wp2_with (go_at_call 133;refine (HVa.out _ c0.drew).mono ?_;rintro e w2 ⟨rfl,c2⟩;refine Hid.out ?_)
 refine hidp20 ?_
 refine hK.out _ _ (HS.out _ c2) (fun hHeld=>?_)
 clear hK K
 try simp only [Act.put,pU0]
 refine tq0 (i:=6) (v:=?_) rfl ?_ (by assumption) ?_
 rotate_left
 ·intro w hSw;obtain ⟨_,za,zb⟩:=hSw;go_simp;try with_reducible rfl
 try simp only [Act.put,pU0]
 refine tq0 (i:=7) (v:=?_) rfl ?_ (by assumption) ?_
 rotate_left
 ·intro w hSw;obtain ⟨_,za,zb⟩:=hSw;go_simp;try with_reducible rfl
 try simp only [Act.put,pU0]
 refine tq0 (i:=8) (v:=?_) rfl ?_ (by assumption) ?_
 rotate_left
 ·intro w hSw;obtain ⟨_,za,zb⟩:=hSw;go_simp;try with_reducible rfl
 try simp only [Act.put,pU0]
 refine tq0 (i:=9) (v:=.agg (hC h p)) rfl (fun w hSw=>exec_loadH rfl rfl hSw.1) (by assumption) ?_
 try simp only [Act.put,pU0]
 refine tq0 (i:=10) (v:=?_) rfl ?_ (by assumption) ?_
 rotate_left
 ·intro w hSw;obtain ⟨_,za,zb⟩:=hSw;go_simp;try with_reducible rfl
 try simp only [Act.put,pU0]
 refine tq0 (i:=11) (v:=?_) rfl ?_ (by assumption) ?_
 rotate_left
 ·intro w hSw;obtain ⟨_,za,zb⟩:=hSw;go_simp;try with_reducible rfl
 try simp only [Act.put,pU0]
 refine wr0 (i:=12) rfl (fun K hK=>?_)
 rw [if_pos]
 rotate_left
 ·kernel_rfl
 go_wp2_with (go_at_call 124;refine (HSb.out _ c2).mono ?_;rintro e w3 ⟨rfl,c3⟩;refine Hid.out ?_)
 refine hidp20 ?_
 refine hK.out _ _ (HS.out _ c3) (fun hHeld=>?_)
 clear hK K
 try simp only [Act.put,pU0]
 refine tq0 (i:=13) (v:=?_) rfl ?_ (by assumption) ?_
 rotate_left
 ·intro w hSw;obtain ⟨_,za,zb⟩:=hSw;go_simp;try with_reducible rfl
 try simp only [Act.put,pU0]
 refine tq0 (i:=14) (v:=?_) rfl ?_ (by assumption) ?_
 rotate_left
 ·intro w hSw;obtain ⟨_,za,zb⟩:=hSw;go_simp;try with_reducible rfl
 try simp only [Act.put,pU0]
 refine wpAnyH_done (by kernel_rfl) ?_ _
 go_wp2
 go_ret
 exact ⟨rfl,HB.out.trans (c3.mono HB.out.size)⟩
set_option maxRecDepth 100000 in
set_option maxHeartbeats 4000000 in
theorem ms9f {G:Nat} {h:Hd} {p:Hp} (i a b:Int) (ha:¬ (0≤a∧a<h.N))  (w:World) (X:BxA w G 35 (hC h p)) :
  Calls Tryz.prog 110 #[.pointer (some ⟨G,0,none⟩),.agg #[.int .i64 i,.int .i64 4,.int .i64 a,.int .i64 b]] w fun e w'=>e=.returned (.bool false)∧Below w.heap.size w w':=by
 obtain ⟨W,hW⟩:=ex0 (w.alloc (.cells #[.int .i64 i,.int .i64 4,.int .i64 a,.int .i64 b] 28))
 have bW:Below w.heap.size w W:=by rw [hW];exact belA _ _
 have XA:BxA W w.heap.size 28 #[.int .i64 i,.int .i64 4,.int .i64 a,.int .i64 b]:=by rw [hW];exact BxA.new _ _ _
 have HB:=hideIt bW
 have HX:=hideIt (X.up bW)
 have HXA:=hideIt XA
 have HS:Hid (∀ u,Below W.heap.size W u→BxA u G 35 (hC h p)∧u.cell? ⟨w.heap.size,2,none⟩=some (.int .i64 a)∧u.cell? ⟨w.heap.size,3,none⟩=some (.int .i64 b)):=fun u hu=>⟨HX.out.up hu,(HXA.out.up hu).cell 2 rfl,(HXA.out.up hu).cell 3 rfl⟩
 have c0:=Below.refl W.heap.size W
 have x1:=XA.cell 1 rfl
 have x2:=XA.cell 2 rfl
 have x3:=XA.cell 3 rfl
 clear X XA bW
 have HVa:Hid (∀ u,Below W.heap.size W u→Calls Tryz.prog 133 #[.agg (hC h p),.int .i64 a] u fun e v=>e=.returned (.bool false)∧Below W.heap.size W v):=fun u hu=>(hasVertex_any h _ a u).mono fun e v ⟨h1,h2⟩=>⟨by rw [h1,decide_eq_false ha],hu.trans (h2.mono hu.size)⟩
 clear ha
 go_enter Tryz.func110,Tryz.ntmps110
 go_upto_region 1 with fail
 rw [← hW]
 clear hW
 go_upto_region 9 with fail
 refine wp_region_held_drew (S:=(fun u=>BxA u G 35 (hC h p)∧u.cell? ⟨w.heap.size,2,none⟩=some (.int .i64 a)∧u.cell? ⟨w.heap.size,3,none⟩=some (.int .i64 b))) (by kernel_rfl) (HS.out _ c0.drew) (fun hHeld=>?_)
 refine tq0 (i:=0) (v:=?_) rfl ?_ (by assumption) ?_
 rotate_left
 ·intro w hSw;obtain ⟨_,za,zb⟩:=hSw;go_simp;try with_reducible rfl
 try simp only [Act.put,pU0]
 refine tq0 (i:=1) (v:=?_) rfl ?_ (by assumption) ?_
 rotate_left
 ·intro w hSw;obtain ⟨_,za,zb⟩:=hSw;go_simp;try with_reducible rfl
 try simp only [Act.put,pU0]
 refine tq0 (i:=2) (v:=.agg (hC h p)) rfl (fun w hSw=>exec_loadH rfl rfl hSw.1) (by assumption) ?_
 try simp only [Act.put,pU0]
 refine tq0 (i:=3) (v:=?_) rfl ?_ (by assumption) ?_
 rotate_left
 ·intro w hSw;obtain ⟨_,za,zb⟩:=hSw;go_simp;try with_reducible rfl
 try simp only [Act.put,pU0]
 refine tq0 (i:=4) (v:=?_) rfl ?_ (by assumption) ?_
 rotate_left
 ·intro w hSw;obtain ⟨_,za,zb⟩:=hSw;go_simp;try with_reducible rfl
 try simp only [Act.put,pU0]
 refine wr0 (i:=5) rfl (fun K hK=>?_)
 rw [if_pos]
 rotate_left
 ·kernel_rfl
 go_wp2_with (go_at_call 133;refine (HVa.out _ c0.drew).mono ?_;rintro e w2 ⟨rfl,c2⟩;refine Hid.out ?_)
 refine hidp20 ?_
 refine hK.out _ _ (HS.out _ c2) (fun hHeld=>?_)
 clear hK K
 try simp only [Act.put,pU0]
 refine tq0 (i:=6) (v:=?_) rfl ?_ (by assumption) ?_
 rotate_left
 ·intro w hSw;obtain ⟨_,za,zb⟩:=hSw;go_simp;try with_reducible rfl
 try simp only [Act.put,pU0]
 refine wpAnyH_take (i:=7) rfl (by kernel_rfl) (by kernel_rfl) (by kernel_rfl) (fun _ _ _ h=>h) (Or.inr ⟨by kernel_rfl,rfl⟩) (by assumption) ?_
 refine wpAnyH_take (i:=8) rfl (by kernel_rfl) (by kernel_rfl) (by kernel_rfl) (fun _ _ _ h=>h) (Or.inr ⟨by kernel_rfl,rfl⟩) (by assumption) ?_
 refine wpAnyH_take (i:=9) rfl (by kernel_rfl) (by kernel_rfl) (by kernel_rfl) (fun _ _ _ h=>h) (Or.inr ⟨by kernel_rfl,rfl⟩) (by assumption) ?_
 refine wpAnyH_take (i:=10) rfl (by kernel_rfl) (by kernel_rfl) (by kernel_rfl) (fun _ _ _ h=>h) (Or.inr ⟨by kernel_rfl,rfl⟩) (by assumption) ?_
 refine wpAnyH_take (i:=11) rfl (by kernel_rfl) (by kernel_rfl) (by kernel_rfl) (fun _ _ _ h=>h) (Or.inr ⟨by kernel_rfl,rfl⟩) (by assumption) ?_
 refine wpAnyH_take (i:=12) rfl (by kernel_rfl) (by kernel_rfl) (by kernel_rfl) (fun _ _ _ h=>h) (Or.inr ⟨by kernel_rfl,rfl⟩) (by assumption) ?_
 refine tq0 (i:=13) (v:=?_) rfl ?_ (by assumption) ?_
 rotate_left
 ·intro w hSw;obtain ⟨_,za,zb⟩:=hSw;go_simp;try with_reducible rfl
 try simp only [Act.put,pU0]
 refine tq0 (i:=14) (v:=?_) rfl ?_ (by assumption) ?_
 rotate_left
 ·intro w hSw;obtain ⟨_,za,zb⟩:=hSw;go_simp;try with_reducible rfl
 try simp only [Act.put,pU0]
 refine wpAnyH_done (by kernel_rfl) ?_ _
 go_wp2
 go_ret
 exact ⟨rfl,HB.out.trans (c2.mono HB.out.size)⟩
set_option maxRecDepth 100000 in
set_option maxHeartbeats 4000000 in
theorem mse1 {G:Nat} {h:Hd} {p:Hp} (i a b:Int) (e0:(a == b)=true) (w:World) (X:BxA w G 35 (hC h p)) :
  Calls Tryz.prog 110 #[.pointer (some ⟨G,0,none⟩),.agg #[.int .i64 i,.int .i64 1,.int .i64 a,.int .i64 b]] w fun e w'=>e=.returned (.bool false)∧Below w.heap.size w w':=by
 obtain ⟨W,hW⟩:=ex0 (w.alloc (.cells #[.int .i64 i,.int .i64 1,.int .i64 a,.int .i64 b] 28))
 have bW:Below w.heap.size w W:=by rw [hW];exact belA _ _
 have XA:BxA W w.heap.size 28 #[.int .i64 i,.int .i64 1,.int .i64 a,.int .i64 b]:=by rw [hW];exact BxA.new _ _ _
 have HB:=hideIt bW
 have HX:=hideIt (X.up bW)
 have HXA:=hideIt XA
 have HS:Hid (∀ u,Below W.heap.size W u→BxA u G 35 (hC h p)∧u.cell? ⟨w.heap.size,2,none⟩=some (.int .i64 a)∧u.cell? ⟨w.heap.size,3,none⟩=some (.int .i64 b)):=fun u hu=>⟨HX.out.up hu,(HXA.out.up hu).cell 2 rfl,(HXA.out.up hu).cell 3 rfl⟩
 have c0:=Below.refl W.heap.size W
 have x1:=XA.cell 1 rfl
 have x2:=XA.cell 2 rfl
 have x3:=XA.cell 3 rfl
 clear X XA bW
 go_enter Tryz.func110,Tryz.ntmps110
 go_upto_region 1 with fail
 rw [← hW]
 clear hW
 go_wp2
 go_ret
 exact ⟨rfl,HB.out⟩
set_option maxRecDepth 100000 in
set_option maxHeartbeats 4000000 in
theorem mse2 {G:Nat} {h:Hd} {p:Hp} (i a b:Int) (e0:(a == b)=true) (w:World) (X:BxA w G 35 (hC h p)) :
  Calls Tryz.prog 110 #[.pointer (some ⟨G,0,none⟩),.agg #[.int .i64 i,.int .i64 2,.int .i64 a,.int .i64 b]] w fun e w'=>e=.returned (.bool false)∧Below w.heap.size w w':=by
 obtain ⟨W,hW⟩:=ex0 (w.alloc (.cells #[.int .i64 i,.int .i64 2,.int .i64 a,.int .i64 b] 28))
 have bW:Below w.heap.size w W:=by rw [hW];exact belA _ _
 have XA:BxA W w.heap.size 28 #[.int .i64 i,.int .i64 2,.int .i64 a,.int .i64 b]:=by rw [hW];exact BxA.new _ _ _
 have HB:=hideIt bW
 have HX:=hideIt (X.up bW)
 have HXA:=hideIt XA
 have HS:Hid (∀ u,Below W.heap.size W u→BxA u G 35 (hC h p)∧u.cell? ⟨w.heap.size,2,none⟩=some (.int .i64 a)∧u.cell? ⟨w.heap.size,3,none⟩=some (.int .i64 b)):=fun u hu=>⟨HX.out.up hu,(HXA.out.up hu).cell 2 rfl,(HXA.out.up hu).cell 3 rfl⟩
 have c0:=Below.refl W.heap.size W
 have x1:=XA.cell 1 rfl
 have x2:=XA.cell 2 rfl
 have x3:=XA.cell 3 rfl
 clear X XA bW
 go_enter Tryz.func110,Tryz.ntmps110
 go_upto_region 1 with fail
 rw [← hW]
 clear hW
 go_wp2
 go_ret
 exact ⟨rfl,HB.out⟩
set_option maxRecDepth 100000 in
set_option maxHeartbeats 4000000 in
theorem msx {G:Nat} {h:Hd} {p:Hp} (i o a b:Int) (e1:(o == 1)=false) (e2:(o == 2)=false) (e3:(o == 3)=false) (e4:(o == 4)=false) (w:World) (X:BxA w G 35 (hC h p)) :
  Calls Tryz.prog 110 #[.pointer (some ⟨G,0,none⟩),.agg #[.int .i64 i,.int .i64 o,.int .i64 a,.int .i64 b]] w fun e w'=>e=.returned (.bool false)∧Below w.heap.size w w':=by
 obtain ⟨W,hW⟩:=ex0 (w.alloc (.cells #[.int .i64 i,.int .i64 o,.int .i64 a,.int .i64 b] 28))
 have bW:Below w.heap.size w W:=by rw [hW];exact belA _ _
 have XA:BxA W w.heap.size 28 #[.int .i64 i,.int .i64 o,.int .i64 a,.int .i64 b]:=by rw [hW];exact BxA.new _ _ _
 have HB:=hideIt bW
 have HX:=hideIt (X.up bW)
 have HXA:=hideIt XA
 have HS:Hid (∀ u,Below W.heap.size W u→BxA u G 35 (hC h p)∧u.cell? ⟨w.heap.size,2,none⟩=some (.int .i64 a)∧u.cell? ⟨w.heap.size,3,none⟩=some (.int .i64 b)):=fun u hu=>⟨HX.out.up hu,(HXA.out.up hu).cell 2 rfl,(HXA.out.up hu).cell 3 rfl⟩
 have c0:=Below.refl W.heap.size W
 have x1:=XA.cell 1 rfl
 have x2:=XA.cell 2 rfl
 have x3:=XA.cell 3 rfl
 clear X XA bW
 go_enter Tryz.func110,Tryz.ntmps110
 go_upto_region 1 with fail
 rw [← hW]
 clear hW
 go_wp2
 go_ret
 exact ⟨rfl,HB.out⟩
theorem makesSense_any {G:Nat} {h:Hd} {p:Hp} (i o a b:Int) (w:World) (X:BxA w G 35 (hC h p)) :
  Calls Tryz.prog 110 #[.pointer (some ⟨G,0,none⟩),.agg #[.int .i64 i,.int .i64 o,.int .i64 a,.int .i64 b]] w fun e w'=>e=.returned (.bool (rgB h.N p.l.n o a b))∧Below w.heap.size w w':=by
 have key:∀ z:Bool,rgB h.N p.l.n o a b=z→(Calls Tryz.prog 110 #[.pointer (some ⟨G,0,none⟩),.agg #[.int .i64 i,.int .i64 o,.int .i64 a,.int .i64 b]] w fun e w'=>e=.returned (.bool z)∧Below w.heap.size w w')→(Calls Tryz.prog 110 #[.pointer (some ⟨G,0,none⟩),.agg #[.int .i64 i,.int .i64 o,.int .i64 a,.int .i64 b]] w fun e w'=>e=.returned (.bool (rgB h.N p.l.n o a b))∧Below w.heap.size w w'):=fun z hz hc=>by rw [hz];exact hc
 by_cases o3:o=3
 ·subst o3
  by_cases ha:0≤a∧a<h.N
  ·exact key (decide (0≤b∧b<h.N)) (decide_eq_decide.2 (by omega)) (ms8t3 i a b ha _ rfl w X)
  ·exact key false (decide_eq_false (by omega)) (ms8f3 i a b ha w X)
 ·by_cases o4:o=4
  ·subst o4
   by_cases ha:0≤a∧a<h.N
   ·exact key (decide (1≤b∧b≤(p.l.n:Int))) (decide_eq_decide.2 (by omega)) (ms9t i a b ha _ rfl w X)
   ·exact key false (decide_eq_false (by omega)) (ms9f i a b ha w X)
  ·by_cases o1:o=1
   ·subst o1
    by_cases hab:a=b
    ·exact key false (decide_eq_false (by omega)) (mse1 i a b (by simpa using hab) w X)
    ·by_cases ha:0≤a∧a<h.N
     ·exact key (decide (0≤b∧b<h.N)) (decide_eq_decide.2 (by omega)) (ms8t1 i a b (by simpa using hab) ha _ rfl w X)
     ·exact key false (decide_eq_false (by omega)) (ms8f1 i a b (by simpa using hab) ha w X)
   ·by_cases o2:o=2
    ·subst o2
     by_cases hab:a=b
     ·exact key false (decide_eq_false (by omega)) (mse2 i a b (by simpa using hab) w X)
     ·by_cases ha:0≤a∧a<h.N
      ·exact key (decide (0≤b∧b<h.N)) (decide_eq_decide.2 (by omega)) (ms8t2 i a b (by simpa using hab) ha _ rfl w X)
      ·exact key false (decide_eq_false (by omega)) (ms8f2 i a b (by simpa using hab) ha w X)
    ·exact key false (decide_eq_false (by omega)) (msx i o a b (by simpa using o1) (by simpa using o2) (by simpa using o3) (by simpa using o4) w X)
set_option maxHeartbeats 4000000 in
theorem pSayWh_any {lo G:Nat} {h:Hd} {p:Hp} {R:List Rw} (i o a b:Int) (yes:Bool) (u:World) (k:HX lo u G h p R) (hl:lo≤u.heap.size) (hn:p.s.n≤1000) :
  Calls Tryz.prog 118 #[.pointer (some ⟨G,0,none⟩),.agg #[.int .i64 i,.int .i64 o,.int .i64 a,.int .i64 b],.bool yes] u fun e v=>e=.returned (.int .i64 1)∧(∃ g c,HX lo v G (sayH h i o a b (if yes then 1 else 2)) (sayP p g (p.s.n+1) c) R)∧Below lo u v:=by
 have bW:=belA u (.cells #[.int .i64 i,.int .i64 o,.int .i64 a,.int .i64 b] 28)
 have HK:=hideIt (k.up bW)
 have HS:Hid (∀ s:Int,Calls Tryz.prog 111 #[.pointer (some ⟨G,0,none⟩),.agg #[.int .i64 i,.int .i64 o,.int .i64 a,.int .i64 b],.int .i64 s] (u.alloc (.cells #[.int .i64 i,.int .i64 o,.int .i64 a,.int .i64 b] 28)) fun e v=>e=.returned (.int .i64 1)∧(∃ g c,HX lo v G (sayH h i o a b s) (sayP p g (p.s.n+1) c) R)∧Below lo u v):=fun s =>
  (pSay_any i o a b s _ HK.out (Nat.le_trans hl bW.size) hn).mono fun e v ⟨h1,h2,h3⟩=>⟨h1,h2,(bW.mono hl).trans h3⟩
 clear k bW HK
 cases yes with
 | true =>
  go_enter Tryz.func118,Tryz.ntmps118
  go_wp2_with (go_at_call 111;refine (HS.out 1).mono ?_;rintro e w1 ⟨rfl,hk,hb⟩)
  go_ret
  exact ⟨rfl,hk,hb⟩
 | false =>
  go_enter Tryz.func118,Tryz.ntmps118
  go_wp2_with (go_at_call 111;refine (HS.out 2).mono ?_;rintro e w1 ⟨rfl,hk,hb⟩)
  go_ret
  exact ⟨rfl,hk,hb⟩
def MvA (lo:Nat) (u:World) (G:Nat) (g:Hd) (c:Int) (e:Ending) (v:World):Prop:=e=.returned (.int .i64 c)∧(∃ p R,HX lo v G g p R)∧Below lo u v
set_option maxRecDepth 100000 in
set_option maxHeartbeats 8000000 in
theorem pMove_any {lo G S:Nat} {h:Hd} {p:Hp} {R:List Rw} (i a b:Int) (u:World) (k:HX lo u G h p R) (hi:HInv S h) (hl:lo≤u.heap.size) (ha:0≤a∧a<h.N) :
  Calls Tryz.prog 115 #[.pointer (some ⟨G,0,none⟩),.agg #[.int .i64 i,.int .i64 4,.int .i64 a,.int .i64 b]] u fun e v=>MvA lo u G (if O.atI h.own a=b then sayH h i 4 a b 2 else ordH h i 4 a b (O.atI h.own a) 3 [] a) (if O.atI h.own a=b then 1 else 2) e v:=by
 have ho:=hi.ownAt ha.1 ha.2
 have hln:=hi.lens k.hw.ow.inn
 have hnum:∀ y ∈ h.nums,0≤y∧y≤1000:=fun y hy=>by
  have h1:=hi.num.2 y hy
  have:=hi.sd.1
  split at h1 <;> omega
 obtain ⟨x,hx⟩:∃ x,O.atI h.own a=x:=⟨_,rfl⟩
 rw [hx] at ho ⊢
 obtain ⟨s,rfl⟩:∃ s:Nat,x=(s:Int)+1:=⟨(x - 1).toNat,by omega⟩
 obtain ⟨av,rfl⟩:∃ v:Nat,a=(v:Int):=⟨a.toNat,by omega⟩
 rw [Int.toNat_natCast] at ho
 have hs3:s≤2:=by have:=hi.s;omega
 have hsN:s<h.nums.length:=by have:=hi.num.1;omega
 obtain ⟨W,hW⟩:∃ W,W=u.alloc (.cells #[.int .i64 i,.int .i64 4,.int .i64 (av:Int),.int .i64 b] 28):=⟨_,rfl⟩
 have bW:Below u.heap.size u W:=by rw [hW];exact belA _ _
 have XA:BxA W u.heap.size 28 #[.int .i64 i,.int .i64 4,.int .i64 (av:Int),.int .i64 b]:=by rw [hW];exact BxA.new _ _ _
 have HK:=hideIt (k.up bW)
 have HXA:=hideIt XA
 have HB:=hideIt (bW.mono hl)
 have lG:G<u.heap.size:=k.bx.lt
 have HL:Hid (lo≤W.heap.size):=Nat.le_trans hl bW.size
 have hn:p.s.n≤1000:=by omega
 obtain ⟨bo,oo,ea,hbo,hco⟩:∃ bo oo,p.o.a=some ⟨bo,oo,none⟩∧bo<W.heap.size∧W.cell? ⟨bo,oo+av,none⟩=some (.int .i64 ((s:Int)+1)):=by
  rcases (Is_own HK.out.hw.ow.o).2 with h0 | ⟨bo,oo,e,hb,hc⟩
  ·omega
  ·exact ⟨bo,oo,e,hb,hc _ _ ho.2⟩
 have g1:W.cell? ⟨G,1,none⟩=some (.slice p.o.a p.o.n p.o.c):=HK.out.bx.cell 1 rfl
 rw [ea] at g1
 have x2:=XA.cell 2 rfl
 have q1:(0:Int)≤(av:Int):=by omega
 have q2:(av:Int)<(p.o.n:Int):=by omega
 have HSy:Hid (∀ v,v=W.drew→Calls Tryz.prog 111 #[.pointer (some ⟨G,0,none⟩),.agg #[.int .i64 i,.int .i64 4,.int .i64 (av:Int),.int .i64 b],.int .i64 2] v fun e v=>e=.returned (.int .i64 1)∧(∃ p R,HX lo v G (sayH h i 4 (av:Int) b 2) p R)∧Below lo u v):=fun v hv=>by
  subst hv
  exact (pSay_any i 4 (av:Int) b 2 W.drew (HK.out.up (Below.refl _ _).drew) HL.out hn).mono fun e v ⟨h1,⟨g,c,h2⟩,h3⟩=>⟨h1,⟨_,_,h2⟩,HB.out.trans (Below.trans (Below.refl _ _).drew h3)⟩
 have HOr:Hid (∀ v,v=W.drew→Calls Tryz.prog 138 #[.pointer (some ⟨G,0,none⟩),.agg #[.int .i64 i,.int .i64 4,.int .i64 (av:Int),.int .i64 b],.int .i64 ((s:Int)+1),.agg #[.int .i64 0,.int .i64 3,.slice none 0 0,.int .i64 (av:Int)]] v fun e v=>e=.returned (.int .i64 2)∧(∃ p R,HX lo v G (ordH h i 4 (av:Int) b ((s:Int)+1) 3 [] (av:Int)) p R)∧Below lo u v):=fun v hv=>by
  subst hv
  exact (pOrder_any i 4 (av:Int) b s 0 3 (av:Int) [] none 0 0 W.drew (HK.out.up (Below.refl _ _).drew) HL.out hsN hs3 hnum (World.ownsRow_nil _ _ _ _) (fun b _=>by simp [Value.ownBlock])).mono fun e v ⟨h1,h2,h3⟩=>⟨h1,⟨_,_,h2⟩,HB.out.trans (Below.trans (Below.refl _ _).drew h3)⟩
 have YA:=(HXA.out.up (Below.refl W.heap.size W).drew)
 have w0:=YA.cell 0 rfl
 have w1:=YA.cell 1 rfl
 have w2:=YA.cell 2 rfl
 have w3:=YA.cell 3 rfl
 clear k hi ho hln hnum bW XA ea hl ha hx YA
 by_cases hxb:(s:Int)+1=b
 ·rw [if_pos hxb,if_pos hxb]
  subst hxb
  have e1:((s:Int)+1 == (s:Int)+1)=true:=by simp
  go_enter Tryz.func115,Tryz.ntmps115
  go_upto_region 1 with fail
  rw [← hW]
  clear hW
  go_region_held3 (fun v=>v.cell? ⟨G,1,none⟩=some (.slice (some ⟨bo,oo,none⟩) p.o.n p.o.c)∧v.cell? ⟨u.heap.size,2,none⟩=some (.int .i64 (av:Int))∧v.cell? ⟨bo,oo+av,none⟩=some (.int .i64 ((s:Int)+1))) (exact ⟨g1,x2,hco⟩) (fail)
  obtain ⟨W1,hW1⟩:∃ W1,W1=W.drew:=⟨_,rfl⟩
  have HSy1:=hideIt (HSy.out W1 hW1)
  rw [← hW1] at w0 w1 w2 w3 ⊢
  clear hW1 g1 x2 hco HSy HOr
  go_wp2_with (go_at_call 111;refine HSy1.out.mono ?_;rintro e w1 ⟨rfl,hk,hb⟩)
  go_ret
  exact ⟨rfl,hk,hb⟩
 ·rw [if_neg hxb,if_neg hxb]
  have e1:((s:Int)+1 == b)=false:=by simpa using hxb
  go_enter Tryz.func115,Tryz.ntmps115
  go_upto_region 1 with fail
  rw [← hW]
  clear hW
  go_region_held3 (fun v=>v.cell? ⟨G,1,none⟩=some (.slice (some ⟨bo,oo,none⟩) p.o.n p.o.c)∧v.cell? ⟨u.heap.size,2,none⟩=some (.int .i64 (av:Int))∧v.cell? ⟨bo,oo+av,none⟩=some (.int .i64 ((s:Int)+1))) (exact ⟨g1,x2,hco⟩) (fail)
  obtain ⟨W1,hW1⟩:∃ W1,W1=W.drew:=⟨_,rfl⟩
  have HOr1:=hideIt (HOr.out W1 hW1)
  rw [← hW1] at w0 w1 w2 w3 ⊢
  clear hW1 g1 x2 hco HSy HOr hxb
  go_wp2_with (go_at_call 138;refine HOr1.out.mono ?_;rintro e w1 ⟨rfl,hk,hb⟩)
  go_ret
  exact ⟨rfl,hk,hb⟩
def setH (h:Hd) (num:Int) (ls:List Int):Hd:=⟨h.N,h.own,h.cuts,h.lab.set (h.sh - 1).toNat ls,h.nums.set (h.sh - 1).toNat num,h.i,h.o,h.a,h.b,h.sh,h.num,h.op,h.es,h.v,h.said⟩
def ownH (h:Hd) (a b:Int) (cs:List O.EdgeV):Hd:=⟨h.N,h.own.set a.toNat b,cs,h.lab,h.nums,h.i,h.o,h.a,h.b,h.sh,h.num,h.op,h.es,h.v,h.said⟩
def mvI (h:Hd) (a b:Int) (fs:List O.EdgeV):List O.EdgeV:=O.insE (h.own.set a.toNat b) fs b
def mvC (h:Hd) (a b:Int) (fs:List O.EdgeV):List O.EdgeV:=fs.filter fun e=>!(O.hasB (mvI h a b fs) e)
def mvH (h:Hd) (i a b:Int) (es:List O.EdgeV):Hd × Int :=
 match O.mvE h.cuts es with
 | none=>(sayH h i 4 a b 3,1)
 | some fs=>if (mvI h a b fs).length=0 then (sayH (ownH h a b (mvC h a b fs)) i 4 a b 1,1) else (ordH (ownH h a b (mvC h a b fs)) i 4 a b b 4 (mvI h a b fs) 0,2)
def hdH (h:Hd) (ok:Bool) (es:List O.EdgeV):Hd × Int :=
 if h.o=4 then (if h.op=3 then mvH h h.i h.a h.b es else (sayH h h.i 4 h.a h.b 1,1)) else (sayH h h.i h.o h.a h.b (if ok then 1 else 2),1)
def hearB (h:Hd) (sh:Int) (an:O.AnsV):Bool:=ctB h && (O.aB h.N an && decide (sh=h.sh∧an.num=h.num))
def hearR (h:Hd) (sh:Int) (an:O.AnsV):Option Hd:=if hearB h sh an=true then some (hdH (setH h an.num an.ls) an.ok an.es).1 else none
structure HQ (S:Nat) (h:Hd):Prop where
 n:1≤h.N∧h.N≤12
 s:1≤S∧S≤3
 own:(h.own.length:Int)=h.N∧∀ x ∈ h.own,1≤x∧x≤(S:Int)
 cut:O.eOk h.N h.cuts=true
 lab:h.lab.length=S∧∀ l ∈ h.lab,O.lB h.N l=true
 num:h.nums.length=S∧∀ x ∈ h.nums,0≤x
 sd:h.said.length≤80∧SdOk h.said
theorem HQ.say {S:Nat} {h:Hd} (k:HQ S h) {i o a b s:Int} (hn:∀ x ∈ h.nums,x≤2*(h.said.length:Int)+2) (hl:h.said.length≤79) (hp:plc h.said i = -1) (hs:1≤s∧s≤3):HInv S (sayH h i o a b s) :=
 ⟨k.n,k.s,k.own,k.cut,k.lab,⟨k.num.1,fun x hx=>by
  have h1:=hn x hx
  have h2:=k.num.2 x hx
  have e:(sayH h i o a b s).op=0:=rfl
  have e2:(sayH h i o a b s).said.length=h.said.length+1:=by simp [sayH]
  rw [e,e2]
  simp
  omega⟩,⟨by simp [sayH];omega,k.sd.2.snoc rfl hs hp⟩,.inl ⟨rfl,rfl,rfl,rfl,rfl,rfl,rfl,rfl,rfl⟩⟩
theorem HQ.order {S:Nat} {h:Hd} (k:HQ S h) {i o a b sh op:Int} {es:List O.EdgeV} {v:Int} (hnu:∀ x ∈ h.nums,x≤2*(h.said.length:Int)+(if op=4 then 1 else 0)) (hl:h.said.length≤79) (hp:plc h.said i = -1) (hi:1≤i∧i≤100000)
  (hr:rgB h.N S o a b=true) (h3:o≠3) (ho:(o≠4∧op≠4)∨(o=4∧(op=3∨op=4))) (hsh:1≤sh∧sh≤(S:Int)) (he:O.eOk h.N es=true) (hO:∀ num,O.OpOk h.N ⟨num,op,es,v⟩):HInv S (ordH h i o a b sh op es v):=by
 refine ⟨k.n,k.s,k.own,k.cut,k.lab,⟨k.num.1,fun x hx=>⟨k.num.2 x hx,hnu x hx⟩⟩,k.sd,.inr ⟨hsh,?_,rfl,hp,hr,h3,hi,hl,ho⟩⟩
 have hm:=(atI_mem (ls:=h.nums) (v:=sh - 1) (by omega) (by have:=k.num.1;omega)).1
 have h1:=k.num.2 _ hm
 have h2:=hnu _ hm
 show O.oB h.N ⟨O.atI h.nums (sh - 1)+1,op,es,v⟩=true
 unfold O.oB
 rw [he,decide_eq_true k.n,decide_eq_true (hO _),decide_eq_true]
 ·rfl
 ·refine ⟨by show 1≤O.atI h.nums (sh - 1)+1;omega,?_⟩
  show O.atI h.nums (sh - 1)+1≤100000
  split at h2 <;> omega
theorem mvI_ok {h:Hd} {n a b:Int} {fs:List O.EdgeV} (hf:O.eOk n fs=true):O.eOk n (mvI h a b fs)=true:=by unfold mvI O.insE;exact O.eOk_filter _ hf
theorem mvC_ok {h:Hd} {n a b:Int} {fs:List O.EdgeV} (hf:O.eOk n fs=true):O.eOk n (mvC h a b fs)=true:=O.eOk_filter _ hf
theorem HQ.owned {S:Nat} {h:Hd} (k:HQ S h) {a b:Int} {cs:List O.EdgeV} (hb:1≤b∧b≤(S:Int)) (hc:O.eOk h.N cs=true):HQ S (ownH h a b cs) :=
 ⟨k.n,k.s,⟨by have:=k.own.1;simpa [ownH] using this,fun x hx=>by
  rcases List.mem_or_eq_of_mem_set hx with h1 | h1
  ·exact k.own.2 x h1
  ·rw [h1];exact hb⟩,hc,k.lab,k.num,k.sd⟩
theorem hear_tk {S:Nat} {h:Hd} (k:HInv S h) {sh:Int} {an:O.AnsV} (hb:hearB h sh an=true):TkB S h∧O.aB h.N an=true∧sh=h.sh∧an.num=h.num:=by
 unfold hearB at hb
 rw [Bool.and_eq_true,Bool.and_eq_true,decide_eq_true_iff] at hb
 obtain ⟨_,ha,hs,hn⟩:=hb
 refine ⟨?_,ha,hs,hn⟩
 rcases k.tk with t | t
 ·unfold O.aB at ha
  rw [Bool.and_eq_true,Bool.and_eq_true,decide_eq_true_iff,decide_eq_true_iff] at ha
  have:=t.2.2.2.2.2.1
  have:=ha.2.1
  omega
 ·exact t
theorem aB_parts {n:Int} {an:O.AnsV} (h:O.aB n an=true):(1≤an.num∧an.num≤100000)∧O.eOk n an.es=true∧O.lB n an.ls=true:=by
 unfold O.aB at h
 rw [Bool.and_eq_true,Bool.and_eq_true,Bool.and_eq_true,decide_eq_true_iff,decide_eq_true_iff] at h
 exact ⟨h.2.1,h.2.2.1,h.2.2.2⟩
theorem HInv.set {S:Nat} {h:Hd} (k:HInv S h) {num:Int} {ls:List Int} (hn:0≤num) (hl:O.lB h.N ls=true):HQ S (setH h num ls) :=
 ⟨k.n,k.s,k.own,k.cut,⟨by have:=k.lab.1;simpa [setH] using this,fun l hm=>by
  rcases List.mem_or_eq_of_mem_set hm with h1 | h1
  ·exact k.lab.2 l h1
  ·rw [h1];exact hl⟩,⟨by have:=k.num.1;simpa [setH] using this,fun x hm=>by
  rcases List.mem_or_eq_of_mem_set hm with h1 | h1
  ·exact (k.num.2 x h1).1
  ·rw [h1];exact hn⟩,k.sd⟩
theorem HInv.setNum {S:Nat} {h:Hd} (k:HInv S h) (t:TkB S h) {num:Int} {ls:List Int} (hn:num=h.num):∀ x ∈ (setH h num ls).nums,x≤2*(h.said.length:Int)+(if h.op=4 then 1 else 0)+1:=by
 intro x hx
 rcases List.mem_or_eq_of_mem_set hx with h1 | h1
 ·have:=(k.num.2 x h1).2;omega
 ·have hm:=(atI_mem (ls:=h.nums) (v:=h.sh - 1) (by have:=t.sh;omega) (by have:=k.num.1;have:=t.sh;omega)).1
  have:=(k.num.2 _ hm).2
  have:=t.nu
  omega
theorem HInv.hear {S:Nat} {h:Hd} (k:HInv S h) {sh:Int} {an:O.AnsV} (hb:hearB h sh an=true):HInv S (hdH (setH h an.num an.ls) an.ok an.es).1∧((hdH (setH h an.num an.ls) an.ok an.es).2=1∨(hdH (setH h an.num an.ls) an.ok an.es).2=2):=by
 obtain ⟨t,ha,_,hn⟩:=hear_tk k hb
 obtain ⟨a1,a2,a3⟩:=aB_parts ha
 have q:=k.set (num:=an.num) (by omega) a3
 have hx:=k.setNum t (ls:=an.ls) hn
 have hx2:∀ x ∈ (setH h an.num an.ls).nums,x≤2*(h.said.length:Int)+2:=fun x hm=>by have:=hx x hm;split at this <;> omega
 have hrg:=t.rg
 have hp:=rgB_parts hrg
 unfold hdH
 split
 ·rename_i h4
  have h4':h.o=4:=h4
  split
  ·rename_i h3
   have h3':h.op=3:=h3
   have hb4:1≤h.b∧h.b≤(S:Int):=by omega
   unfold mvH
   split
   ·exact ⟨q.say hx2 t.ln t.pl (by omega),.inl rfl⟩
   ·rename_i fs hfs
    have hf:O.eOk h.N fs=true:=O.mvE_ok k.cut a2 hfs
    have q2:=q.owned (a:=h.a) (b:=h.b) hb4 (mvC_ok (h:=setH h an.num an.ls) (a:=h.a) (b:=h.b) hf)
    split
    ·exact ⟨q2.say hx2 t.ln t.pl (by omega),.inl rfl⟩
    ·rename_i hne
     refine ⟨q2.order (fun x hm=>?_) t.ln t.pl t.id (by rw [h4'] at hrg;exact hrg) (by omega) (.inr ⟨rfl,.inr rfl⟩) hb4 (mvI_ok hf) fun num=>.inr (.inr ⟨rfl,rfl,Nat.pos_of_ne_zero hne⟩),.inr rfl⟩
     have:=hx x hm
     rw [if_neg (by omega)] at this
     rw [if_pos rfl]
     exact this
  ·exact ⟨q.say hx2 t.ln t.pl (by omega),.inl rfl⟩
 ·exact ⟨q.say hx2 t.ln t.pl (by split <;> omega),.inl rfl⟩
theorem HInv.hearR {S:Nat} {h g:Hd} (k:HInv S h) {sh:Int} {an:O.AnsV} (hr:Go.Proofs.YtnagchanokbgdaaGreat.hearR h sh an=some g):HInv S g:=by
 unfold Go.Proofs.YtnagchanokbgdaaGreat.hearR at hr
 split at hr
 ·rename_i hb
  cases hr
  exact (k.hear hb).1
 ·cases hr
end Go.Proofs.YtnagchanokbgdaaGreat
