/- markHead and heldHead of any head. The law of HeadFrom. -/
import Derived.Test.YtnagchanokbgdaaGreatJHg21
import Derived.Test.YtnagchanokbgdaaGreatJHt13
import Derived.Test.YtnagchanokbgdaaGreatJSq1
import Derived.Test.YtnagchanokbgdaaGreatJHj13
namespace Go.Proofs.YtnagchanokbgdaaGreat
open Go.RowKit
def kA (p:Hp):Nat:=1+p.o.n
def kB (p:Hp):Nat:=kA p+p.c.n*2
def kC (p:Hp) (R:List Rw):Nat:=kB p+rn R
def kD (p:Hp) (R:List Rw):Nat:=kC p R+p.n.n
def kE (p:Hp) (R:List Rw):Nat:=kD p R+p.e.n*2
def kF (p:Hp) (R:List Rw):Nat:=kE p R+p.s.n*6
def mkHd (h:Hd) (p:Hp) (R:List Rw):Hd:=⟨h.N,imarks 1 p.o.n,O.marks (kA p) p.c.n,rts (mkR (kB p) R),imarks (kC p R) p.n.n,h.i,h.o,h.a,h.b,h.sh,h.num,h.op,O.marks (kD p R) p.e.n,h.v,marksS (kE p R) p.s.n⟩
theorem own_keepV {u v:World} {B e s n:Nat} {x y:Value} {xs:List Value} (h:u.ownsRow B e s x n xs) (hg:u.grownBy v y.ownBlock) (hne:∀ b,x.ownBlock=some b→y.ownBlock≠some b):v.ownsRow B e s x n xs :=
 World.ownsRow.kept h hg (by
  cases hb:x.ownBlock with
  | none=>exact .inl rfl
  | some b=>exact .inr fun e=>hne b hb e.symm)
section
variable {lo G:Nat} {u v:World} {h:Hd} {p:Hp} {R:List Rw}
theorem HX.mO (k:HX lo u G h p R) {os:List Int} (ho:v.ownsRow lo 3 1 p.o.v p.o.n (ic os)) (hg:u.grownBy v p.o.v.ownBlock):HX lo v G { h with own:=os } p R :=
 ⟨k.bx.grown hg (own_neB k.hw.ow.o k.bx (by decide)),k.ge,⟨ho,own_keepR k.hw.ow.c k.hw.ow.o (by decide) hg,(fb_grown k.hw.ow.l k.hw.ow.o hg k.hw.sp.orr).hi hg.size (Nat.le_refl _),k.hw.ow.r,own_keepV k.hw.ow.n hg (fun b hb e=>k.hw.sp.on b e hb),own_keepR k.hw.ow.e k.hw.ow.o (by decide) hg,own_keepR k.hw.ow.s k.hw.ow.o (by decide) hg⟩,k.hw.sp,k.hw.ce⟩
theorem HX.mC (k:HX lo u G h p R) {cs:List O.EdgeV} (ho:v.ownsRow lo 107 2 p.c.v p.c.n (O.ecells cs)) (hg:u.grownBy v p.c.v.ownBlock):HX lo v G { h with cuts:=cs } p R :=
 ⟨k.bx.grown hg (own_neB k.hw.ow.c k.bx (by decide)),k.ge,⟨own_keepR k.hw.ow.o k.hw.ow.c (by decide) hg,ho,FB.keepR k.hw.ow.l k.hw.ow.c (by decide) (by decide) hg,k.hw.ow.r,own_keepR k.hw.ow.n k.hw.ow.c (by decide) hg,own_keepV k.hw.ow.e hg (fun b hb e=>k.hw.ce b e hb),own_keepR k.hw.ow.s k.hw.ow.c (by decide) hg⟩,k.hw.sp,k.hw.ce⟩
theorem HX.mN (k:HX lo u G h p R) {os:List Int} (ho:v.ownsRow lo 3 1 p.n.v p.n.n (ic os)) (hg:u.grownBy v p.n.v.ownBlock):HX lo v G { h with nums:=os } p R :=
 ⟨k.bx.grown hg (own_neB k.hw.ow.n k.bx (by decide)),k.ge,⟨own_keepV k.hw.ow.o hg (fun b hb e=>k.hw.sp.on b hb e),own_keepR k.hw.ow.c k.hw.ow.n (by decide) hg,(fb_grown k.hw.ow.l k.hw.ow.n hg k.hw.sp.nr).hi hg.size (Nat.le_refl _),k.hw.ow.r,ho,own_keepR k.hw.ow.e k.hw.ow.n (by decide) hg,own_keepR k.hw.ow.s k.hw.ow.n (by decide) hg⟩,k.hw.sp,k.hw.ce⟩
theorem HX.mE (k:HX lo u G h p R) {cs:List O.EdgeV} (ho:v.ownsRow lo 107 2 p.e.v p.e.n (O.ecells cs)) (hg:u.grownBy v p.e.v.ownBlock):HX lo v G { h with es:=cs } p R :=
 ⟨k.bx.grown hg (own_neB k.hw.ow.e k.bx (by decide)),k.ge,⟨own_keepR k.hw.ow.o k.hw.ow.e (by decide) hg,own_keepV k.hw.ow.c hg (fun b hb e=>k.hw.ce b hb e),FB.keepR k.hw.ow.l k.hw.ow.e (by decide) (by decide) hg,k.hw.ow.r,own_keepR k.hw.ow.n k.hw.ow.e (by decide) hg,ho,own_keepR k.hw.ow.s k.hw.ow.e (by decide) hg⟩,k.hw.sp,k.hw.ce⟩
theorem HX.mS (k:HX lo u G h p R) {ss:List Sd} (ho:v.ownsRow lo 82 6 p.s.v p.s.n (scells ss)) (hg:u.grownBy v p.s.v.ownBlock):HX lo v G { h with said:=ss } p R :=
 ⟨k.bx.grown hg (own_neB k.hw.ow.s k.bx (by decide)),k.ge,⟨own_keepR k.hw.ow.o k.hw.ow.s (by decide) hg,own_keepR k.hw.ow.c k.hw.ow.s (by decide) hg,FB.keepR k.hw.ow.l k.hw.ow.s (by decide) (by decide) hg,k.hw.ow.r,own_keepR k.hw.ow.n k.hw.ow.s (by decide) hg,own_keepR k.hw.ow.e k.hw.ow.s (by decide) hg,ho⟩,k.hw.sp,k.hw.ce⟩
theorem HX.mL (k:HX lo u G h p R) {q:Nat} (hF:FB v lo u.heap.size p.l.a p.l.n p.l.c (mkR q R)) (ht:Tur R u v):HX lo v G { h with lab:=rts (mkR q R) } p (mkR q R):=by
 have hx:BxA v G 35 (hC h p):=by
  unfold BxA
  rw [ht.block G k.bx.lt (fun r hr e=>(k.hw.ow.l.ins r hr).1.neB k.bx e.symm)]
  exact k.bx
 refine ⟨hx,k.ge,⟨own_tur k.hw.ow.o ht k.hw.sp.orr,own_tur k.hw.ow.c ht (fun r hr=>(k.hw.ow.l.ins r hr).1.neR k.hw.ow.c (by decide)),hF.hi ht.size (Nat.le_refl _),rfl,own_tur k.hw.ow.n ht k.hw.sp.nr,own_tur k.hw.ow.e ht (fun r hr=>(k.hw.ow.l.ins r hr).1.neR k.hw.ow.e (by decide)),own_tur k.hw.ow.s ht (fun r hr=>(k.hw.ow.l.ins r hr).1.neR k.hw.ow.s (by decide))⟩,⟨k.hw.sp.on,fun r hr=>?_,fun r hr=>?_⟩,k.hw.ce⟩
 ·obtain ⟨y,hy,e⟩:=mkR_g hr
  rw [← e]
  exact k.hw.sp.orr y hy
 ·obtain ⟨y,hy,e⟩:=mkR_g hr
  rw [← e]
  exact k.hw.sp.nr y hy
theorem below_turW {w:World} {C:Nat} (h:Below C w u) (t:Tur R u v) (hR:∀ r ∈ R,C≤r.g) (hC:C≤w.heap.size):Below C w v :=
 ⟨t.os.trans h.os,t.tape.trans h.tape,t.output.trans h.output,Nat.le_trans h.size t.size,fun j hj=>(t.block j (Nat.lt_of_lt_of_le (Nat.lt_of_lt_of_le hj hC) h.size) (fun r hr e=>by have:=hR r hr;omega)).trans (h.block j hj)⟩
end
def BKeep (u v:World):Prop:=∀ (G:Nat) (cs:Array Value),BxA u G 35 cs→BxA v G 35 cs
theorem BKeep.grown {u w v:World} {B e s n:Nat} {x:Value} {xs:List Value} (k:BKeep u w) (hr:w.ownsRow B e s x n xs) (he:e≠35) (hg:w.grownBy v x.ownBlock):BKeep u v:=fun G cs h=>(k G cs h).grown hg (own_neB hr (k G cs h) he)
theorem BKeep.tur {u w v:World} {R:List Rw} (k:BKeep u w) (hR:∀ r ∈ R,RwB w r) (t:Tur R w v):BKeep u v:=fun G cs h=>by
 have h':=k G cs h
 unfold BxA
 rw [t.block G h'.lt (fun r hr e=>(hR r hr).neB h' e.symm)]
 exact h'
theorem markS_k {u:World} {lo:Nat} (a:Option Addr) (n c k0:Nat) (ss:List Sd) (hn:n≤1000) (hk:k0≤1000000) (h:u.ownsRow lo 82 6 (.slice a n c) n (scells ss)) :
  Calls Tryz.prog 17 #[.slice a n c,.int .i64 (k0:Int)] u fun e v=>e=.returned (.int .i64 ((k0+n*6:Nat):Int))∧v.ownsRow lo 82 6 (.slice a n c) n (scells (marksS k0 n))∧u.grownBy v (Value.slice a n c).ownBlock:=by
 rcases h.2 with ⟨hv,h0⟩ | ⟨g,cap,cur,hv,_⟩
 ·subst h0
  refine (markSaidS_zero a c (k0:Int) u).mono ?_
  rintro e v ⟨rfl,e9⟩
  have e8:=e9.symm
  subst e8
  simp at hv
  obtain ⟨rfl,rfl⟩:=hv
  exact ⟨by simp,World.ownsRow_nil _ _ _ _,⟨rfl,rfl,rfl,Nat.le_refl _,fun _ _ _=>rfl⟩⟩
 ·simp at hv
  obtain ⟨rfl,rfl⟩:=hv
  exact markSaidS_any lo g c n k0 ss hn hk u h
theorem markTask_own {lo G k0:Nat} {u:World} {h:Hd} {p:Hp} {R:List Rw} (k:HX lo u G h p R) (hl:lo≤u.heap.size) (hn:p.e.n≤1000) (hk:k0≤1000000) :
  Calls Tryz.prog 36 #[.agg #[.int .i64 h.i,.int .i64 h.o,.int .i64 h.a,.int .i64 h.b,.int .i64 h.sh,.int .i64 h.num,.int .i64 h.op,.slice p.e.a p.e.n p.e.c,.int .i64 h.v],.int .i64 (k0:Int)] u fun e v=>e=.returned (.int .i64 ((k0+p.e.n*2:Nat):Int))∧Hid (HX lo v G { h with es:=O.marks k0 p.e.n } p R∧Below lo u v∧BKeep u v):=by
 have b1:=belA u (.cells #[.int .i64 h.i,.int .i64 h.o,.int .i64 h.a,.int .i64 h.b,.int .i64 h.sh,.int .i64 h.num,.int .i64 h.op,.slice p.e.a p.e.n p.e.c,.int .i64 h.v] 32)
 obtain ⟨W,hW⟩:=ex0 (u.alloc (.cells #[.int .i64 h.i,.int .i64 h.o,.int .i64 h.a,.int .i64 h.b,.int .i64 h.sh,.int .i64 h.num,.int .i64 h.op,.slice p.e.a p.e.n p.e.c,.int .i64 h.v] 32))
 rw [← hW] at b1
 have X1:BxA W u.heap.size 32 #[.int .i64 h.i,.int .i64 h.o,.int .i64 h.a,.int .i64 h.b,.int .i64 h.sh,.int .i64 h.num,.int .i64 h.op,.slice p.e.a p.e.n p.e.c,.int .i64 h.v]:=by rw [hW];exact BxA.new _ _ _
 obtain ⟨V,hV⟩:=ex0 (W.alloc (.cells #[.int .i64 h.num,.int .i64 h.op,.slice p.e.a p.e.n p.e.c,.int .i64 h.v] 30))
 have b2:Below W.heap.size W V:=by rw [hV];exact belA _ _
 have bV:=b1.trans (b2.mono b1.size)
 have kV:=k.up bV
 have HE:Hid (Calls Tryz.prog 33 #[.slice p.e.a p.e.n p.e.c,.int .i64 (k0:Int)] V fun e v=>e=.returned (.int .i64 ((k0+p.e.n*2:Nat):Int))∧Hid (HX lo v G { h with es:=O.marks k0 p.e.n } p R∧Below lo u v∧BKeep u v)) :=
  (Q.markE_any (by omega) (by omega) kV.hw.ow.e).mono fun e v ⟨h1,h2,h3⟩=>⟨by rw [h1];(first | rfl | (congr 2;omega) | congr 2),kV.mE h2 h3,((bV.mono hl)).grown h3 (Nat.le_trans hl bV.size) (fun j hj=>(kV.hw.ow.e.lt j hj).1),BKeep.grown (u:=u) (fun _ _ h=>h.up bV) kV.hw.ow.e (by decide) h3⟩
 have HO:Hid (Calls Tryz.prog 69 #[.agg #[.int .i64 h.num,.int .i64 h.op,.slice p.e.a p.e.n p.e.c,.int .i64 h.v],.int .i64 (k0:Int)] W fun e v=>e=.returned (.int .i64 ((k0+p.e.n*2:Nat):Int))∧Hid (HX lo v G { h with es:=O.marks k0 p.e.n } p R∧Below lo u v∧BKeep u v)):=by
  obtain ⟨kk,hkk⟩:=ex0 (k0+p.e.n*2)
  rw [← hkk] at HE
  show Calls _ _ _ _ _
  rw [← hkk]
  clear hkk X1 k kV bV b1 b2 hW
  go_enter Tryz.func69,Tryz.ntmps69
  go_upto_region 1 with fail
  rw [← hV]
  have y2:V.cell? ⟨W.heap.size,2,none⟩=some (.slice p.e.a p.e.n p.e.c):=by rw [hV];simp [go_sem]
  clear hV
  go_wp2_with (go_at_call 33;refine HE.out.mono ?_;rintro e w1 ⟨rfl,hx⟩;refine Hid.out ?_)
  refine (show ∀ {p:Prop},p→Hid p from fun h=>h) ?_
  go_wp2
  go_ret
  exact ⟨rfl,hx⟩
 obtain ⟨kk,hkk⟩:=ex0 (k0+p.e.n*2)
 rw [← hkk] at HO ⊢
 have y5:=X1.cell 5 rfl
 have y6:=X1.cell 6 rfl
 have y7:W.cell? ⟨u.heap.size,7,none⟩=some (.slice p.e.a p.e.n p.e.c):=X1.cell 7 rfl
 have y8:=X1.cell 8 rfl
 clear hkk X1 k kV bV b1 b2 HE hV
 go_enter Tryz.func36,Tryz.ntmps36
 go_upto_region 1 with fail
 rw [← hW]
 clear hW
 go_wp2_with (go_at_call 69;refine HO.out.mono ?_;rintro e w1 ⟨rfl,hx⟩;refine Hid.out ?_)
 refine (show ∀ {p:Prop},p→Hid p from fun h=>h) ?_
 go_wp2
 go_ret
 exact ⟨rfl,hx⟩
theorem heldTask_own (i o a b sh num op vv:Int) (k0 n:Nat) (ad:Option Addr) (c:Nat) (hn:n≤1000) (hk:k0≤1000000) (u:World) (hE:O.Es u u.heap.size ad n (O.marks k0 n)) :
  Calls Tryz.prog 40 #[.agg #[.int .i64 i,.int .i64 o,.int .i64 a,.int .i64 b,.int .i64 sh,.int .i64 num,.int .i64 op,.slice ad n c,.int .i64 vv],.int .i64 (k0:Int)] u fun e v=>e=.returned (.int .i64 ((k0+n*2:Nat):Int))∧Below u.heap.size u v:=by
 obtain ⟨W,hW⟩:=ex0 (u.alloc (.cells #[.int .i64 i,.int .i64 o,.int .i64 a,.int .i64 b,.int .i64 sh,.int .i64 num,.int .i64 op,.slice ad n c,.int .i64 vv] 32))
 have b1:Below u.heap.size u W:=by rw [hW];exact belA _ _
 have X1:BxA W u.heap.size 32 #[.int .i64 i,.int .i64 o,.int .i64 a,.int .i64 b,.int .i64 sh,.int .i64 num,.int .i64 op,.slice ad n c,.int .i64 vv]:=by rw [hW];exact BxA.new _ _ _
 obtain ⟨kk,hkk⟩:=ex0 (k0+n*2)
 have HO:Hid (Calls Tryz.prog 70 #[.agg #[.int .i64 num,.int .i64 op,.slice ad n c,.int .i64 vv],.int .i64 (k0:Int)] W fun e v=>e=.returned (.int .i64 (kk:Int))∧Below u.heap.size u v) :=
  (Q.heldOrder_any num op vv n k0 ad c (by omega) (by omega) W (hE.up b1)).mono fun e v ⟨h1,h2⟩=>⟨by rw [h1,hkk];(first | rfl | (congr 2;omega) | congr 2),b1.trans (h2.mono b1.size)⟩
 have dk:decide ((kk:Int)<0)=false:=decide_eq_false (by omega)
 rw [← hkk]
 have y5:=X1.cell 5 rfl
 have y6:=X1.cell 6 rfl
 have y7:=X1.cell 7 rfl
 have y8:=X1.cell 8 rfl
 clear hkk X1 b1
 go_enter Tryz.func40,Tryz.ntmps40
 go_upto_region 1 with fail
 rw [← hW]
 clear hW
 go_wp2_with (go_at_call 70;refine HO.out.mono ?_;rintro e w1 ⟨rfl,hx⟩;refine Hid.out ?_)
 refine (show ∀ {p:Prop},p→Hid p from fun h=>h) ?_
 go_wp2
 go_ret
 exact ⟨rfl,hx⟩
structure HSm (p:Hp) (R:List Rw):Prop where
 o:p.o.n≤100
 c:p.c.n≤100
 l:p.l.n≤100
 r:rn R≤1000
 n:p.n.n≤100
 e:p.e.n≤100
 s:p.s.n≤100
set_option maxRecDepth 100000 in
set_option maxHeartbeats 4000000 in
theorem markHead_any {lo:Nat} {u:World} {h:Hd} {p:Hp} {R:List Rw} (k:HW u lo h p R) (hl:lo≤u.heap.size) (hs:HSm p R) :
  Calls Tryz.prog 12 #[.agg (hC h p),.int .i64 1] u fun e v=>e=.returned (.int .i64 (kF p R:Int))∧HW v lo (mkHd h p R) p (mkR (kB p) R)∧Below lo u v∧BKeep u v:=by
 obtain ⟨W,hW⟩:=ex0 (u.alloc (.cells (hC h p) 35))
 have bW:Below u.heap.size u W:=by rw [hW];exact belA _ _
 have X0:BxA W u.heap.size 35 (hC h p):=by rw [hW];exact BxA.new _ _ _
 have K0:HX lo W u.heap.size h p R:=⟨X0,hl,k.up bW⟩
 have hs':=hideIt hs
 have b0:Hid (Below lo u W):=bW.mono hl
 have kp0:BKeep u W:=fun _ _ h=>h.up bW
 have gW:lo≤W.heap.size:=Nat.le_trans hl bW.size
 have hb1:kA p≤10000:=by unfold kA;have:=hs.o;omega
 have hb2:kB p≤10000:=by unfold kB kA;have:=hs.o;have:=hs.c;omega
 have hb3:kC p R≤10000:=by unfold kC kB kA;have:=hs.o;have:=hs.c;have:=hs.r;omega
 have hb4:kD p R≤10000:=by unfold kD kC kB kA;have:=hs.o;have:=hs.c;have:=hs.r;have:=hs.n;omega
 have hb5:kE p R≤10000:=by unfold kE kD kC kB kA;have:=hs.o;have:=hs.c;have:=hs.r;have:=hs.n;have:=hs.e;omega
 have H1:Hid (Calls Tryz.prog 34 #[.slice p.o.a p.o.n p.o.c,.int .i64 1] W fun e v=>e=.returned (.int .i64 (kA p:Int))∧Hid (HX lo v u.heap.size { h with own:=imarks 1 p.o.n } p R∧Below lo u v∧BKeep u v)) :=
  (markI13 (k0:=1) (by have:=hs.o;omega) (by omega) K0.hw.ow.o).mono fun e v ⟨h1,h2,h3⟩=>⟨by rw [h1];unfold kA;(first | rfl | (congr 2;omega) | congr 2),K0.mO h2 h3,b0.out.grown h3 gW (fun j hj=>(K0.hw.ow.o.lt j hj).1),kp0.grown K0.hw.ow.o (by decide) h3⟩
 have x1:W.cell? ⟨u.heap.size,1,none⟩=some (.slice p.o.a p.o.n p.o.c):=X0.cell 1 rfl
 have Hl:=hideIt hl
 clear X0 K0 bW k hs gW hl b0 kp0
 go_enter Tryz.func12,Tryz.ntmps12
 go_upto_region 1 with fail
 rw [← hW]
 clear hW
 go_wp2_with (go_at_call 34;refine H1.out.mono ?_;rintro e w1 ⟨rfl,q1⟩;refine Hid.out ?_)
 refine hidp20 ?_
 have gl1:Hid (lo≤w1.heap.size):=Nat.le_trans Hl.out q1.out.2.1.size
 have H2:Hid (Calls Tryz.prog 33 #[.slice p.c.a p.c.n p.c.c,.int .i64 (kA p:Int)] w1 fun e v=>e=.returned (.int .i64 (kB p:Int))∧Hid (HX lo v u.heap.size { h with own:=imarks 1 p.o.n,cuts:=O.marks (kA p) p.c.n } p R∧Below lo u v∧BKeep u v)) :=
  (Q.markE_any (k0:=kA p) (by have:=hs'.out.c;omega) (by omega) q1.out.1.hw.ow.c).mono fun e v ⟨h1,h2,h3⟩=>⟨by rw [h1];unfold kB;(first | rfl | (congr 2;omega) | congr 2),q1.out.1.mC h2 h3,q1.out.2.1.grown h3 gl1.out (fun j hj=>(q1.out.1.hw.ow.c.lt j hj).1),q1.out.2.2.grown q1.out.1.hw.ow.c (by decide) h3⟩
 have x2:w1.cell? ⟨u.heap.size,2,none⟩=some (.slice p.c.a p.c.n p.c.c):=q1.out.1.bx.cell 2 rfl
 clear x1 H1 q1 gl1
 go_wp2_with (go_at_call 33;refine H2.out.mono ?_;rintro e w2 ⟨rfl,q2⟩;refine Hid.out ?_)
 refine hidp20 ?_
 have gl2:Hid (lo≤w2.heap.size):=Nat.le_trans Hl.out q2.out.2.1.size
 have H3:Hid (Calls Tryz.prog 35 #[.slice p.l.a p.l.n p.l.c,.int .i64 (kB p:Int)] w2 fun e v=>e=.returned (.int .i64 (kC p R:Int))∧Hid (HX lo v u.heap.size { h with own:=imarks 1 p.o.n,cuts:=O.marks (kA p) p.c.n,lab:=rts (mkR (kB p) R) } p (mkR (kB p) R)∧Below lo u v∧BKeep u v)) :=
  (markIntSS_any R lo w2.heap.size p.l.n (kB p) p.l.a p.l.c (by have:=hs'.out.l;have:=hs'.out.r;omega) (by omega) w2 q2.out.1.hw.ow.l).mono fun e v ⟨h1,h2,h3⟩=>⟨by rw [h1];unfold kC;(first | rfl | (congr 2;omega) | congr 2),q2.out.1.mL h2 h3,below_turW q2.out.2.1 h3 (fun r hr=>(q2.out.1.hw.ow.l.ins r hr).2.1) Hl.out,q2.out.2.2.tur (fun r hr=>(q2.out.1.hw.ow.l.ins r hr).1) h3⟩
 have x3:w2.cell? ⟨u.heap.size,3,none⟩=some (.slice p.l.a p.l.n p.l.c):=q2.out.1.bx.cell 3 rfl
 clear x2 H2 q2 gl2
 go_wp2_with (go_at_call 35;refine H3.out.mono ?_;rintro e w3 ⟨rfl,q3⟩;refine Hid.out ?_)
 refine hidp20 ?_
 have gl3:Hid (lo≤w3.heap.size):=Nat.le_trans Hl.out q3.out.2.1.size
 have H4:Hid (Calls Tryz.prog 34 #[.slice p.n.a p.n.n p.n.c,.int .i64 (kC p R:Int)] w3 fun e v=>e=.returned (.int .i64 (kD p R:Int))∧Hid (HX lo v u.heap.size { h with own:=imarks 1 p.o.n,cuts:=O.marks (kA p) p.c.n,lab:=rts (mkR (kB p) R),nums:=imarks (kC p R) p.n.n } p (mkR (kB p) R)∧Below lo u v∧BKeep u v)) :=
  (markI13 (k0:=kC p R) (by have:=hs'.out.n;omega) (by omega) q3.out.1.hw.ow.n).mono fun e v ⟨h1,h2,h3⟩=>⟨by rw [h1];unfold kD;(first | rfl | (congr 2;omega) | congr 2),q3.out.1.mN h2 h3,q3.out.2.1.grown h3 gl3.out (fun j hj=>(q3.out.1.hw.ow.n.lt j hj).1),q3.out.2.2.grown q3.out.1.hw.ow.n (by decide) h3⟩
 have x4:w3.cell? ⟨u.heap.size,4,none⟩=some (.slice p.n.a p.n.n p.n.c):=q3.out.1.bx.cell 4 rfl
 clear x3 H3 q3 gl3
 go_wp2_with (go_at_call 34;refine H4.out.mono ?_;rintro e w4 ⟨rfl,q4⟩;refine Hid.out ?_)
 refine hidp20 ?_
 have gl4:Hid (lo≤w4.heap.size):=Nat.le_trans Hl.out q4.out.2.1.size
 have H5:Hid (Calls Tryz.prog 36 #[.agg #[.int .i64 h.i,.int .i64 h.o,.int .i64 h.a,.int .i64 h.b,.int .i64 h.sh,.int .i64 h.num,.int .i64 h.op,.slice p.e.a p.e.n p.e.c,.int .i64 h.v],.int .i64 (kD p R:Int)] w4 fun e v=>e=.returned (.int .i64 (kE p R:Int))∧Hid (HX lo v u.heap.size { h with own:=imarks 1 p.o.n,cuts:=O.marks (kA p) p.c.n,lab:=rts (mkR (kB p) R),nums:=imarks (kC p R) p.n.n,es:=O.marks (kD p R) p.e.n } p (mkR (kB p) R)∧Below lo u v∧BKeep u v)) :=
  (markTask_own (k0:=kD p R) q4.out.1 gl4.out (by have:=hs'.out.e;omega) (by omega)).mono fun e v ⟨h1,h2⟩=>⟨h1,h2.out.1,q4.out.2.1.trans h2.out.2.1,fun G cs hx=>h2.out.2.2 G cs (q4.out.2.2 G cs hx)⟩
 obtain ⟨_,_,_,_,_,x5,x6,x7,x8,x9,x10,x11,x12,x13,_⟩:=q4.out.1.bx.all15p
 clear x4 H4 q4 gl4
 go_wp2_with (go_at_call 36;refine H5.out.mono ?_;rintro e w5 ⟨rfl,q5⟩;refine Hid.out ?_)
 refine hidp20 ?_
 have gl5:Hid (lo≤w5.heap.size):=Nat.le_trans Hl.out q5.out.2.1.size
 have H6:Hid (Calls Tryz.prog 17 #[.slice p.s.a p.s.n p.s.c,.int .i64 (kE p R:Int)] w5 fun e v=>e=.returned (.int .i64 (kF p R:Int))∧Hid (HX lo v u.heap.size (mkHd h p R) p (mkR (kB p) R)∧Below lo u v∧BKeep u v)) :=
  (markS_k p.s.a p.s.n p.s.c (kE p R) _ (by have:=hs'.out.s;omega) (by omega) q5.out.1.hw.ow.s).mono fun e v ⟨h1,h2,h3⟩=>⟨h1,q5.out.1.mS h2 h3,q5.out.2.1.grown h3 gl5.out (fun j hj=>(q5.out.1.hw.ow.s.lt j hj).1),q5.out.2.2.grown q5.out.1.hw.ow.s (by decide) h3⟩
 have x14:w5.cell? ⟨u.heap.size,14,none⟩=some (.slice p.s.a p.s.n p.s.c):=q5.out.1.bx.cell 14 rfl
 clear x5 x6 x7 x8 x9 x10 x11 x12 x13 H5 q5 gl5
 go_wp2_with (go_at_call 17;refine H6.out.mono ?_;rintro e w6 ⟨rfl,q6⟩;refine Hid.out ?_)
 refine hidp20 ?_
 clear x14 H6
 go_wp2
 go_ret
 exact ⟨rfl,q6.out.1.hw,q6.out.2.1,q6.out.2.2⟩
set_option maxRecDepth 100000 in
set_option maxHeartbeats 4000000 in
theorem heldHead_any {lo:Nat} {u:World} {h:Hd} {p:Hp} {R:List Rw} (k:HW u lo (mkHd h p R) p (mkR (kB p) R)) (hs:HSm p R) :
  Calls Tryz.prog 13 #[.agg (hC h p),.int .i64 1] u fun e v=>e=.returned (.int .i64 (kF p R:Int))∧Below u.heap.size u v:=by
 obtain ⟨W,hW⟩:=ex0 (u.alloc (.cells (hC h p) 35))
 have bW:Below u.heap.size u W:=by rw [hW];exact belA _ _
 have X0:BxA W u.heap.size 35 (hC h p):=by rw [hW];exact BxA.new _ _ _
 have K0:=k.up bW
 have hb1:kA p≤10000:=by unfold kA;have:=hs.o;omega
 have hb2:kB p≤10000:=by unfold kB kA;have:=hs.o;have:=hs.c;omega
 have hb3:kC p R≤10000:=by unfold kC kB kA;have:=hs.o;have:=hs.c;have:=hs.r;omega
 have hb4:kD p R≤10000:=by unfold kD kC kB kA;have:=hs.o;have:=hs.c;have:=hs.r;have:=hs.n;omega
 have hb5:kE p R≤10000:=by unfold kE kD kC kB kA;have:=hs.o;have:=hs.c;have:=hs.r;have:=hs.n;have:=hs.e;omega
 have d1:decide ((kA p:Int)<0)=false:=decide_eq_false (by omega)
 have d2:decide ((kB p:Int)<0)=false:=decide_eq_false (by omega)
 have d3:decide ((kC p R:Int)<0)=false:=decide_eq_false (by omega)
 have d4:decide ((kD p R:Int)<0)=false:=decide_eq_false (by omega)
 have d5:decide ((kE p R:Int)<0)=false:=decide_eq_false (by omega)
 have d6:decide ((kF p R:Int)<0)=false:=decide_eq_false (by omega)
 have H1:Hid (Calls Tryz.prog 37 #[.slice p.o.a p.o.n p.o.c,.int .i64 1] W fun e v=>e=.returned (.int .i64 (kA p:Int))∧v=W) :=
  (heldIntS_any p.o.n 1 p.o.a p.o.c (by have:=hs.o;omega) (by omega) W (Is_of_own K0.ow.o)).mono fun e v ⟨h1,h2⟩=>⟨by rw [h1];unfold kA;(first | rfl | (congr 2;omega) | congr 2),h2⟩
 have H2:Hid (Calls Tryz.prog 38 #[.slice p.c.a p.c.n p.c.c,.int .i64 (kA p:Int)] W fun e v=>e=.returned (.int .i64 (kB p:Int))∧v=W) :=
  (O.heldEdgeS_any p.c.n (kA p) p.c.a p.c.c (by have:=hs.c;omega) (by omega) W (O.Es_of_own K0.ow.c)).mono fun e v ⟨h1,h2⟩=>⟨by rw [h1];unfold kB;(first | rfl | (congr 2;omega) | congr 2),h2⟩
 have H3:Hid (Calls Tryz.prog 39 #[.slice p.l.a p.l.n p.l.c,.int .i64 (kB p:Int)] W fun e v=>e=.returned (.int .i64 (kC p R:Int))∧v=W) :=
  (heldIntSS_any R lo W.heap.size p.l.n (kB p) p.l.a p.l.c (by have:=hs.l;have:=hs.r;omega) (by omega) W K0.ow.l).mono fun e v ⟨h1,h2⟩=>⟨by rw [h1];unfold kC;(first | rfl | (congr 2;omega) | congr 2),h2⟩
 have H4:Hid (Calls Tryz.prog 37 #[.slice p.n.a p.n.n p.n.c,.int .i64 (kC p R:Int)] W fun e v=>e=.returned (.int .i64 (kD p R:Int))∧v=W) :=
  (heldIntS_any p.n.n (kC p R) p.n.a p.n.c (by have:=hs.n;omega) (by omega) W (Is_of_own K0.ow.n)).mono fun e v ⟨h1,h2⟩=>⟨by rw [h1];unfold kD;(first | rfl | (congr 2;omega) | congr 2),h2⟩
 have H5:Hid (Calls Tryz.prog 40 #[.agg #[.int .i64 h.i,.int .i64 h.o,.int .i64 h.a,.int .i64 h.b,.int .i64 h.sh,.int .i64 h.num,.int .i64 h.op,.slice p.e.a p.e.n p.e.c,.int .i64 h.v],.int .i64 (kD p R:Int)] W fun e v=>e=.returned (.int .i64 (kE p R:Int))∧Below W.heap.size W v) :=
  heldTask_own h.i h.o h.a h.b h.sh h.num h.op h.v (kD p R) p.e.n p.e.a p.e.c (by have:=hs.e;omega) (by omega) W (O.Es_of_own K0.ow.e)
 have H6:Hid (∀ v,Below W.heap.size W v→Calls Tryz.prog 18 #[.slice p.s.a p.s.n p.s.c,.int .i64 (kE p R:Int)] v fun e v'=>e=.returned (.int .i64 (kF p R:Int))∧v'=v):=fun v hv =>
  heldSaidS_any p.s.n (kE p R) p.s.a p.s.c (by have:=hs.s;omega) (by omega) v ((Ss_of_own K0.ow.s).up hv)
 obtain ⟨_,x1,x2,x3,x4,x5,x6,x7,x8,x9,x10,x11,x12,x13,_⟩:=X0.all15p
 have HX0:=hideIt X0
 have HB:=hideIt bW
 clear k K0 hs bW X0 hb1 hb2 hb3 hb4 hb5
 go_enter Tryz.func13,Tryz.ntmps13
 go_upto_region 1 with fail
 rw [← hW]
 clear hW
 go_wp2_with (go_at_call 37;refine H1.out.mono ?_;rintro e w1 ⟨rfl,hw⟩;have hw':=hw.symm;subst hw';clear hw;refine Hid.out ?_)
 refine hidp20 ?_
 go_wp2_with (first
  | (go_at_call 38;refine H2.out.mono ?_;rintro e w1 ⟨rfl,hw⟩;have hw':=hw.symm;subst hw';clear hw)
  | (go_at_call 39;refine H3.out.mono ?_;rintro e w1 ⟨rfl,hw⟩;have hw':=hw.symm;subst hw';clear hw)
  | (go_at_call 37;refine H4.out.mono ?_;rintro e w1 ⟨rfl,hw⟩;have hw':=hw.symm;subst hw';clear hw)
  | (go_at_call 40;refine H5.out.mono ?_;rintro e w5 ⟨rfl,b5⟩;refine Hid.out ?_))
 refine hidp20 ?_
 have x14:=(HX0.out.up b5).cell 14 rfl
 have H7:=hideIt (H6.out _ b5)
 have HB5:=hideIt (HB.out.trans (b5.mono HB.out.size))
 clear x1 x2 x3 x4 x5 x6 x7 x8 x9 x10 x11 x12 x13 b5 HB HX0 H6
 go_wp2_with (go_at_call 18;refine H7.out.mono ?_;rintro e w6 ⟨rfl,hw⟩;have hw':=hw.symm;subst hw';clear hw)
 go_ret
 exact ⟨rfl,HB5.out⟩
theorem below_trnQ {P:Nat→Prop} {w u v:World} {C:Nat} (h:Below C w u) (t:Q.Trn P u v) (hP:∀ k,P k→C≤k) (hC:C≤w.heap.size):Below C w v :=
 ⟨t.os.trans h.os,t.tape.trans h.tape,t.output.trans h.output,Nat.le_trans h.size t.size,fun j hj=>(t.block j (Nat.lt_of_lt_of_le (Nat.lt_of_lt_of_le hj hC) h.size) (fun hp=>by have:=hP j hp;omega)).trans (h.block j hj)⟩
theorem FB.trnQ {P:Nat→Prop} {u v:World} {lo:Nat} {a:Option Addr} {n c:Nat} {R:List Rw} (h:FB u lo u.heap.size a n c R) (t:Q.Trn P u v) (hP:∀ k,P k→k<lo):FB v lo v.heap.size a n c R :=
 ⟨h.len,Q.own_trnL h.own t (fun g hg hp=>by have h1:=(h.own.lt g hg).1;have h2:=hP g hp;omega),fun g hx=>Nat.lt_of_lt_of_le (h.row g hx) t.size,Nat.le_refl _,fun r hr=>by
  have h1:=h.ins r hr
  have h2:RwB v ⟨r.g,r.cp,r.t⟩:=RwB.of_own (Q.own_trnL h1.1.own t (fun g hg hp=>by
   have hg':some r.g=some g:=hg
   simp only [Option.some.injEq] at hg'
   have h2:=hP g hp
   omega))
  exact ⟨h2,h1.2.1,Nat.lt_of_lt_of_le h1.2.2 t.size⟩,h.nod⟩
theorem HW.trnQ {P:Nat→Prop} {u v:World} {lo:Nat} {h:Hd} {p:Hp} {R:List Rw} (k:HW u lo h p R) (t:Q.Trn P u v) (hP:∀ b,P b→b<lo):HW v lo h p R:=by
 have key:∀ {e s n:Nat} {x:Value} {xs:List Value},u.ownsRow lo e s x n xs→v.ownsRow lo e s x n xs:=fun hx=>Q.own_trnL hx t (fun g hg hp=>by have h1:=(hx.lt g hg).1;have h2:=hP g hp;omega)
 exact ⟨⟨key k.ow.o,key k.ow.c,k.ow.l.trnQ t hP,k.ow.r,key k.ow.n,key k.ow.e,key k.ow.s⟩,k.sp,k.ce⟩
def headO (o:Option Hd):Hd:=match o with | some h=>h | none=>zeroH
theorem fr_hw {o:Option Hd} {u:World} {lo:Nat} {g:Hd} {p:Hp} (h:HdAt o u lo g p) (hz:o=none→g=zeroH∧p=zeroP):g=headO o∧∃ R,HW u lo (headO o) p R:=by
 cases o with
 | none =>
  obtain ⟨rfl,rfl⟩:=hz rfl
  exact ⟨rfl,[],⟨World.ownsRow_nil _ _ _ _,World.ownsRow_nil _ _ _ _,(FB.nil u lo).hi (by first | exact Nat.le_refl _ | omega) (by first | exact Nat.le_refl _ | omega),rfl,World.ownsRow_nil _ _ _ _,World.ownsRow_nil _ _ _ _,World.ownsRow_nil _ _ _ _⟩,⟨by simp [zeroP,Value.ownBlock],by simp,by simp⟩,by simp [zeroP,Value.ownBlock]⟩
 | some h' =>
  obtain ⟨rfl,R,hw⟩:=h
  exact ⟨rfl,R,hw⟩
theorem rn_le12 (R:List Rw):(∀ t ∈ rts R,t.length≤12)→rn R≤12*R.length:=by
 induction R with
 | nil=>intro _;simp [rn]
 | cons r R ih =>
  intro h
  have h1:=h r.t (by simp [rts])
  have h2:=ih (fun t ht=>h t (by simp only [rts,List.map_cons,List.mem_cons] at ht ⊢;exact .inr ht))
  simp only [rn,List.length_cons]
  omega
theorem hsm_of {o:Option Hd} {u:World} {lo:Nat} {p:Hp} {R:List Rw} {S:Nat} (k:HW u lo (headO o) p R) (hi:∀ h,o=some h→HInv S h):HSm p R:=by
 cases o with
 | none =>
  have h1:=k.ow.inn
  have e1:=h1.o.1;have e2:=h1.c.1;have e3:=h1.l.1;have e4:=h1.n.1;have e5:=h1.e.1;have e6:=h1.s.1
  have e7:=k.ow.l.len
  have e8:=rn_le12 R (by rw [k.ow.r];simp [headO,zeroH])
  simp [headO,zeroH] at e1 e2 e3 e4 e5 e6
  exact ⟨by omega,by omega,by omega,by omega,by omega,by omega,by omega⟩
 | some h =>
  have hv:=hi h rfl
  have k':HW u lo h p R:=k
  have hl:=hv.lens k'.ow.inn
  have he:=(k'.re hv).elen
  have e7:=k'.ow.l.len
  have hs:=hv.s
  have hN:=hv.n
  have e8:=rn_le12 R (by
   rw [k'.ow.r]
   intro t ht
   have h1:=hv.lab.2 t ht
   unfold O.lB at h1
   rw [Bool.and_eq_true,decide_eq_true_iff] at h1
   have:=h1.1
   omega)
  exact ⟨by omega,by omega,by omega,by omega,by omega,by omega,by omega⟩
theorem hfit_of {u:World} {lo:Nat} {h:Hd} {p:Hp} {R:List Rw} (k:HW u lo h p R) (s:HSm p R):HFit h p :=
 ⟨by have:=s.o;omega,by have:=s.c;omega,by have h9:=rn_lnS R;rw [← k.ow.r];have:=s.l;have:=s.r;omega,by have:=s.n;omega,by have:=s.e;omega,by have:=s.s;omega⟩
set_option maxRecDepth 100000 in
set_option maxHeartbeats 16000000 in
theorem hf_law (n sh:Int) (qs:List Q.RQ) (m:Nat) (hm:m≤maxLen) (a:Option Addr) (c:Nat) (hk:∀ q ∈ qs,q.k1≤maxLen∧q.k2≤maxLen∧q.k3≤maxLen) (w:World) (hr:Q.RL w w.heap.size a m qs) :
  Calls Tryz.prog 3 #[.int .i64 n,.int .i64 sh,.slice a m c] w fun e w'=>e=.returned (.bool true)∧Below w.heap.size w w':=by
 obtain ⟨r,hr0⟩:=ex0 (runO (newO n sh) (qs.map (·.r)))
 have hi:∀ h,r=some h→HInv sh.toNat h:=by
  intro h e
  rw [hr0] at e
  exact HInv.run _ newO_inv e
 obtain ⟨HD,hHD⟩:=ex0 (headO r)
 obtain ⟨K,hK⟩:=ex0 (r.isSome)
 have HSz:=hideIt (Q.szRecS_or qs m a c hm hk w hr)
 have HDe:Hid (∀ (e:Ending) (u v:World),FrA u.heap.size u r e v→∃ p R,e=.returned (.tuple #[.agg (hC HD p),.bool K])∧Hid (HW v u.heap.size HD p R∧HSm p R)∧Below u.heap.size u v):=fun e u v h=>by
  obtain ⟨g,p,h1,h2,h3,h4⟩:=h
  obtain ⟨h5,R,h6⟩:=fr_hw h3 h4
  have h7:=hsm_of h6 hi
  rw [← hHD] at h5 h6
  subst h5
  exact ⟨p,R,by rw [h1,hK],⟨h6,h7⟩,h2⟩
 have HR:=hideIt hr
 have HR0:=hideIt hr0
 have dk:(K != K)=false:=by simp
 clear hr hk hr0 hHD hK hi
 go_enter Tryz.func3,Tryz.ntmps3
 go_wp2_with (go_at_call 5;refine HSz.out.mono ?_;rintro e w1 ⟨x,rfl,hx,b1⟩;refine Hid.out ?_)
 refine hidp20 ?_
 have HB1:=hideIt b1
 clear b1 HSz
 rcases hx with hx | ⟨hx,hz⟩
 ·go_wp2
  go_ret
  exact ⟨rfl,HB1.out⟩
 ·have HTo:Hid (∀ u,Below w.heap.size w u→Calls Tryz.prog 7 #[.slice a m c] u fun e v=>∃ g ps,e=.returned (.slice (some ⟨g,0,none⟩) m m)∧Hid (Q.RS v u.heap.size (some ⟨g,0,none⟩) m m ps∧ps.map Q.sigR=qs.map Q.sigR)∧Below u.heap.size u v):=fun u hu =>
   (Q.toRecS_any qs m a c hz u (HR.out.up hu)).mono fun e v ⟨g,ps,h1,h2,h3,h4⟩=>⟨g,ps,h1,⟨h2,h3⟩,h4⟩
  have hm2:m≤1048576:=by
   have h1:=HR.out.len
   have h2:∀ l:List Q.RQ,l.length≤Q.szq l:=fun l=>by
    induction l with
    | nil=>simp
    | cons p ps ih=>simp [Q.szq] at ih ⊢;omega
   have:=h2 qs
   omega
  have HSd:Hid (∀ (u:World) (g lo:Nat) (ps:List Q.RQ),(Q.RS u lo (some ⟨g,0,none⟩) m m ps∧ps.map Q.sigR=qs.map Q.sigR)→Calls Tryz.prog 6 #[.int .i64 n,.int .i64 sh,.slice (some ⟨g,0,none⟩) m m] u fun e v=>∃ p R,e=.returned (.tuple #[.agg (hC HD p),.bool K])∧Hid (HW v u.heap.size HD p R∧HSm p R)∧Below u.heap.size u v):=fun u g lo ps h=>by
   have h1:=sHeadFrom_any n sh ps m hm2 (some ⟨g,0,none⟩) m u h.1.rl (RG.of h.1)
   rw [Q.sig_r h.2,← HR0.out] at h1
   exact h1.mono fun e v h2=>HDe.out e u v h2
  have HId:Hid (∀ (u:World) (g lo:Nat) (ps:List Q.RQ),(Q.RS u lo (some ⟨g,0,none⟩) m m ps∧ps.map Q.sigR=qs.map Q.sigR)→Calls Tryz.prog 8 #[.int .i64 n,.int .i64 sh,.slice (some ⟨g,0,none⟩) m m] u fun e v=>∃ p R,e=.returned (.tuple #[.agg (hC HD p),.bool K])∧Hid (HW v u.heap.size HD p R∧HSm p R)∧Below u.heap.size u v):=fun u g lo ps h=>by
   have h1:=iHeadFrom_any n sh ps m hm2 (some ⟨g,0,none⟩) m u h.1.rl (RG.of h.1)
   rw [Q.sig_r h.2,← HR0.out] at h1
   exact h1.mono fun e v h2=>HDe.out e u v h2
  have HZ:=hideIt hz
  clear hz HDe HR0
  go_wp2_with (go_at_call 7;refine (HTo.out _ HB1.out).mono ?_;rintro e w2 ⟨g2,q2,rfl,h2,b2⟩;refine Hid.out ?_)
  refine hidp20 ?_
  have HB2:=hideIt (HB1.out.trans (b2.mono HB1.out.size))
  have HC2:=hideIt (HSd.out w2 g2 _ q2 h2.out)
  clear b2 h2 HSd
  go_wp2_with (go_at_call 6;refine HC2.out.mono ?_;rintro e w3 ⟨p0,R0,rfl,k0,b3⟩;refine Hid.out ?_)
  refine hidp20 ?_
  go_step
  go_step
  go_step
  go_step
  go_step
  go_step
  go_step
  go_step
  go_step
  go_step
  go_step
  go_step
  go_step
  go_step
  have T0:BxA (w3.alloc (.cells #[.int .i64 0,.slice none 0 0,.slice none 0 0,.slice none 0 0,.slice none 0 0,.int .i64 0,.int .i64 0,.int .i64 0,.int .i64 0,.int .i64 0,.int .i64 0,.int .i64 0,.slice none 0 0,.int .i64 0,.slice none 0 0] 35)) w3.heap.size 35 (hC zeroH zeroP):=BxA.new w3 _ _
  refine wp_storeH T0 rfl rfl rfl ?_
  intro v3 XV gv zv
  obtain ⟨G0,hG⟩:∃ G,G=w3.heap.size:=⟨_,rfl⟩
  have bv:Below w3.heap.size w3 v3:=below_grB (belA w3 _) gv (Nat.le_refl _) (Nat.le_refl _)
  have eG:G0=w3.heap.size:=hG
  rw [← hG] at XV
  rw [← hG]
  clear T0 gv zv hG
  have HB3:=hideIt (HB2.out.trans ((b3.trans (bv.mono b3.size)).mono HB2.out.size))
  have HC3:Hid (Below v3.heap.size v3 v3):=Below.refl _ _
  have HI0:=hideIt (k0.out.1.up bv).ow.inn
  have HX0:=hideIt XV
  clear b3 bv XV eG HC2 k0
  go_wp2_with (go_at_call 7;refine (HTo.out _ HB3.out).mono ?_;rintro e w4 ⟨g4,q4,rfl,h4,b4⟩;refine Hid.out ?_)
  refine hidp20 ?_
  have HB4:=hideIt (HB3.out.trans (b4.mono HB3.out.size))
  have HC4:=hideIt (HC3.out.trans (b4.mono HC3.out.size))
  have HC:=hideIt (HId.out w4 g4 _ q4 h4.out)
  clear b4
  go_wp2_with (go_at_call 8;refine HC.out.mono ?_;rintro e w5 ⟨p5,R5,rfl,k5,b5⟩;refine Hid.out ?_)
  refine hidp20 ?_
  go_step
  go_step
  go_step
  go_step
  go_step
  go_step
  go_step
  go_step
  go_step
  go_step
  go_step
  go_step
  go_step
  go_step
  have T0:BxA (w5.alloc (.cells #[.int .i64 0,.slice none 0 0,.slice none 0 0,.slice none 0 0,.slice none 0 0,.int .i64 0,.int .i64 0,.int .i64 0,.int .i64 0,.int .i64 0,.int .i64 0,.int .i64 0,.slice none 0 0,.int .i64 0,.slice none 0 0] 35)) w5.heap.size 35 (hC zeroH zeroP):=BxA.new w5 _ _
  refine wp_storeH T0 rfl rfl rfl ?_
  intro v5 XV gv zv
  obtain ⟨G5,hG⟩:∃ G,G=w5.heap.size:=⟨_,rfl⟩
  have bv:Below w5.heap.size w5 v5:=below_grB (belA w5 _) gv (Nat.le_refl _) (Nat.le_refl _)
  have eG:G5=w5.heap.size:=hG
  rw [← hG] at XV
  rw [← hG]
  clear T0 gv zv hG
  have b5v:=b5.trans (bv.mono b5.size)
  have HB5:=hideIt (HB4.out.trans (b5v.mono HB4.out.size))
  have HC5:=hideIt (HC4.out.trans (b5v.mono HC4.out.size))
  have h45:=hideIt (And.intro (h4.out.1.up b5v) h4.out.2)
  have Hg4:=hideIt (And.intro (show g4<w4.heap.size from (h4.out.1.row.lt g4 rfl).2) (fun q hq=>(h4.out.1.each q hq).1.th))
  have HG5:Hid (w4.heap.size≤G5):=by show _≤_;rw [eG];exact b5.size
  have HK5:=hideIt (And.intro (k5.out.1.up bv) XV)
  have HS5:=hideIt k5.out.2
  have HFt:=hideIt (hfit_of k5.out.1 k5.out.2)
  have HE5:=hideIt (eqHead_same HD p5 p0 HFt.out v5 HK5.out.1.ow.inn (HI0.out.up HC5.out))
  clear b5 b5v bv XV eG HC h4 k5
  go_upto_region 8 with fail
  refine wp_region_lit ?_
  go_step
  refine wp_loadH HK5.out.2 rfl rfl ?_
  go_step
  go_step
  refine wp_loadH (HX0.out.up HC5.out) rfl rfl ?_
  go_wp2_with (go_at_call 9;refine HE5.out.mono ?_;rintro e w6 ⟨rfl,b6⟩;refine Hid.out ?_)
  refine hidp20 ?_
  have HB6:=hideIt (HB5.out.trans (b6.mono HB5.out.size))
  have HC6:=hideIt (HC5.out.trans (b6.mono HC5.out.size))
  have HK6:=hideIt (And.intro (HK5.out.1.up b6) (HK5.out.2.up b6))
  have h46:=hideIt (And.intro (h45.out.1.up b6) h45.out.2)
  clear b6 h45 HE5 HK5
  go_upto_region 10 with fail
  as_aux_lemma =>
   go_wp2_with (go_at_call 7;refine (HTo.out _ HB6.out).mono ?_;rintro e w7 ⟨g7,q7,rfl,h7,b7⟩;refine Hid.out ?_)
   refine hidp20 ?_
   have HB7:=hideIt (HB6.out.trans (b7.mono HB6.out.size))
   have HC7:=hideIt (HC6.out.trans (b7.mono HC6.out.size))
   have HK7:=hideIt (And.intro (HK6.out.1.up b7) (HK6.out.2.up b7))
   have h47:=hideIt (And.intro (h46.out.1.up b7) h46.out.2)
   have HE7:=hideIt (Q.eqRecS_same q4 q7 (h46.out.2.trans h7.out.2.symm) (fun q hq=>(h47.out.1.each q hq).1.bd) m hm2 (some ⟨g4,0,none⟩) (some ⟨g7,0,none⟩) m m w7 h47.out.1.rl h7.out.1.rl)
   clear b7 h46 h7 HK6
   go_wp2_with (go_at_call 10;refine HE7.out.mono ?_;rintro e w8 ⟨rfl,b8⟩;refine Hid.out ?_)
   refine hidp20 ?_
   have HB8:=hideIt (HB7.out.trans (b8.mono HB7.out.size))
   have HC8:=hideIt (HC7.out.trans (b8.mono HC7.out.size))
   have HK8:=hideIt (And.intro (HK7.out.1.up b8) (HK7.out.2.up b8))
   have HM:=hideIt (Q.markRecS_any q4 v3.heap.size g4 m m w4.heap.size (by rw [Q.sig_szq q4 qs h47.out.2];exact HZ.out) w8 (h47.out.1.up b8) Hg4.out)
   clear b8 h47 HE7 Hg4 HK7
   go_upto_region 13 with fail
   obtain ⟨kk,hkk⟩:=ex0 (Q.kqs 1 q4)
   rw [← hkk] at HM
   clear hkk
   go_wp2_with (go_at_call 11;refine HM.out.mono ?_;rintro e w9 ⟨rfl,_,t9⟩;refine Hid.out ?_)
   refine hidp20 ?_
   have HB9:=hideIt (below_trnQ HB8.out t9 (fun k hk=>by have:=HB3.out.size;omega) (Nat.le_refl _))
   have HC9:=hideIt (below_trnQ HC8.out t9 (fun k hk=>by omega) (Nat.le_refl _))
   have HK9:Hid (HW w9 w4.heap.size HD p5 R5∧BxA w9 G5 35 (hC HD p5)):=⟨HK8.out.1.trnQ t9 (fun b hb=>hb.2),by
    unfold BxA
    rw [t9.block G5 HK8.out.2.lt (fun hb=>by have:=HG5.out;omega)]
    exact HK8.out.2⟩
   have HE9:=hideIt (eqHead_same HD p5 p0 HFt.out w9 HK9.out.1.ow.inn (HI0.out.up HC9.out))
   have d9:decide ((kk:Int)<0)=false:=decide_eq_false (by omega)
   obtain ⟨y0,y1,y2,y3,y4,y5,y6,y7,y8,y9,y10,y11,y12,y13,y14⟩:=(HX0.out.up HC9.out).all15p
   obtain ⟨z0,z1,z2,z3,z4,z5,z6,z7,z8,z9,z10,z11,z12,z13,z14⟩:=HK9.out.2.all15p
   clear t9 HM HK8
   go_upto_region 14 with fail
   go_wp2_with (go_at_call 9;refine HE9.out.mono ?_;rintro e w10 ⟨rfl,b10⟩;refine Hid.out ?_)
   refine hidp20 ?_
   clear y0 y1 y2 y3 y4 y5 y6 y7 y8 y9 y10 y11 y12 y13 y14 z0 z1 z2 z3 z4 z5 z6 z7 z8 z9 z10 z11 z12 z13 z14
   have HB10:=hideIt (HB9.out.trans (b10.mono HB9.out.size))
   have HC10:=hideIt (HC9.out.trans (b10.mono HC9.out.size))
   have L4:Hid (v3.heap.size≤w4.heap.size∧w.heap.size≤w4.heap.size∧w4.heap.size≤w10.heap.size):=⟨HC4.out.size,HB4.out.size,by
    have h1:=HK9.out.2.lt
    have h2:=b10.size
    have h3:=HG5.out
    omega⟩
   have HMs:=hideIt (markHead_any (HK9.out.1.up b10) L4.out.2.2 HS5.out)
   have HX10:=hideIt (HK9.out.2.up b10)
   clear b10 HE9 d9 HK9
   go_upto_region 17 with fail
   as_aux_lemma =>
    obtain ⟨mm,hmm⟩:=ex0 (kF p5 R5)
    have Hmm:=hideIt hmm
    rw [← hmm] at HMs
    clear hmm
    refine wp_region_lit ?_
    go_step
    refine wp_loadH HX10.out rfl rfl ?_
    go_wp2_with (go_at_call 12;refine HMs.out.mono ?_;rintro e w11 ⟨rfl,k11,b11,kp11⟩;refine Hid.out ?_)
    refine hidp20 ?_
    have HB11:Hid (Below w.heap.size w w11):=HB10.out.trans (b11.mono L4.out.2.1)
    have HC11:Hid (Below v3.heap.size v3 w11):=HC10.out.trans (b11.mono L4.out.1)
    have HK11:=hideIt (And.intro k11 (kp11 _ _ HX10.out))
    have HH11:=hideIt (heldHead_any k11 HS5.out)
    rw [← Hmm.out] at HH11
    have d12:decide ((mm:Int)<0)=false:=decide_eq_false (by omega)
    have d13:((mm:Int) != (mm:Int))=false:=by simp
    clear b11 HMs k11 kp11 HX10
    go_upto_region 19 with fail
    refine wp_region_lit ?_
    go_step
    refine wp_loadH HK11.out.2 rfl rfl ?_
    go_wp2_with (go_at_call 13;refine HH11.out.mono ?_;rintro e w12 ⟨rfl,b12⟩;refine Hid.out ?_)
    refine hidp20 ?_
    have HB12:=hideIt (HB11.out.trans (b12.mono HB11.out.size))
    have HC12:=hideIt (HC11.out.trans (b12.mono HC11.out.size))
    have HK12:=hideIt (And.intro (HK11.out.1.up b12) (HK11.out.2.up b12))
    clear b12 HK11 HH11
    go_upto_region 24 with fail
    as_aux_lemma =>
     go_wp2_with (go_at_call 7;refine (HTo.out _ HB12.out).mono ?_;rintro e w13 ⟨g13,q13,rfl,h13,b13⟩;refine Hid.out ?_)
     refine hidp20 ?_
     have HB13:=hideIt (HB12.out.trans (b13.mono HB12.out.size))
     have HC13:=hideIt (HC12.out.trans (b13.mono HC12.out.size))
     have HK13:=hideIt (And.intro (HK12.out.1.up b13) (HK12.out.2.up b13))
     have HC:=hideIt (HId.out w13 g13 _ q13 h13.out)
     clear b13 HK12 h13
     go_wp2_with (go_at_call 8;refine HC.out.mono ?_;rintro e w14 ⟨p14,R14,rfl,k14,b14⟩;refine Hid.out ?_)
     refine hidp20 ?_
     go_step
     go_step
     go_step
     go_step
     go_step
     go_step
     go_step
     go_step
     go_step
     go_step
     go_step
     go_step
     go_step
     go_step
     have T0:BxA (w14.alloc (.cells #[.int .i64 0,.slice none 0 0,.slice none 0 0,.slice none 0 0,.slice none 0 0,.int .i64 0,.int .i64 0,.int .i64 0,.int .i64 0,.int .i64 0,.int .i64 0,.int .i64 0,.slice none 0 0,.int .i64 0,.slice none 0 0] 35)) w14.heap.size 35 (hC zeroH zeroP):=BxA.new w14 _ _
     refine wp_storeH T0 rfl rfl rfl ?_
     intro v14 XV gv zv
     obtain ⟨G14,hG⟩:∃ G,G=w14.heap.size:=⟨_,rfl⟩
     have bv:Below w14.heap.size w14 v14:=below_grB (belA w14 _) gv (Nat.le_refl _) (Nat.le_refl _)
     have eG:G14=w14.heap.size:=hG
     rw [← hG] at XV
     rw [← hG]
     clear T0 gv zv hG
     have b14v:=b14.trans (bv.mono b14.size)
     have HB14:=hideIt (HB13.out.trans (b14v.mono HB13.out.size))
     have HC14:=hideIt (HC13.out.trans (b14v.mono HC13.out.size))
     have HK14:=hideIt (And.intro (HK13.out.1.up b14v) (HK13.out.2.up b14v))
     have HE14:=hideIt (eqHead_same HD p14 p0 (hfit_of k14.out.1 k14.out.2) v14 (k14.out.1.up bv).ow.inn (HI0.out.up HC14.out))
     have HXV:=hideIt XV
     clear b14 b14v bv XV eG HK13 k14 HC HId HTo
     go_upto_region 25 with fail
     refine wp_region_lit ?_
     go_step
     refine wp_loadH HXV.out rfl rfl ?_
     go_step
     go_step
     refine wp_loadH (HX0.out.up HC14.out) rfl rfl ?_
     go_wp2_with (go_at_call 9;refine HE14.out.mono ?_;rintro e w15 ⟨rfl,b15⟩;refine Hid.out ?_)
     refine hidp20 ?_
     have HB15:=hideIt (HB14.out.trans (b15.mono HB14.out.size))
     have HC15:=hideIt (HC14.out.trans (b15.mono HC14.out.size))
     have HH15:=hideIt (heldHead_any (HK14.out.1.up b15) HS5.out)
     have HX15:=hideIt (HK14.out.2.up b15)
     rw [← Hmm.out] at HH15
     clear b15 HK14 HE14
     go_upto_region 28 with fail
     refine wp_region_lit ?_
     go_step
     refine wp_loadH HX15.out rfl rfl ?_
     go_wp2_with (go_at_call 13;refine HH15.out.mono ?_;rintro e w16 ⟨rfl,b16⟩;refine Hid.out ?_)
     refine hidp20 ?_
     have HB16:=hideIt (HB15.out.trans (b16.mono HB15.out.size))
     clear b16
     go_wp2
     go_ret
     exact ⟨rfl,HB16.out⟩
theorem fnExactHeadFrom.walk (n:Int) (_hn:(Lit.int .i64 n).wf=true) (sh:Int) (_hs:(Lit.int .i64 sh).wf=true) (qs:List Q.RQ) (hk:∀ q ∈ qs,q.k1≤maxLen∧q.k2≤maxLen∧q.k3≤maxLen) (m:Nat) (a:Option Addr) (c:Nat) (hm:m≤maxLen) (w:World) (hr:Q.RL w w.heap.size a m qs) :
  Calls Tryz.prog 3 #[.int .i64 n,.int .i64 sh,.slice a m c] w fun e w'=>e=.returned (.bool true)∧Below w.heap.size w w':=hf_law n sh qs m hm a c hk w hr
end Go.Proofs.YtnagchanokbgdaaGreat
