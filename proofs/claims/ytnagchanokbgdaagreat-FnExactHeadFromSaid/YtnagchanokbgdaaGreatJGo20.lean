/- The program's change of a head's cuts. The specification's change of a head's cuts. A head in a box: a number, an owner, a list of labels stored in a row of it. The program's moveOn. The program's goOn. -/
import Derived.Test.YtnagchanokbgdaaGreatJHr20
import Derived.Test.YtnagchanokbgdaaGreatJSTake
import Derived.Test.YtnagchanokbgdaaGreatJHx20
import Derived.Test.YtnagchanokbgdaaGreatJSq1
import Derived.Test.YtnagchanokbgdaaGreatJRd10
import Derived.Test.YtnagchanokbgdaaGreatJCs20
namespace Go.Proofs.YtnagchanokbgdaaGreat
open Go.RowKit
def cutH (h:Hd) (i o a b:Int):Option (List O.EdgeV)→Hd
 | some cs=>sayH (withCuts h cs) i o a b 1
 | none=>sayH h i o a b 2
def chgC (h:Hd) (a b:Int):Int:=if O.atI h.own (edgeA a b).1=O.atI h.own (edgeA a b).2 then 2 else 1
set_option maxRecDepth 100000 in
set_option maxHeartbeats 16000000 in
theorem pChgA {lo G S:Nat} {h:Hd} {p:Hp} {R:List Rw} (i a b:Int) (u:World) (k:HX lo u G h p R) (hi:HInv S h) (hl:lo≤u.heap.size) (ha:0≤a∧a<h.N) (hb0:0≤b∧b<h.N) (hab:a≠b) :
  Calls Tryz.prog 134 #[.pointer (some ⟨G,0,none⟩),.agg #[.int .i64 i,.int .i64 1,.int .i64 a,.int .i64 b],.int .i64 1,.func (.func 135) #[] #[]] u fun e v=>MvA lo u G (chgH h i 1 a b) (chgC h a b) e v:=by
 have hin:=edgeA_in ha hb0
 have hee:=edgeA_ok hi.n ha hb0 hab
 obtain ⟨ex,ey,hE⟩:∃ ex ey,edgeA a b=(ex,ey):=⟨_,_,rfl⟩
 have hEd:edA a b=(ex,ey):=hE
 rw [hE] at hin hee
 dsimp only at hin
 have o1:=hi.ownAt hin.1.1 hin.1.2
 have o2:=hi.ownAt hin.2.1 hin.2.2
 have hln:=hi.lens k.hw.ow.inn
 have hR:=k.hw.re hi
 have hnum:∀ y ∈ h.nums,0≤y∧y≤1000:=fun y hy=>by
  have h1:=hi.num.2 y hy
  have:=hi.sd.1
  split at h1 <;> omega
 obtain ⟨i1,rfl⟩:∃ v:Nat,ex=(v:Int):=⟨ex.toNat,by omega⟩
 obtain ⟨i2,rfl⟩:∃ v:Nat,ey=(v:Int):=⟨ey.toNat,by omega⟩
 rw [Int.toNat_natCast] at o1 o2
 have hCG:chgH h i 1 a b=(if O.atI h.own (i1:Int)=O.atI h.own (i2:Int) then ordH h i 1 a b (O.atI h.own (i1:Int)) 1 [((i1:Int),(i2:Int))] 0 else cutH h i 1 a b (O.addE h.N h.cuts ((i1:Int),(i2:Int)))):=by unfold chgH;rw [hE];rfl
 have hCC:chgC h a b=(if O.atI h.own (i1:Int)=O.atI h.own (i2:Int) then 2 else 1):=by unfold chgC;rw [hE]
 rw [hCG,hCC]
 obtain ⟨x1,hx1⟩:∃ x,x=O.atI h.own (i1:Int):=⟨_,rfl⟩
 obtain ⟨x2,hx2⟩:∃ x,x=O.atI h.own (i2:Int):=⟨_,rfl⟩
 rw [← hx1,← hx2]
 rw [← hx1] at o1
 rw [← hx2] at o2
 have hs:=hi.s
 have hns:=hi.num.1
 obtain ⟨s,rfl⟩:∃ s:Nat,x1=(s:Int)+1:=⟨(x1 - 1).toNat,by omega⟩
 have hs3:s≤2:=by omega
 have hsN:s<h.nums.length:=by omega
 have hn:p.s.n≤1000:=by omega
 obtain ⟨W,hW⟩:=ex0 (u.alloc (.cells #[.int .i64 i,.int .i64 1,.int .i64 a,.int .i64 b] 28))
 have bW:Below u.heap.size u W:=by rw [hW];exact belA _ _
 have XA:BxA W u.heap.size 28 #[.int .i64 i,.int .i64 1,.int .i64 a,.int .i64 b]:=by rw [hW];exact BxA.new _ _ _
 have HE1:=hideIt (askEdge_any i 1 a b W)
 rw [hEd] at HE1
 have HK:=hideIt (k.up bW)
 have HXA:=hideIt XA
 have HRh:=hideIt (hR.up bW)
 have HB:=hideIt (bW.mono hl)
 have HL:Hid (lo≤W.heap.size):=Nat.le_trans hl bW.size
 have lG:G<u.heap.size:=k.bx.lt
 have HO1:=hideIt o1
 have HO2:=hideIt o2
 have HNm:=hideIt hnum
 have Hln:=hideIt hln
 have w0:=XA.cell 0 rfl
 have w1:=XA.cell 1 rfl
 have w2:=XA.cell 2 rfl
 have w3:=XA.cell 3 rfl
 clear k hi hR hin hee hE hEd hCG hCC hx1 hx2 o1 o2 hln hnum bW XA hs hns ha hb0 hab hl
 go_enter Tryz.func134,Tryz.ntmps134
 go_upto_region 1 with fail
 rw [← hW]
 clear hW
 go_wp2_with (go_at_call 150;refine HE1.out.mono ?_;rintro e v1 ⟨rfl,c1⟩;refine Hid.out ?_)
 refine hidp20 ?_
 obtain ⟨V,hV⟩:=ex0 (v1.alloc (.cells #[.int .i64 (i1:Int),.int .i64 (i2:Int)] 107))
 obtain ⟨B,hBq⟩:=ex0 (v1.heap.size)
 have bV:Below W.heap.size W V:=by rw [hV];exact c1.alloc c1.size _
 have XE:BxA V B 107 #[.int .i64 (i1:Int),.int .i64 (i2:Int)]:=by rw [hV,hBq];exact BxA.new _ _ _
 have lB0:Hid (W.heap.size≤B):=by show _≤_;rw [hBq];exact c1.size
 have HKV:=hideIt (HK.out.up bV)
 have HXE:=hideIt XE
 have HXV:=hideIt (HXA.out.up bV)
 have HBV:Hid (Below lo u V):=HB.out.trans (bV.mono HL.out)
 have HLV:Hid (lo≤V.heap.size):=Nat.le_trans HL.out bV.size
 have HRV:=hideIt (HRh.out.up bV)
 clear w0 w1 w2 w3 HE1 c1
 go_upto_region 2 with fail
 rw [← hV,← hBq]
 clear hV hBq bV XE
 obtain ⟨bo,oo,ea,hbo,hco⟩:∃ bo oo,p.o.a=some ⟨bo,oo,none⟩∧bo<V.heap.size∧(V.cell? ⟨bo,oo+i1,none⟩=some (.int .i64 ((s:Int)+1))∧V.cell? ⟨bo,oo+i2,none⟩=some (.int .i64 x2)):=by
  rcases (Is_own HKV.out.hw.ow.o).2 with h0 | ⟨bo,oo,e,hb,hc⟩
  ·have:=(List.getElem?_eq_some_iff.1 HO1.out.2).1;have:=Hln.out.2.2.2.2.2.2.1;omega
  ·exact ⟨bo,oo,e,hb,hc _ _ HO1.out.2,hc _ _ HO2.out.2⟩
 have g1:V.cell? ⟨G,1,none⟩=some (.slice p.o.a p.o.n p.o.c):=HKV.out.bx.cell 1 rfl
 rw [ea] at g1
 have e0:=HXE.out.cell 0 rfl
 have e1:=HXE.out.cell 1 rfl
 have q1:(0:Int)≤(i1:Int):=by omega
 have q2:(i1:Int)<(p.o.n:Int):=by have:=(List.getElem?_eq_some_iff.1 HO1.out.2).1;have:=Hln.out.2.2.2.2.2.2.1;omega
 have q3:(0:Int)≤(i2:Int):=by omega
 have q4:(i2:Int)<(p.o.n:Int):=by have:=(List.getElem?_eq_some_iff.1 HO2.out.2).1;have:=Hln.out.2.2.2.2.2.2.1;omega
 obtain ⟨hc1,hc2⟩:=hco
 clear ea
 by_cases hxx:(s:Int)+1=x2
 ·have HFin:Hid (∀ e v,MvA lo u G (ordH h i 1 a b ((s:Int)+1) 1 [((i1:Int),(i2:Int))] 0) 2 e v→MvA lo u G (if (s:Int)+1=x2 then ordH h i 1 a b ((s:Int)+1) 1 [((i1:Int),(i2:Int))] 0 else cutH h i 1 a b (O.addE h.N h.cuts ((i1:Int),(i2:Int)))) (if (s:Int)+1=x2 then 2 else 1) e v):=fun e v hm=>by rw [if_pos hxx,if_pos hxx];exact hm
  subst hxx
  have ee:((s:Int)+1 == (s:Int)+1)=true:=by simp
  go_region_held3 (fun v=>v.cell? ⟨G,1,none⟩=some (.slice (some ⟨bo,oo,none⟩) p.o.n p.o.c)∧v.cell? ⟨B,0,none⟩=some (.int .i64 (i1:Int))∧v.cell? ⟨bo,oo+i1,none⟩=some (.int .i64 ((s:Int)+1))) (exact ⟨g1,e0,hc1⟩) (fail)
  go_upto_region 3 with fail
  go_region_held3 (fun v=>v.cell? ⟨G,1,none⟩=some (.slice (some ⟨bo,oo,none⟩) p.o.n p.o.c)∧v.cell? ⟨B,1,none⟩=some (.int .i64 (i2:Int))∧v.cell? ⟨bo,oo+i2,none⟩=some (.int .i64 ((s:Int)+1))) (exact ⟨g1,e1,hc2⟩) (fail)
  obtain ⟨W2,hW2⟩:=ex0 (V.drew.drew)
  have b2:Below V.heap.size V W2:=by rw [hW2];exact (Below.refl _ _).drew.drew
  have HK2:=hideIt (HKV.out.up b2)
  have HX2:=hideIt (HXE.out.up b2)
  have HA2:=hideIt (HXV.out.up b2)
  have HB2:Hid (Below lo u W2):=HBV.out.trans (b2.mono HLV.out)
  have HL2:Hid (lo≤W2.heap.size):=Nat.le_trans HLV.out b2.size
  have HR2:=hideIt (HRV.out.up b2)
  have lBw:B<W2.heap.size:=HX2.out.lt
  rw [← hW2]
  clear hW2 b2 g1 e0 e1 hc1 hc2 HKV HXE HXV HBV HLV HRV HK HXA HRh
  have e0:=HX2.out.cell 0 rfl
  have e1:=HX2.out.cell 1 rfl
  have w0:=HA2.out.cell 0 rfl
  have w1:=HA2.out.cell 1 rfl
  have w2:=HA2.out.cell 2 rfl
  have w3:=HA2.out.cell 3 rfl
  have HOr:Hid (Calls Tryz.prog 138 #[.pointer (some ⟨G,0,none⟩),.agg #[.int .i64 i,.int .i64 1,.int .i64 a,.int .i64 b],.int .i64 ((s:Int)+1),.agg #[.int .i64 0,.int .i64 1,.slice (some ⟨W2.heap.size,0,none⟩) 1 1,.int .i64 0]] (W2.alloc (.cells #[.int .i64 (i1:Int),.int .i64 (i2:Int)] 107)) fun e v=>e=.returned (.int .i64 2)∧(∃ p R,HX lo v G (ordH h i 1 a b ((s:Int)+1) 1 [((i1:Int),(i2:Int))] 0) p R)∧Below lo u v):=by
   have bA:=belA W2 (.cells #[.int .i64 (i1:Int),.int .i64 (i2:Int)] 107)
   have ow:(W2.alloc (.cells #[.int .i64 (i1:Int),.int .i64 (i2:Int)] 107)).ownsRow W2.heap.size 107 2 (.slice (some ⟨W2.heap.size,0,none⟩) 1 1) 1 (O.ecells [((i1:Int),(i2:Int))]):=World.ownsRow_lit (base:=W2.heap.size) (e:=107) (size:=2) W2 #[.int .i64 (i1:Int),.int .i64 (i2:Int)] 1 (Nat.le_refl _) (by unfold maxLen;omega) (by simp)
   exact (pOrder_any i 1 a b s 0 1 0 [((i1:Int),(i2:Int))] (some ⟨W2.heap.size,0,none⟩) 1 1 _ (HK2.out.up bA) (Nat.le_trans HL2.out bA.size) hsN hs3 HNm.out (own_mono ow HL2.out) (fun b h1 h2=>by have:=(HK2.out.hw.ow.c.lt b h1).2;simp [Value.ownBlock] at h2;omega)).mono fun e v ⟨h1,h2,h3⟩=>⟨h1,⟨_,_,h2⟩,HB2.out.trans ((bA.mono HL2.out).trans h3)⟩
  clear HK2 HX2 HA2 HR2 HB2 HL2 HO1 HO2 HNm Hln
  go_wp2_with (go_at_call 138;refine HOr.out.mono ?_;rintro e v ⟨rfl,hk,hb⟩)
  go_ret
  exact HFin.out _ _ ⟨rfl,hk,hb⟩
 ·have HFin:Hid (∀ e v,MvA lo u G (cutH h i 1 a b (O.addE h.N h.cuts ((i1:Int),(i2:Int)))) 1 e v→MvA lo u G (if (s:Int)+1=x2 then ordH h i 1 a b ((s:Int)+1) 1 [((i1:Int),(i2:Int))] 0 else cutH h i 1 a b (O.addE h.N h.cuts ((i1:Int),(i2:Int)))) (if (s:Int)+1=x2 then 2 else 1) e v):=fun e v hm=>by rw [if_neg hxx,if_neg hxx];exact hm
  have ee:((s:Int)+1 == x2)=false:=by simpa using hxx
  have ed:decide ((s:Int)+1=x2)=false:=by simpa using hxx
  go_region_held3 (fun v=>v.cell? ⟨G,1,none⟩=some (.slice (some ⟨bo,oo,none⟩) p.o.n p.o.c)∧v.cell? ⟨B,0,none⟩=some (.int .i64 (i1:Int))∧v.cell? ⟨bo,oo+i1,none⟩=some (.int .i64 ((s:Int)+1))) (exact ⟨g1,e0,hc1⟩) (fail)
  go_upto_region 3 with fail
  go_region_held3 (fun v=>v.cell? ⟨G,1,none⟩=some (.slice (some ⟨bo,oo,none⟩) p.o.n p.o.c)∧v.cell? ⟨B,1,none⟩=some (.int .i64 (i2:Int))∧v.cell? ⟨bo,oo+i2,none⟩=some (.int .i64 x2)) (exact ⟨g1,e1,hc2⟩) (fail)
  obtain ⟨W2,hW2⟩:=ex0 (V.drew.drew)
  have b2:Below V.heap.size V W2:=by rw [hW2];exact (Below.refl _ _).drew.drew
  have HK2:=hideIt (HKV.out.up b2)
  have HX2:=hideIt (HXE.out.up b2)
  have HA2:=hideIt (HXV.out.up b2)
  have HB2:Hid (Below lo u W2):=HBV.out.trans (b2.mono HLV.out)
  have HL2:Hid (lo≤W2.heap.size):=Nat.le_trans HLV.out b2.size
  have HR2:=hideIt (HRV.out.up b2)
  have lBw:B<W2.heap.size:=HX2.out.lt
  rw [← hW2]
  clear hW2 b2 g1 e0 e1 hc1 hc2 HKV HXE HXV HBV HLV HRV HK HXA HRh
  have e0:=HX2.out.cell 0 rfl
  have e1:=HX2.out.cell 1 rfl
  have w0:=HA2.out.cell 0 rfl
  have w1:=HA2.out.cell 1 rfl
  have w2:=HA2.out.cell 2 rfl
  have w3:=HA2.out.cell 3 rfl
  have HC:Hid (∀ u,Good W2 u→u.cell? ⟨G,0,none⟩=some (.int .i64 h.N)∧u.cell? ⟨G,2,none⟩=some (.slice p.c.a p.c.n p.c.c)∧u.cell? ⟨B,0,none⟩=some (.int .i64 (i1:Int))∧u.cell? ⟨B,1,none⟩=some (.int .i64 (i2:Int))):=fun u hu=>⟨(HK2.out.up hu).bx.cell 0 rfl,(HK2.out.up hu).bx.cell 2 rfl,(HX2.out.up hu).cell 0 rfl,(HX2.out.up hu).cell 1 rfl⟩
  have hS2:=HC.out _ (Below.refl W2.heap.size W2).drew
  obtain ⟨oc,hoc⟩:=ex0 (O.addE h.N h.cuts ((i1:Int),(i2:Int)))
  obtain ⟨ok,hok⟩:=ex0 (oc.isSome)
  obtain ⟨N1,hN1⟩:=ex0 ((if oc.isSome then h.N else 0))
  obtain ⟨cs,hcs⟩:=ex0 (oc.getD [])
  have HFin:Hid (∀ e v,MvA lo u G (cutH h i 1 a b oc) 1 e v→MvA lo u G (if (s:Int)+1=x2 then ordH h i 1 a b ((s:Int)+1) 1 [((i1:Int),(i2:Int))] 0 else cutH h i 1 a b (O.addE h.N h.cuts ((i1:Int),(i2:Int)))) (if (s:Int)+1=x2 then 2 else 1) e v):=fun e v hm=>HFin.out e v (by rw [← hoc];exact hm)
  have HFi2:Hid (∀ e v,MvA lo u G (cutH h i 1 a b oc) 1 e v→MvA lo u G (cutH h i 1 a b (O.addE h.N h.cuts ((i1:Int),(i2:Int)))) 1 e v):=fun e v hm=>by rw [← hoc];exact hm
  have HCh:Hid (∀ u,Good W2 u→Calls Tryz.prog 135 #[.agg #[.int .i64 h.N,.slice p.c.a p.c.n p.c.c],.agg #[.int .i64 (i1:Int),.int .i64 (i2:Int)]] u fun e v=>∃ ra rm rc,e=.returned (.tuple #[.agg #[.int .i64 N1,.slice ra rm rc],.bool ok])∧v.ownsRow u.heap.size 107 2 (.slice ra rm rc) rm (O.ecells cs)∧Below u.heap.size u v):=fun u hu=>by
   have:=O.iAddEdge_any h.N h.cuts ((i1:Int),(i2:Int)) p.c.n p.c.a p.c.c HR2.out.sc (by have:=Hln.out.2.1;omega) u (HR2.out.up hu).inn.c
   rw [← hoc] at this
   rw [hN1,hok,hcs]
   exact this
  have HAft:Hid (∀ (x:World) (ra:Option Addr) (rm rc:Nat),Good W2 x→x.ownsRow W2.heap.size 107 2 (.slice ra rm rc) rm (O.ecells cs) →
    (HX lo x G h p R∧x.cell? ⟨u.heap.size,0,none⟩=some (.int .i64 i)∧x.cell? ⟨u.heap.size,1,none⟩=some (.int .i64 1)∧x.cell? ⟨u.heap.size,2,none⟩=some (.int .i64 a)∧x.cell? ⟨u.heap.size,3,none⟩=some (.int .i64 b)) ∧
    (ok=true→(Calls Tryz.prog 118 #[.pointer (some ⟨G,0,none⟩),.agg #[.int .i64 i,.int .i64 1,.int .i64 a,.int .i64 b],.bool true] (x.setCell ⟨G,2,none⟩ (.slice ra rm rc)) fun e v=>MvA lo u G (cutH h i 1 a b oc) 1 e v)∧(x.setCell ⟨G,2,none⟩ (.slice ra rm rc)).cell? ⟨u.heap.size,0,none⟩=some (.int .i64 i)∧(x.setCell ⟨G,2,none⟩ (.slice ra rm rc)).cell? ⟨u.heap.size,1,none⟩=some (.int .i64 1)∧(x.setCell ⟨G,2,none⟩ (.slice ra rm rc)).cell? ⟨u.heap.size,2,none⟩=some (.int .i64 a)∧(x.setCell ⟨G,2,none⟩ (.slice ra rm rc)).cell? ⟨u.heap.size,3,none⟩=some (.int .i64 b)) ∧
    (ok=false→Calls Tryz.prog 118 #[.pointer (some ⟨G,0,none⟩),.agg #[.int .i64 i,.int .i64 1,.int .i64 a,.int .i64 b],.bool false] x fun e v=>MvA lo u G (cutH h i 1 a b oc) 1 e v)):=fun x ra rm rc gx ox=>by
   have kx:=HK2.out.up gx
   have ax:=HA2.out.up gx
   have lx:lo≤x.heap.size:=Nat.le_trans HL2.out gx.size
   have bx:Below lo u x:=HB2.out.trans (gx.mono HL2.out)
   refine ⟨⟨kx,ax.cell 0 rfl,ax.cell 1 rfl,ax.cell 2 rfl,ax.cell 3 rfl⟩,fun ht=>?_,fun hf=>?_⟩
   ·rw [hok] at ht
    obtain ⟨c9,h9⟩:=Option.isSome_iff_exists.1 ht
    have ec:cs=c9:=by rw [hcs,h9];rfl
    rw [h9]
    have gs:=grownSet x G 2 (.slice ra rm rc)
    have ay:BxA (x.setCell ⟨G,2,none⟩ (.slice ra rm rc)) u.heap.size 28 #[.int .i64 i,.int .i64 1,.int .i64 a,.int .i64 b]:=ax.setO _ (by omega)
    have hx2:HX lo (x.setCell ⟨G,2,none⟩ (.slice ra rm rc)) G (withCuts h c9) ⟨p.o,⟨ra,rm,rc⟩,p.l,p.n,p.e,p.s⟩ R:=by
     have X2:=kx.bx.set 2 (.slice ra rm rc)
     refine ⟨X2,kx.ge,⟨own_keepG kx.hw.ow.o kx.bx (by decide) gs,?_,FB.keepG kx.hw.ow.l kx.bx gs,kx.hw.ow.r,own_keepG kx.hw.ow.n kx.bx (by decide) gs,own_keepG kx.hw.ow.e kx.bx (by decide) gs,own_keepG kx.hw.ow.s kx.bx (by decide) gs⟩,⟨kx.hw.sp.on,kx.hw.sp.orr,kx.hw.sp.nr⟩,fun b h1 h2=>?_⟩
     ·have:=own_keepG (own_mono ox HL2.out) kx.bx (by decide) gs
      rw [ec] at this
      exact this
     ·have e1:=(ox.lt b h1).1
      have e2:=(HK2.out.hw.ow.e.lt b h2).2
      omega
    refine ⟨(pSayWh_any i 1 a b true _ hx2 (by simpa [World.setCell] using lx) hn).mono fun e v ⟨h1,⟨g,c,h2⟩,h3⟩=>⟨h1,⟨_,_,h2⟩,(Below.setCell bx (p:=⟨G,2,none⟩) kx.ge _).trans h3⟩,ay.cell 0 rfl,ay.cell 1 rfl,ay.cell 2 rfl,ay.cell 3 rfl⟩
   ·rw [hok] at hf
    have h9:oc=none:=by cases oc with | none=>rfl | some c=>cases hf
    rw [h9]
    exact (pSayWh_any i 1 a b false x kx lx hn).mono fun e v ⟨h1,⟨g,c,h2⟩,h3⟩=>⟨h1,⟨_,_,h2⟩,bx.trans h3⟩
  clear HK2 HX2 HA2 HR2 HB2 HL2 HO1 HO2 HNm Hln hoc hok hN1 hcs e0 e1 w0 w1 w2 w3
  go_upto_region 5 with fail
  (
   apply viaT
   intro t11_15_
   apply viaT
   intro t15_
   apply viaT
   intro t11_
   focus (
   refine wp_region_held_drew (S:=(fun u=>u.cell? ⟨G,0,none⟩=some (.int .i64 h.N)∧u.cell? ⟨G,2,none⟩=some (.slice p.c.a p.c.n p.c.c)∧u.cell? ⟨B,0,none⟩=some (.int .i64 (i1:Int))∧u.cell? ⟨B,1,none⟩=some (.int .i64 (i2:Int)))) (by kernel_rfl) hS2 (fun hHeld=>?_)
   refine tq0 (i:=0) (v:=?_) rfl ?_ (by assumption) ?_
   rotate_left
   ·intro w hSw;(try dsimp only at hSw);go_simp;try with_reducible rfl
   try simp only [Act.put,pU0]
   refine tq0 (i:=1) (v:=?_) rfl ?_ (by assumption) ?_
   rotate_left
   ·intro w hSw;(try dsimp only at hSw);go_simp;try with_reducible rfl
   try simp only [Act.put,pU0]
   refine tq0 (i:=2) (v:=?_) rfl ?_ (by assumption) ?_
   rotate_left
   ·intro w hSw;(try dsimp only at hSw);go_simp;try with_reducible rfl
   try simp only [Act.put,pU0]
   refine tq0 (i:=3) (v:=?_) rfl ?_ (by assumption) ?_
   rotate_left
   ·intro w hSw;(try dsimp only at hSw);go_simp;try with_reducible rfl
   try simp only [Act.put,pU0]
   refine tq0 (i:=4) (v:=?_) rfl ?_ (by assumption) ?_
   rotate_left
   ·intro w hSw;(try dsimp only at hSw);go_simp;try with_reducible rfl
   try simp only [Act.put,pU0]
   refine tq0 (i:=5) (v:=?_) rfl ?_ (by assumption) ?_
   rotate_left
   ·intro w hSw;(try dsimp only at hSw);go_simp;try with_reducible rfl
   try simp only [Act.put,pU0]
   refine tq0 (i:=6) (v:=?_) rfl ?_ (by assumption) ?_
   rotate_left
   ·intro w hSw;(try dsimp only at hSw);go_simp;try with_reducible rfl
   try simp only [Act.put,pU0]
   refine tq0 (i:=7) (v:=?_) rfl ?_ (by assumption) ?_
   rotate_left
   ·intro w hSw;(try dsimp only at hSw);go_simp;try with_reducible rfl
   try simp only [Act.put,pU0]
   refine tq0 (i:=8) (v:=?_) rfl ?_ (by assumption) ?_
   rotate_left
   ·intro w hSw;(try dsimp only at hSw);go_simp;try with_reducible rfl
   try simp only [Act.put,pU0]
   refine tq0 (i:=9) (v:=?_) rfl ?_ (by assumption) ?_
   rotate_left
   ·intro w hSw;(try dsimp only at hSw);go_simp;try with_reducible rfl
   try simp only [Act.put,pU0]
   refine tq0 (i:=10) (v:=?_) rfl ?_ (by assumption) ?_
   rotate_left
   ·intro w hSw;(try dsimp only at hSw);go_simp;try with_reducible rfl
   try simp only [Act.put,pU0]
   obtain ⟨y,hy⟩:=ex0 (W2.drew)
   have GU:Good W2 y:=by rw [hy];exact (Good.refl _).drew
   rw [← hy]
   clear hy hHeld
   refine wpAnyH_ready (rs:=[11,15]) (by kernel_rfl) (by simp) ?_
   refine AllReadyH.cons rfl (fun K hK=>?_) (AllReadyH.cons rfl (fun K hK=>?_) AllReadyH.nil)
   focus (
   rw [if_pos]
   rotate_left
   ·kernel_rfl
   have HCall:=hideIt (HCh.out _ GU)
   go_wp2_with (go_at_call 135;refine HCall.out.mono ?_;rintro e z ⟨ra,rm,rc,rfl,ho,gg⟩;refine Hid.out ?_)
   refine hidp ?_
   refine hK.out _ _ (HC.out _ (Good.up GU gg)) (fun hHeld=>?_)
   clear hK K HCall
   try simp only [Act.put,pU0]
   have OA:=own_mono ho GU.size
   clear ho
   replace GU:=Good.up GU gg
   clear gg
   replace hHeld:=HC.out _ GU
   refine tq0 (i:=12) (v:=?_) rfl ?_ (by assumption) ?_
   rotate_left
   ·intro w hSw;(try dsimp only at hSw);go_simp;try with_reducible rfl
   try simp only [Act.put,pU0]
   refine tq0 (i:=13) (v:=?_) rfl ?_ (by assumption) ?_
   rotate_left
   ·intro w hSw;(try dsimp only at hSw);go_simp;try with_reducible rfl
   try simp only [Act.put,pU0]
   refine tq0 (i:=14) (v:=?_) rfl ?_ (by assumption) ?_
   rotate_left
   ·intro w hSw;(try dsimp only at hSw);go_simp;try with_reducible rfl
   try simp only [Act.put,pU0]
   clear hHeld
   refine lstH (l':=#[true,true,true,true,true,true,true,true,true,true,true,true,true,true,true,false,false,false]) (by kernel_rfl) ?_
   have F:=And.intro GU OA
   clear GU OA
   revert F
   revert rc
   revert rm
   revert ra
   revert z
   exact t11_.out
   )
   focus (
   go_simp
   refine hK.out _ _ (HC.out _ (GU.alloc _)) (fun hHeld=>?_)
   clear hK K
   try simp only [Act.put,pU0]
   obtain ⟨z,hz⟩:=ex0 (y.alloc (.cells #[.int .i64 0,.slice none 0 0] 104))
   have gg:=bz0 hz
   have XB:BxA z y.heap.size 104 #[.int .i64 0,.slice none 0 0]:=by rw [hz];exact BxA.new _ _ _
   have LB:W2.heap.size≤y.heap.size:=GU.size
   replace GU:=Good.up GU gg
   rw [← hz]
   clear hz gg hHeld
   generalize y.heap.size=bG at *
   refine lstH (l':=#[true,true,true,true,true,true,true,true,true,true,true,false,false,false,false,true,false,false]) (by kernel_rfl) ?_
   have F:=And.intro GU (And.intro XB LB)
   clear GU XB LB
   revert F
   revert bG
   revert z
   exact t15_.out
   )
   )
   focus (
   intro y ra rm rc F
   obtain ⟨GU,OA⟩:=F
   have hHeld:=HC.out _ GU
   clear hHeld
   refine wr0 (i:=15) rfl (fun K hK=>?_)
   focus (
   go_simp
   refine hK.out _ _ (HC.out _ (GU.alloc _)) (fun hHeld=>?_)
   clear hK K
   try simp only [pU0]
   obtain ⟨z,hz⟩:=ex0 (y.alloc (.cells #[.int .i64 0,.slice none 0 0] 104))
   have gg:=bz0 hz
   have XB:BxA z y.heap.size 104 #[.int .i64 0,.slice none 0 0]:=by rw [hz];exact BxA.new _ _ _
   have LB:W2.heap.size≤y.heap.size:=GU.size
   replace GU:=Good.up GU gg
   replace OA:=own_up OA gg
   rw [← hz]
   clear hz gg hHeld
   generalize y.heap.size=bG at *
   refine lstH (l':=#[true,true,true,true,true,true,true,true,true,true,true,true,true,true,true,true,false,false]) (by kernel_rfl) ?_
   have F:=And.intro GU (And.intro XB (And.intro LB OA))
   clear GU XB LB OA
   revert F
   revert rc
   revert rm
   revert ra
   revert bG
   revert z
   exact t11_15_.out
   )
   )
   focus (
   intro y bG F
   obtain ⟨GU,XB,LB⟩:=F
   have hHeld:=HC.out _ GU
   clear hHeld
   refine wr0 (i:=11) rfl (fun K hK=>?_)
   focus (
   rw [if_pos]
   rotate_left
   ·kernel_rfl
   have HCall:=hideIt (HCh.out _ GU)
   go_wp2_with (go_at_call 135;refine HCall.out.mono ?_;rintro e z ⟨ra,rm,rc,rfl,ho,gg⟩;refine Hid.out ?_)
   refine hidp ?_
   refine hK.out _ _ (HC.out _ (Good.up GU gg)) (fun hHeld=>?_)
   clear hK K HCall
   try simp only [pU0]
   have OA:=own_mono ho GU.size
   clear ho
   replace GU:=Good.up GU gg
   replace XB:=XB.up gg
   clear gg
   replace hHeld:=HC.out _ GU
   refine tq0 (i:=12) (v:=?_) rfl ?_ (by assumption) ?_
   rotate_left
   ·intro w hSw;(try dsimp only at hSw);go_simp;try with_reducible rfl
   try simp only [Act.put,pU0]
   refine tq0 (i:=13) (v:=?_) rfl ?_ (by assumption) ?_
   rotate_left
   ·intro w hSw;(try dsimp only at hSw);go_simp;try with_reducible rfl
   try simp only [Act.put,pU0]
   refine tq0 (i:=14) (v:=?_) rfl ?_ (by assumption) ?_
   rotate_left
   ·intro w hSw;(try dsimp only at hSw);go_simp;try with_reducible rfl
   try simp only [Act.put,pU0]
   clear hHeld
   refine lstH (l':=#[true,true,true,true,true,true,true,true,true,true,true,true,true,true,true,true,false,false]) (by kernel_rfl) ?_
   have F:=And.intro GU (And.intro XB (And.intro LB OA))
   clear GU XB LB OA
   revert F
   revert rc
   revert rm
   revert ra
   revert bG
   revert z
   exact t11_15_.out
   )
   )
   focus (
   intro y bG ra rm rc F
   obtain ⟨GU,XB,LB,OA⟩:=F
   have hHeld:=HC.out _ GU
   refine wr0 (i:=16) rfl (fun K hK=>?_)
   have q0:=XB.cell 0 rfl
   have q1:=XB.cell 1 rfl
   have f0:=XB.frozen 0
   have f1:=XB.frozen 1
   have lB:=XB.lt
   go_simp
   obtain ⟨x,hx⟩:=ex0 ((y.setCell ⟨bG,0,none⟩ (.int .i64 N1)).setCell ⟨bG,1,none⟩ (.slice ra rm rc))
   have GX:Good W2 x:=by rw [hx];exact Below.setCell (Below.setCell GU (p:=⟨bG,0,none⟩) LB _) (p:=⟨bG,1,none⟩) LB _
   have XX:BxA x bG 104 #[.int .i64 N1,.slice ra rm rc]:=by rw [hx];exact (XB.set 0 (.int .i64 N1)).set 1 (.slice ra rm rc)
   have OX:x.ownsRow W2.heap.size 107 2 (.slice ra rm rc) rm (O.ecells cs):=by
    rw [hx]
    have ne:(Value.slice ra rm rc).ownBlock≠some bG:=fun e=>by
     rcases OA.2 with ⟨hv,_⟩ | ⟨g,cap,cur,hv,_,hc,_⟩
     ·rw [hv] at e;simp [Value.ownBlock] at e
     ·rw [hv] at e;simp [Value.ownBlock] at e;subst e;unfold BxA at XB;rw [hc] at XB;simp at XB
    exact World.ownsRow.kept (World.ownsRow.kept OA (grownSet _ _ _ _) (.inr ne)) (grownSet _ _ _ _) (.inr ne)
   refine hK.out _ _ (by rw [← hx];exact HC.out _ GX) (fun hHeld=>?_)
   clear hK K
   try simp only [pU0]
   rw [← hx] at hHeld ⊢
   clear hx q0 q1 f0 f1 lB XB OA GU
   refine tq0 (i:=17) (v:=?_) rfl ?_ (by assumption) ?_
   rotate_left
   ·intro w hSw;go_simp;try with_reducible rfl
   try simp only [Act.put,pU0]
   refine wpAnyH_done (by kernel_rfl) ?_ _
   clear hHeld
   have z1:=XX.cell 1 rfl
   have lX:=XX.lt
   have HF:=hideIt (HAft.out x ra rm rc GX OX)
   have fx2:=(HF.out.1.1.bx).frozen 2
   have cx2:x.cell? ⟨G,2,none⟩=some (.slice p.c.a p.c.n p.c.c):=HF.out.1.1.bx.cell 2 rfl
   have lGx:=HF.out.1.1.bx.lt
   obtain ⟨a0,a1,a2,a3⟩:=HF.out.1.2
   cases ok with
   | true =>
    have HT:=HF.out.2.1 rfl
    have HT2:=hideIt HT
    clear XX OX GX HT HF
    go_upto_region 8 with fail
    obtain ⟨x2,hx2⟩:=ex0 (x.setCell ⟨G,2,none⟩ (.slice ra rm rc))
    rw [← hx2] at HT2 ⊢
    obtain ⟨HC8,b0,b1,b2,b3⟩:=HT2.out
    have HC8:=hideIt HC8
    clear hx2 HT2 fx2 cx2 a0 a1 a2 a3 z1
    go_wp2_with (go_at_call 118;refine HC8.out.mono ?_;rintro e v ⟨rfl,hk,hb⟩)
    go_ret
    first | exact HFi2.out _ _ ⟨rfl,hk,hb⟩ | exact HFin.out _ _ ⟨rfl,hk,hb⟩
   | false =>
    have HC8:=hideIt (HF.out.2.2 rfl)
    clear XX OX GX HF fx2 cx2 z1
    go_upto_region 8 with fail
    go_wp2_with (go_at_call 118;refine HC8.out.mono ?_;rintro e v ⟨rfl,hk,hb⟩)
    go_ret
    first | exact HFi2.out _ _ ⟨rfl,hk,hb⟩ | exact HFin.out _ _ ⟨rfl,hk,hb⟩
   )
  )
set_option maxRecDepth 100000 in
set_option maxHeartbeats 16000000 in
theorem pChgT {lo G S:Nat} {h:Hd} {p:Hp} {R:List Rw} (i a b:Int) (u:World) (k:HX lo u G h p R) (hi:HInv S h) (hl:lo≤u.heap.size) (ha:0≤a∧a<h.N) (hb0:0≤b∧b<h.N) (hab:a≠b) :
  Calls Tryz.prog 134 #[.pointer (some ⟨G,0,none⟩),.agg #[.int .i64 i,.int .i64 2,.int .i64 a,.int .i64 b],.int .i64 2,.func (.func 136) #[] #[]] u fun e v=>MvA lo u G (chgH h i 2 a b) (chgC h a b) e v:=by
 have hin:=edgeA_in ha hb0
 have hee:=edgeA_ok hi.n ha hb0 hab
 obtain ⟨ex,ey,hE⟩:∃ ex ey,edgeA a b=(ex,ey):=⟨_,_,rfl⟩
 have hEd:edA a b=(ex,ey):=hE
 rw [hE] at hin hee
 dsimp only at hin
 have o1:=hi.ownAt hin.1.1 hin.1.2
 have o2:=hi.ownAt hin.2.1 hin.2.2
 have hln:=hi.lens k.hw.ow.inn
 have hR:=k.hw.re hi
 have hnum:∀ y ∈ h.nums,0≤y∧y≤1000:=fun y hy=>by
  have h1:=hi.num.2 y hy
  have:=hi.sd.1
  split at h1 <;> omega
 obtain ⟨i1,rfl⟩:∃ v:Nat,ex=(v:Int):=⟨ex.toNat,by omega⟩
 obtain ⟨i2,rfl⟩:∃ v:Nat,ey=(v:Int):=⟨ey.toNat,by omega⟩
 rw [Int.toNat_natCast] at o1 o2
 have hCG:chgH h i 2 a b=(if O.atI h.own (i1:Int)=O.atI h.own (i2:Int) then ordH h i 2 a b (O.atI h.own (i1:Int)) 2 [((i1:Int),(i2:Int))] 0 else cutH h i 2 a b (O.takE h.N h.cuts ((i1:Int),(i2:Int)))):=by unfold chgH;rw [hE];rfl
 have hCC:chgC h a b=(if O.atI h.own (i1:Int)=O.atI h.own (i2:Int) then 2 else 1):=by unfold chgC;rw [hE]
 rw [hCG,hCC]
 obtain ⟨x1,hx1⟩:∃ x,x=O.atI h.own (i1:Int):=⟨_,rfl⟩
 obtain ⟨x2,hx2⟩:∃ x,x=O.atI h.own (i2:Int):=⟨_,rfl⟩
 rw [← hx1,← hx2]
 rw [← hx1] at o1
 rw [← hx2] at o2
 have hs:=hi.s
 have hns:=hi.num.1
 obtain ⟨s,rfl⟩:∃ s:Nat,x1=(s:Int)+1:=⟨(x1 - 1).toNat,by omega⟩
 have hs3:s≤2:=by omega
 have hsN:s<h.nums.length:=by omega
 have hn:p.s.n≤1000:=by omega
 obtain ⟨W,hW⟩:=ex0 (u.alloc (.cells #[.int .i64 i,.int .i64 2,.int .i64 a,.int .i64 b] 28))
 have bW:Below u.heap.size u W:=by rw [hW];exact belA _ _
 have XA:BxA W u.heap.size 28 #[.int .i64 i,.int .i64 2,.int .i64 a,.int .i64 b]:=by rw [hW];exact BxA.new _ _ _
 have HE1:=hideIt (askEdge_any i 2 a b W)
 rw [hEd] at HE1
 have HK:=hideIt (k.up bW)
 have HXA:=hideIt XA
 have HRh:=hideIt (hR.up bW)
 have HB:=hideIt (bW.mono hl)
 have HL:Hid (lo≤W.heap.size):=Nat.le_trans hl bW.size
 have lG:G<u.heap.size:=k.bx.lt
 have HO1:=hideIt o1
 have HO2:=hideIt o2
 have HNm:=hideIt hnum
 have Hln:=hideIt hln
 have w0:=XA.cell 0 rfl
 have w1:=XA.cell 1 rfl
 have w2:=XA.cell 2 rfl
 have w3:=XA.cell 3 rfl
 clear k hi hR hin hee hE hEd hCG hCC hx1 hx2 o1 o2 hln hnum bW XA hs hns ha hb0 hab hl
 go_enter Tryz.func134,Tryz.ntmps134
 go_upto_region 1 with fail
 rw [← hW]
 clear hW
 go_wp2_with (go_at_call 150;refine HE1.out.mono ?_;rintro e v1 ⟨rfl,c1⟩;refine Hid.out ?_)
 refine hidp20 ?_
 obtain ⟨V,hV⟩:=ex0 (v1.alloc (.cells #[.int .i64 (i1:Int),.int .i64 (i2:Int)] 107))
 obtain ⟨B,hBq⟩:=ex0 (v1.heap.size)
 have bV:Below W.heap.size W V:=by rw [hV];exact c1.alloc c1.size _
 have XE:BxA V B 107 #[.int .i64 (i1:Int),.int .i64 (i2:Int)]:=by rw [hV,hBq];exact BxA.new _ _ _
 have lB0:Hid (W.heap.size≤B):=by show _≤_;rw [hBq];exact c1.size
 have HKV:=hideIt (HK.out.up bV)
 have HXE:=hideIt XE
 have HXV:=hideIt (HXA.out.up bV)
 have HBV:Hid (Below lo u V):=HB.out.trans (bV.mono HL.out)
 have HLV:Hid (lo≤V.heap.size):=Nat.le_trans HL.out bV.size
 have HRV:=hideIt (HRh.out.up bV)
 clear w0 w1 w2 w3 HE1 c1
 go_upto_region 2 with fail
 rw [← hV,← hBq]
 clear hV hBq bV XE
 obtain ⟨bo,oo,ea,hbo,hco⟩:∃ bo oo,p.o.a=some ⟨bo,oo,none⟩∧bo<V.heap.size∧(V.cell? ⟨bo,oo+i1,none⟩=some (.int .i64 ((s:Int)+1))∧V.cell? ⟨bo,oo+i2,none⟩=some (.int .i64 x2)):=by
  rcases (Is_own HKV.out.hw.ow.o).2 with h0 | ⟨bo,oo,e,hb,hc⟩
  ·have:=(List.getElem?_eq_some_iff.1 HO1.out.2).1;have:=Hln.out.2.2.2.2.2.2.1;omega
  ·exact ⟨bo,oo,e,hb,hc _ _ HO1.out.2,hc _ _ HO2.out.2⟩
 have g1:V.cell? ⟨G,1,none⟩=some (.slice p.o.a p.o.n p.o.c):=HKV.out.bx.cell 1 rfl
 rw [ea] at g1
 have e0:=HXE.out.cell 0 rfl
 have e1:=HXE.out.cell 1 rfl
 have q1:(0:Int)≤(i1:Int):=by omega
 have q2:(i1:Int)<(p.o.n:Int):=by have:=(List.getElem?_eq_some_iff.1 HO1.out.2).1;have:=Hln.out.2.2.2.2.2.2.1;omega
 have q3:(0:Int)≤(i2:Int):=by omega
 have q4:(i2:Int)<(p.o.n:Int):=by have:=(List.getElem?_eq_some_iff.1 HO2.out.2).1;have:=Hln.out.2.2.2.2.2.2.1;omega
 obtain ⟨hc1,hc2⟩:=hco
 clear ea
 by_cases hxx:(s:Int)+1=x2
 ·have HFin:Hid (∀ e v,MvA lo u G (ordH h i 2 a b ((s:Int)+1) 2 [((i1:Int),(i2:Int))] 0) 2 e v→MvA lo u G (if (s:Int)+1=x2 then ordH h i 2 a b ((s:Int)+1) 2 [((i1:Int),(i2:Int))] 0 else cutH h i 2 a b (O.takE h.N h.cuts ((i1:Int),(i2:Int)))) (if (s:Int)+1=x2 then 2 else 1) e v):=fun e v hm=>by rw [if_pos hxx,if_pos hxx];exact hm
  subst hxx
  have ee:((s:Int)+1 == (s:Int)+1)=true:=by simp
  go_region_held3 (fun v=>v.cell? ⟨G,1,none⟩=some (.slice (some ⟨bo,oo,none⟩) p.o.n p.o.c)∧v.cell? ⟨B,0,none⟩=some (.int .i64 (i1:Int))∧v.cell? ⟨bo,oo+i1,none⟩=some (.int .i64 ((s:Int)+1))) (exact ⟨g1,e0,hc1⟩) (fail)
  go_upto_region 3 with fail
  go_region_held3 (fun v=>v.cell? ⟨G,1,none⟩=some (.slice (some ⟨bo,oo,none⟩) p.o.n p.o.c)∧v.cell? ⟨B,1,none⟩=some (.int .i64 (i2:Int))∧v.cell? ⟨bo,oo+i2,none⟩=some (.int .i64 ((s:Int)+1))) (exact ⟨g1,e1,hc2⟩) (fail)
  obtain ⟨W2,hW2⟩:=ex0 (V.drew.drew)
  have b2:Below V.heap.size V W2:=by rw [hW2];exact (Below.refl _ _).drew.drew
  have HK2:=hideIt (HKV.out.up b2)
  have HX2:=hideIt (HXE.out.up b2)
  have HA2:=hideIt (HXV.out.up b2)
  have HB2:Hid (Below lo u W2):=HBV.out.trans (b2.mono HLV.out)
  have HL2:Hid (lo≤W2.heap.size):=Nat.le_trans HLV.out b2.size
  have HR2:=hideIt (HRV.out.up b2)
  have lBw:B<W2.heap.size:=HX2.out.lt
  rw [← hW2]
  clear hW2 b2 g1 e0 e1 hc1 hc2 HKV HXE HXV HBV HLV HRV HK HXA HRh
  have e0:=HX2.out.cell 0 rfl
  have e1:=HX2.out.cell 1 rfl
  have w0:=HA2.out.cell 0 rfl
  have w1:=HA2.out.cell 1 rfl
  have w2:=HA2.out.cell 2 rfl
  have w3:=HA2.out.cell 3 rfl
  have HOr:Hid (Calls Tryz.prog 138 #[.pointer (some ⟨G,0,none⟩),.agg #[.int .i64 i,.int .i64 2,.int .i64 a,.int .i64 b],.int .i64 ((s:Int)+1),.agg #[.int .i64 0,.int .i64 2,.slice (some ⟨W2.heap.size,0,none⟩) 1 1,.int .i64 0]] (W2.alloc (.cells #[.int .i64 (i1:Int),.int .i64 (i2:Int)] 107)) fun e v=>e=.returned (.int .i64 2)∧(∃ p R,HX lo v G (ordH h i 2 a b ((s:Int)+1) 2 [((i1:Int),(i2:Int))] 0) p R)∧Below lo u v):=by
   have bA:=belA W2 (.cells #[.int .i64 (i1:Int),.int .i64 (i2:Int)] 107)
   have ow:(W2.alloc (.cells #[.int .i64 (i1:Int),.int .i64 (i2:Int)] 107)).ownsRow W2.heap.size 107 2 (.slice (some ⟨W2.heap.size,0,none⟩) 1 1) 1 (O.ecells [((i1:Int),(i2:Int))]):=World.ownsRow_lit (base:=W2.heap.size) (e:=107) (size:=2) W2 #[.int .i64 (i1:Int),.int .i64 (i2:Int)] 1 (Nat.le_refl _) (by unfold maxLen;omega) (by simp)
   exact (pOrder_any i 2 a b s 0 2 0 [((i1:Int),(i2:Int))] (some ⟨W2.heap.size,0,none⟩) 1 1 _ (HK2.out.up bA) (Nat.le_trans HL2.out bA.size) hsN hs3 HNm.out (own_mono ow HL2.out) (fun b h1 h2=>by have:=(HK2.out.hw.ow.c.lt b h1).2;simp [Value.ownBlock] at h2;omega)).mono fun e v ⟨h1,h2,h3⟩=>⟨h1,⟨_,_,h2⟩,HB2.out.trans ((bA.mono HL2.out).trans h3)⟩
  clear HK2 HX2 HA2 HR2 HB2 HL2 HO1 HO2 HNm Hln
  go_wp2_with (go_at_call 138;refine HOr.out.mono ?_;rintro e v ⟨rfl,hk,hb⟩)
  go_ret
  exact HFin.out _ _ ⟨rfl,hk,hb⟩
 ·have HFin:Hid (∀ e v,MvA lo u G (cutH h i 2 a b (O.takE h.N h.cuts ((i1:Int),(i2:Int)))) 1 e v→MvA lo u G (if (s:Int)+1=x2 then ordH h i 2 a b ((s:Int)+1) 2 [((i1:Int),(i2:Int))] 0 else cutH h i 2 a b (O.takE h.N h.cuts ((i1:Int),(i2:Int)))) (if (s:Int)+1=x2 then 2 else 1) e v):=fun e v hm=>by rw [if_neg hxx,if_neg hxx];exact hm
  have ee:((s:Int)+1 == x2)=false:=by simpa using hxx
  have ed:decide ((s:Int)+1=x2)=false:=by simpa using hxx
  go_region_held3 (fun v=>v.cell? ⟨G,1,none⟩=some (.slice (some ⟨bo,oo,none⟩) p.o.n p.o.c)∧v.cell? ⟨B,0,none⟩=some (.int .i64 (i1:Int))∧v.cell? ⟨bo,oo+i1,none⟩=some (.int .i64 ((s:Int)+1))) (exact ⟨g1,e0,hc1⟩) (fail)
  go_upto_region 3 with fail
  go_region_held3 (fun v=>v.cell? ⟨G,1,none⟩=some (.slice (some ⟨bo,oo,none⟩) p.o.n p.o.c)∧v.cell? ⟨B,1,none⟩=some (.int .i64 (i2:Int))∧v.cell? ⟨bo,oo+i2,none⟩=some (.int .i64 x2)) (exact ⟨g1,e1,hc2⟩) (fail)
  obtain ⟨W2,hW2⟩:=ex0 (V.drew.drew)
  have b2:Below V.heap.size V W2:=by rw [hW2];exact (Below.refl _ _).drew.drew
  have HK2:=hideIt (HKV.out.up b2)
  have HX2:=hideIt (HXE.out.up b2)
  have HA2:=hideIt (HXV.out.up b2)
  have HB2:Hid (Below lo u W2):=HBV.out.trans (b2.mono HLV.out)
  have HL2:Hid (lo≤W2.heap.size):=Nat.le_trans HLV.out b2.size
  have HR2:=hideIt (HRV.out.up b2)
  have lBw:B<W2.heap.size:=HX2.out.lt
  rw [← hW2]
  clear hW2 b2 g1 e0 e1 hc1 hc2 HKV HXE HXV HBV HLV HRV HK HXA HRh
  have e0:=HX2.out.cell 0 rfl
  have e1:=HX2.out.cell 1 rfl
  have w0:=HA2.out.cell 0 rfl
  have w1:=HA2.out.cell 1 rfl
  have w2:=HA2.out.cell 2 rfl
  have w3:=HA2.out.cell 3 rfl
  have HC:Hid (∀ u,Good W2 u→u.cell? ⟨G,0,none⟩=some (.int .i64 h.N)∧u.cell? ⟨G,2,none⟩=some (.slice p.c.a p.c.n p.c.c)∧u.cell? ⟨B,0,none⟩=some (.int .i64 (i1:Int))∧u.cell? ⟨B,1,none⟩=some (.int .i64 (i2:Int))):=fun u hu=>⟨(HK2.out.up hu).bx.cell 0 rfl,(HK2.out.up hu).bx.cell 2 rfl,(HX2.out.up hu).cell 0 rfl,(HX2.out.up hu).cell 1 rfl⟩
  have hS2:=HC.out _ (Below.refl W2.heap.size W2).drew
  obtain ⟨oc,hoc⟩:=ex0 (O.takE h.N h.cuts ((i1:Int),(i2:Int)))
  obtain ⟨ok,hok⟩:=ex0 (oc.isSome)
  obtain ⟨N1,hN1⟩:=ex0 ((if oc.isSome then h.N else 0))
  obtain ⟨cs,hcs⟩:=ex0 (oc.getD [])
  have HFin:Hid (∀ e v,MvA lo u G (cutH h i 2 a b oc) 1 e v→MvA lo u G (if (s:Int)+1=x2 then ordH h i 2 a b ((s:Int)+1) 2 [((i1:Int),(i2:Int))] 0 else cutH h i 2 a b (O.takE h.N h.cuts ((i1:Int),(i2:Int)))) (if (s:Int)+1=x2 then 2 else 1) e v):=fun e v hm=>HFin.out e v (by rw [← hoc];exact hm)
  have HFi2:Hid (∀ e v,MvA lo u G (cutH h i 2 a b oc) 1 e v→MvA lo u G (cutH h i 2 a b (O.takE h.N h.cuts ((i1:Int),(i2:Int)))) 1 e v):=fun e v hm=>by rw [← hoc];exact hm
  have HCh:Hid (∀ u,Good W2 u→Calls Tryz.prog 136 #[.agg #[.int .i64 h.N,.slice p.c.a p.c.n p.c.c],.agg #[.int .i64 (i1:Int),.int .i64 (i2:Int)]] u fun e v=>∃ ra rm rc,e=.returned (.tuple #[.agg #[.int .i64 N1,.slice ra rm rc],.bool ok])∧v.ownsRow u.heap.size 107 2 (.slice ra rm rc) rm (O.ecells cs)∧Below u.heap.size u v):=fun u hu=>by
   have:=O.iTakeEdge_any h.N h.cuts ((i1:Int),(i2:Int)) p.c.n p.c.a p.c.c HR2.out.sc (by have:=Hln.out.2.1;omega) u (HR2.out.up hu).inn.c
   rw [← hoc] at this
   rw [hN1,hok,hcs]
   exact this
  have HAft:Hid (∀ (x:World) (ra:Option Addr) (rm rc:Nat),Good W2 x→x.ownsRow W2.heap.size 107 2 (.slice ra rm rc) rm (O.ecells cs) →
    (HX lo x G h p R∧x.cell? ⟨u.heap.size,0,none⟩=some (.int .i64 i)∧x.cell? ⟨u.heap.size,1,none⟩=some (.int .i64 2)∧x.cell? ⟨u.heap.size,2,none⟩=some (.int .i64 a)∧x.cell? ⟨u.heap.size,3,none⟩=some (.int .i64 b)) ∧
    (ok=true→(Calls Tryz.prog 118 #[.pointer (some ⟨G,0,none⟩),.agg #[.int .i64 i,.int .i64 2,.int .i64 a,.int .i64 b],.bool true] (x.setCell ⟨G,2,none⟩ (.slice ra rm rc)) fun e v=>MvA lo u G (cutH h i 2 a b oc) 1 e v)∧(x.setCell ⟨G,2,none⟩ (.slice ra rm rc)).cell? ⟨u.heap.size,0,none⟩=some (.int .i64 i)∧(x.setCell ⟨G,2,none⟩ (.slice ra rm rc)).cell? ⟨u.heap.size,1,none⟩=some (.int .i64 2)∧(x.setCell ⟨G,2,none⟩ (.slice ra rm rc)).cell? ⟨u.heap.size,2,none⟩=some (.int .i64 a)∧(x.setCell ⟨G,2,none⟩ (.slice ra rm rc)).cell? ⟨u.heap.size,3,none⟩=some (.int .i64 b)) ∧
    (ok=false→Calls Tryz.prog 118 #[.pointer (some ⟨G,0,none⟩),.agg #[.int .i64 i,.int .i64 2,.int .i64 a,.int .i64 b],.bool false] x fun e v=>MvA lo u G (cutH h i 2 a b oc) 1 e v)):=fun x ra rm rc gx ox=>by
   have kx:=HK2.out.up gx
   have ax:=HA2.out.up gx
   have lx:lo≤x.heap.size:=Nat.le_trans HL2.out gx.size
   have bx:Below lo u x:=HB2.out.trans (gx.mono HL2.out)
   refine ⟨⟨kx,ax.cell 0 rfl,ax.cell 1 rfl,ax.cell 2 rfl,ax.cell 3 rfl⟩,fun ht=>?_,fun hf=>?_⟩
   ·rw [hok] at ht
    obtain ⟨c9,h9⟩:=Option.isSome_iff_exists.1 ht
    have ec:cs=c9:=by rw [hcs,h9];rfl
    rw [h9]
    have gs:=grownSet x G 2 (.slice ra rm rc)
    have ay:BxA (x.setCell ⟨G,2,none⟩ (.slice ra rm rc)) u.heap.size 28 #[.int .i64 i,.int .i64 2,.int .i64 a,.int .i64 b]:=ax.setO _ (by omega)
    have hx2:HX lo (x.setCell ⟨G,2,none⟩ (.slice ra rm rc)) G (withCuts h c9) ⟨p.o,⟨ra,rm,rc⟩,p.l,p.n,p.e,p.s⟩ R:=by
     have X2:=kx.bx.set 2 (.slice ra rm rc)
     refine ⟨X2,kx.ge,⟨own_keepG kx.hw.ow.o kx.bx (by decide) gs,?_,FB.keepG kx.hw.ow.l kx.bx gs,kx.hw.ow.r,own_keepG kx.hw.ow.n kx.bx (by decide) gs,own_keepG kx.hw.ow.e kx.bx (by decide) gs,own_keepG kx.hw.ow.s kx.bx (by decide) gs⟩,⟨kx.hw.sp.on,kx.hw.sp.orr,kx.hw.sp.nr⟩,fun b h1 h2=>?_⟩
     ·have:=own_keepG (own_mono ox HL2.out) kx.bx (by decide) gs
      rw [ec] at this
      exact this
     ·have e1:=(ox.lt b h1).1
      have e2:=(HK2.out.hw.ow.e.lt b h2).2
      omega
    refine ⟨(pSayWh_any i 2 a b true _ hx2 (by simpa [World.setCell] using lx) hn).mono fun e v ⟨h1,⟨g,c,h2⟩,h3⟩=>⟨h1,⟨_,_,h2⟩,(Below.setCell bx (p:=⟨G,2,none⟩) kx.ge _).trans h3⟩,ay.cell 0 rfl,ay.cell 1 rfl,ay.cell 2 rfl,ay.cell 3 rfl⟩
   ·rw [hok] at hf
    have h9:oc=none:=by cases oc with | none=>rfl | some c=>cases hf
    rw [h9]
    exact (pSayWh_any i 2 a b false x kx lx hn).mono fun e v ⟨h1,⟨g,c,h2⟩,h3⟩=>⟨h1,⟨_,_,h2⟩,bx.trans h3⟩
  clear HK2 HX2 HA2 HR2 HB2 HL2 HO1 HO2 HNm Hln hoc hok hN1 hcs e0 e1 w0 w1 w2 w3
  go_upto_region 5 with fail
  (
   apply viaT
   intro t11_15_
   apply viaT
   intro t15_
   apply viaT
   intro t11_
   focus (
   refine wp_region_held_drew (S:=(fun u=>u.cell? ⟨G,0,none⟩=some (.int .i64 h.N)∧u.cell? ⟨G,2,none⟩=some (.slice p.c.a p.c.n p.c.c)∧u.cell? ⟨B,0,none⟩=some (.int .i64 (i1:Int))∧u.cell? ⟨B,1,none⟩=some (.int .i64 (i2:Int)))) (by kernel_rfl) hS2 (fun hHeld=>?_)
   refine tq0 (i:=0) (v:=?_) rfl ?_ (by assumption) ?_
   rotate_left
   ·intro w hSw;(try dsimp only at hSw);go_simp;try with_reducible rfl
   try simp only [Act.put,pU0]
   refine tq0 (i:=1) (v:=?_) rfl ?_ (by assumption) ?_
   rotate_left
   ·intro w hSw;(try dsimp only at hSw);go_simp;try with_reducible rfl
   try simp only [Act.put,pU0]
   refine tq0 (i:=2) (v:=?_) rfl ?_ (by assumption) ?_
   rotate_left
   ·intro w hSw;(try dsimp only at hSw);go_simp;try with_reducible rfl
   try simp only [Act.put,pU0]
   refine tq0 (i:=3) (v:=?_) rfl ?_ (by assumption) ?_
   rotate_left
   ·intro w hSw;(try dsimp only at hSw);go_simp;try with_reducible rfl
   try simp only [Act.put,pU0]
   refine tq0 (i:=4) (v:=?_) rfl ?_ (by assumption) ?_
   rotate_left
   ·intro w hSw;(try dsimp only at hSw);go_simp;try with_reducible rfl
   try simp only [Act.put,pU0]
   refine tq0 (i:=5) (v:=?_) rfl ?_ (by assumption) ?_
   rotate_left
   ·intro w hSw;(try dsimp only at hSw);go_simp;try with_reducible rfl
   try simp only [Act.put,pU0]
   refine tq0 (i:=6) (v:=?_) rfl ?_ (by assumption) ?_
   rotate_left
   ·intro w hSw;(try dsimp only at hSw);go_simp;try with_reducible rfl
   try simp only [Act.put,pU0]
   refine tq0 (i:=7) (v:=?_) rfl ?_ (by assumption) ?_
   rotate_left
   ·intro w hSw;(try dsimp only at hSw);go_simp;try with_reducible rfl
   try simp only [Act.put,pU0]
   refine tq0 (i:=8) (v:=?_) rfl ?_ (by assumption) ?_
   rotate_left
   ·intro w hSw;(try dsimp only at hSw);go_simp;try with_reducible rfl
   try simp only [Act.put,pU0]
   refine tq0 (i:=9) (v:=?_) rfl ?_ (by assumption) ?_
   rotate_left
   ·intro w hSw;(try dsimp only at hSw);go_simp;try with_reducible rfl
   try simp only [Act.put,pU0]
   refine tq0 (i:=10) (v:=?_) rfl ?_ (by assumption) ?_
   rotate_left
   ·intro w hSw;(try dsimp only at hSw);go_simp;try with_reducible rfl
   try simp only [Act.put,pU0]
   obtain ⟨y,hy⟩:=ex0 (W2.drew)
   have GU:Good W2 y:=by rw [hy];exact (Good.refl _).drew
   rw [← hy]
   clear hy hHeld
   refine wpAnyH_ready (rs:=[11,15]) (by kernel_rfl) (by simp) ?_
   refine AllReadyH.cons rfl (fun K hK=>?_) (AllReadyH.cons rfl (fun K hK=>?_) AllReadyH.nil)
   focus (
   rw [if_pos]
   rotate_left
   ·kernel_rfl
   have HCall:=hideIt (HCh.out _ GU)
   go_wp2_with (go_at_call 136;refine HCall.out.mono ?_;rintro e z ⟨ra,rm,rc,rfl,ho,gg⟩;refine Hid.out ?_)
   refine hidp ?_
   refine hK.out _ _ (HC.out _ (Good.up GU gg)) (fun hHeld=>?_)
   clear hK K HCall
   try simp only [Act.put,pU0]
   have OA:=own_mono ho GU.size
   clear ho
   replace GU:=Good.up GU gg
   clear gg
   replace hHeld:=HC.out _ GU
   refine tq0 (i:=12) (v:=?_) rfl ?_ (by assumption) ?_
   rotate_left
   ·intro w hSw;(try dsimp only at hSw);go_simp;try with_reducible rfl
   try simp only [Act.put,pU0]
   refine tq0 (i:=13) (v:=?_) rfl ?_ (by assumption) ?_
   rotate_left
   ·intro w hSw;(try dsimp only at hSw);go_simp;try with_reducible rfl
   try simp only [Act.put,pU0]
   refine tq0 (i:=14) (v:=?_) rfl ?_ (by assumption) ?_
   rotate_left
   ·intro w hSw;(try dsimp only at hSw);go_simp;try with_reducible rfl
   try simp only [Act.put,pU0]
   clear hHeld
   refine lstH (l':=#[true,true,true,true,true,true,true,true,true,true,true,true,true,true,true,false,false,false]) (by kernel_rfl) ?_
   have F:=And.intro GU OA
   clear GU OA
   revert F
   revert rc
   revert rm
   revert ra
   revert z
   exact t11_.out
   )
   focus (
   go_simp
   refine hK.out _ _ (HC.out _ (GU.alloc _)) (fun hHeld=>?_)
   clear hK K
   try simp only [Act.put,pU0]
   obtain ⟨z,hz⟩:=ex0 (y.alloc (.cells #[.int .i64 0,.slice none 0 0] 104))
   have gg:=bz0 hz
   have XB:BxA z y.heap.size 104 #[.int .i64 0,.slice none 0 0]:=by rw [hz];exact BxA.new _ _ _
   have LB:W2.heap.size≤y.heap.size:=GU.size
   replace GU:=Good.up GU gg
   rw [← hz]
   clear hz gg hHeld
   generalize y.heap.size=bG at *
   refine lstH (l':=#[true,true,true,true,true,true,true,true,true,true,true,false,false,false,false,true,false,false]) (by kernel_rfl) ?_
   have F:=And.intro GU (And.intro XB LB)
   clear GU XB LB
   revert F
   revert bG
   revert z
   exact t15_.out
   )
   )
   focus (
   intro y ra rm rc F
   obtain ⟨GU,OA⟩:=F
   have hHeld:=HC.out _ GU
   clear hHeld
   refine wr0 (i:=15) rfl (fun K hK=>?_)
   focus (
   go_simp
   refine hK.out _ _ (HC.out _ (GU.alloc _)) (fun hHeld=>?_)
   clear hK K
   try simp only [pU0]
   obtain ⟨z,hz⟩:=ex0 (y.alloc (.cells #[.int .i64 0,.slice none 0 0] 104))
   have gg:=bz0 hz
   have XB:BxA z y.heap.size 104 #[.int .i64 0,.slice none 0 0]:=by rw [hz];exact BxA.new _ _ _
   have LB:W2.heap.size≤y.heap.size:=GU.size
   replace GU:=Good.up GU gg
   replace OA:=own_up OA gg
   rw [← hz]
   clear hz gg hHeld
   generalize y.heap.size=bG at *
   refine lstH (l':=#[true,true,true,true,true,true,true,true,true,true,true,true,true,true,true,true,false,false]) (by kernel_rfl) ?_
   have F:=And.intro GU (And.intro XB (And.intro LB OA))
   clear GU XB LB OA
   revert F
   revert rc
   revert rm
   revert ra
   revert bG
   revert z
   exact t11_15_.out
   )
   )
   focus (
   intro y bG F
   obtain ⟨GU,XB,LB⟩:=F
   have hHeld:=HC.out _ GU
   clear hHeld
   refine wr0 (i:=11) rfl (fun K hK=>?_)
   focus (
   rw [if_pos]
   rotate_left
   ·kernel_rfl
   have HCall:=hideIt (HCh.out _ GU)
   go_wp2_with (go_at_call 136;refine HCall.out.mono ?_;rintro e z ⟨ra,rm,rc,rfl,ho,gg⟩;refine Hid.out ?_)
   refine hidp ?_
   refine hK.out _ _ (HC.out _ (Good.up GU gg)) (fun hHeld=>?_)
   clear hK K HCall
   try simp only [pU0]
   have OA:=own_mono ho GU.size
   clear ho
   replace GU:=Good.up GU gg
   replace XB:=XB.up gg
   clear gg
   replace hHeld:=HC.out _ GU
   refine tq0 (i:=12) (v:=?_) rfl ?_ (by assumption) ?_
   rotate_left
   ·intro w hSw;(try dsimp only at hSw);go_simp;try with_reducible rfl
   try simp only [Act.put,pU0]
   refine tq0 (i:=13) (v:=?_) rfl ?_ (by assumption) ?_
   rotate_left
   ·intro w hSw;(try dsimp only at hSw);go_simp;try with_reducible rfl
   try simp only [Act.put,pU0]
   refine tq0 (i:=14) (v:=?_) rfl ?_ (by assumption) ?_
   rotate_left
   ·intro w hSw;(try dsimp only at hSw);go_simp;try with_reducible rfl
   try simp only [Act.put,pU0]
   clear hHeld
   refine lstH (l':=#[true,true,true,true,true,true,true,true,true,true,true,true,true,true,true,true,false,false]) (by kernel_rfl) ?_
   have F:=And.intro GU (And.intro XB (And.intro LB OA))
   clear GU XB LB OA
   revert F
   revert rc
   revert rm
   revert ra
   revert bG
   revert z
   exact t11_15_.out
   )
   )
   focus (
   intro y bG ra rm rc F
   obtain ⟨GU,XB,LB,OA⟩:=F
   have hHeld:=HC.out _ GU
   refine wr0 (i:=16) rfl (fun K hK=>?_)
   have q0:=XB.cell 0 rfl
   have q1:=XB.cell 1 rfl
   have f0:=XB.frozen 0
   have f1:=XB.frozen 1
   have lB:=XB.lt
   go_simp
   obtain ⟨x,hx⟩:=ex0 ((y.setCell ⟨bG,0,none⟩ (.int .i64 N1)).setCell ⟨bG,1,none⟩ (.slice ra rm rc))
   have GX:Good W2 x:=by rw [hx];exact Below.setCell (Below.setCell GU (p:=⟨bG,0,none⟩) LB _) (p:=⟨bG,1,none⟩) LB _
   have XX:BxA x bG 104 #[.int .i64 N1,.slice ra rm rc]:=by rw [hx];exact (XB.set 0 (.int .i64 N1)).set 1 (.slice ra rm rc)
   have OX:x.ownsRow W2.heap.size 107 2 (.slice ra rm rc) rm (O.ecells cs):=by
    rw [hx]
    have ne:(Value.slice ra rm rc).ownBlock≠some bG:=fun e=>by
     rcases OA.2 with ⟨hv,_⟩ | ⟨g,cap,cur,hv,_,hc,_⟩
     ·rw [hv] at e;simp [Value.ownBlock] at e
     ·rw [hv] at e;simp [Value.ownBlock] at e;subst e;unfold BxA at XB;rw [hc] at XB;simp at XB
    exact World.ownsRow.kept (World.ownsRow.kept OA (grownSet _ _ _ _) (.inr ne)) (grownSet _ _ _ _) (.inr ne)
   refine hK.out _ _ (by rw [← hx];exact HC.out _ GX) (fun hHeld=>?_)
   clear hK K
   try simp only [pU0]
   rw [← hx] at hHeld ⊢
   clear hx q0 q1 f0 f1 lB XB OA GU
   refine tq0 (i:=17) (v:=?_) rfl ?_ (by assumption) ?_
   rotate_left
   ·intro w hSw;go_simp;try with_reducible rfl
   try simp only [Act.put,pU0]
   refine wpAnyH_done (by kernel_rfl) ?_ _
   clear hHeld
   have z1:=XX.cell 1 rfl
   have lX:=XX.lt
   have HF:=hideIt (HAft.out x ra rm rc GX OX)
   have fx2:=(HF.out.1.1.bx).frozen 2
   have cx2:x.cell? ⟨G,2,none⟩=some (.slice p.c.a p.c.n p.c.c):=HF.out.1.1.bx.cell 2 rfl
   have lGx:=HF.out.1.1.bx.lt
   obtain ⟨a0,a1,a2,a3⟩:=HF.out.1.2
   cases ok with
   | true =>
    have HT:=HF.out.2.1 rfl
    have HT2:=hideIt HT
    clear XX OX GX HT HF
    go_upto_region 8 with fail
    obtain ⟨x2,hx2⟩:=ex0 (x.setCell ⟨G,2,none⟩ (.slice ra rm rc))
    rw [← hx2] at HT2 ⊢
    obtain ⟨HC8,b0,b1,b2,b3⟩:=HT2.out
    have HC8:=hideIt HC8
    clear hx2 HT2 fx2 cx2 a0 a1 a2 a3 z1
    go_wp2_with (go_at_call 118;refine HC8.out.mono ?_;rintro e v ⟨rfl,hk,hb⟩)
    go_ret
    first | exact HFi2.out _ _ ⟨rfl,hk,hb⟩ | exact HFin.out _ _ ⟨rfl,hk,hb⟩
   | false =>
    have HC8:=hideIt (HF.out.2.2 rfl)
    clear XX OX GX HF fx2 cx2 z1
    go_upto_region 8 with fail
    go_wp2_with (go_at_call 118;refine HC8.out.mono ?_;rintro e v ⟨rfl,hk,hb⟩)
    go_ret
    first | exact HFi2.out _ _ ⟨rfl,hk,hb⟩ | exact HFin.out _ _ ⟨rfl,hk,hb⟩
   )
  )
theorem HX.cutted {lo G:Nat} {x:World} {h:Hd} {p:Hp} {R:List Rw} {cs:List O.EdgeV} {ra:Option Addr} {rm rc:Nat} (k:HX lo x G h p R) (ox:x.ownsRow lo 107 2 (.slice ra rm rc) rm (O.ecells cs)) (hs:∀ b,(Value.slice ra rm rc).ownBlock=some b→p.e.v.ownBlock≠some b) :
  HX lo (x.setCell ⟨G,2,none⟩ (.slice ra rm rc)) G (withCuts h cs) ⟨p.o,⟨ra,rm,rc⟩,p.l,p.n,p.e,p.s⟩ R:=by
 have gs:=grownSet x G 2 (.slice ra rm rc)
 exact ⟨k.bx.set 2 (.slice ra rm rc),k.ge,⟨own_keepG k.hw.ow.o k.bx (by decide) gs,own_keepG ox k.bx (by decide) gs,FB.keepG k.hw.ow.l k.bx gs,k.hw.ow.r,own_keepG k.hw.ow.n k.bx (by decide) gs,own_keepG k.hw.ow.e k.bx (by decide) gs,own_keepG k.hw.ow.s k.bx (by decide) gs⟩,⟨k.hw.sp.on,k.hw.sp.orr,k.hw.sp.nr⟩,hs⟩
set_option maxRecDepth 100000 in
set_option maxHeartbeats 16000000 in
theorem sChgA {lo G S:Nat} {h:Hd} {p:Hp} {R:List Rw} (i a b:Int) (u:World) (k:HX lo u G h p R) (hi:HInv S h) (hl:lo≤u.heap.size) (ha:0≤a∧a<h.N) (hb0:0≤b∧b<h.N) (hab:a≠b) :
  Calls Tryz.prog 53 #[.pointer (some ⟨G,0,none⟩),.agg #[.int .i64 i,.int .i64 1,.int .i64 a,.int .i64 b]] u fun e v=>MvA lo u G (chgH h i 1 a b) (chgC h a b) e v:=by
 have hin:=edgeA_in ha hb0
 have hee:=edgeA_ok hi.n ha hb0 hab
 obtain ⟨ex,ey,hE⟩:∃ ex ey,edgeA a b=(ex,ey):=⟨_,_,rfl⟩
 have hEd:edA a b=(ex,ey):=hE
 rw [hE] at hin hee
 dsimp only at hin
 have o1:=hi.ownAt hin.1.1 hin.1.2
 have o2:=hi.ownAt hin.2.1 hin.2.2
 have hln:=hi.lens k.hw.ow.inn
 have hnum:∀ y ∈ h.nums,0≤y∧y≤1000:=fun y hy=>by
  have h1:=hi.num.2 y hy
  have:=hi.sd.1
  split at h1 <;> omega
 obtain ⟨i1,rfl⟩:∃ v:Nat,ex=(v:Int):=⟨ex.toNat,by omega⟩
 obtain ⟨i2,rfl⟩:∃ v:Nat,ey=(v:Int):=⟨ey.toNat,by omega⟩
 rw [Int.toNat_natCast] at o1 o2
 have hCG:chgH h i 1 a b=(if O.atI h.own (i1:Int)=O.atI h.own (i2:Int) then ordH h i 1 a b (O.atI h.own (i1:Int)) 1 [((i1:Int),(i2:Int))] 0 else cutH h i 1 a b (O.addE h.N h.cuts ((i1:Int),(i2:Int)))):=by unfold chgH;rw [hE];rfl
 have hCC:chgC h a b=(if O.atI h.own (i1:Int)=O.atI h.own (i2:Int) then 2 else 1):=by unfold chgC;rw [hE]
 rw [hCG,hCC]
 obtain ⟨x1,hx1⟩:∃ x,x=O.atI h.own (i1:Int):=⟨_,rfl⟩
 obtain ⟨x2,hx2⟩:∃ x,x=O.atI h.own (i2:Int):=⟨_,rfl⟩
 rw [← hx1,← hx2]
 rw [← hx1] at o1
 rw [← hx2] at o2
 have hs:=hi.s
 have hns:=hi.num.1
 obtain ⟨s,rfl⟩:∃ s:Nat,x1=(s:Int)+1:=⟨(x1 - 1).toNat,by omega⟩
 obtain ⟨T1,hT1⟩:∃ T,T=(if (s:Int)+1=x2 then ordH h i 1 a b ((s:Int)+1) 1 [((i1:Int),(i2:Int))] 0 else cutH h i 1 a b (O.addE h.N h.cuts ((i1:Int),(i2:Int)))):=⟨_,rfl⟩
 obtain ⟨T2,hT2⟩:∃ T:Int,T=(if (s:Int)+1=x2 then 2 else 1):=⟨_,rfl⟩
 rw [← hT1,← hT2]
 have HT:=hideIt (And.intro hT1 hT2)
 clear hT1 hT2
 have hs3:s≤2:=by omega
 have hsN:s<h.nums.length:=by omega
 have hn:p.s.n≤1000:=by omega
 obtain ⟨W,hW⟩:=ex0 (u.alloc (.cells #[.int .i64 i,.int .i64 1,.int .i64 a,.int .i64 b] 28))
 have bW:Below u.heap.size u W:=by rw [hW];exact belA _ _
 have XA:BxA W u.heap.size 28 #[.int .i64 i,.int .i64 1,.int .i64 a,.int .i64 b]:=by rw [hW];exact BxA.new _ _ _
 have HE1:=hideIt (l12Edge_any i 1 a b W)
 rw [hEd] at HE1
 have HK:=hideIt (k.up bW)
 have HXA:=hideIt XA
 have HB:=hideIt (bW.mono hl)
 have HL:Hid (lo≤W.heap.size):=Nat.le_trans hl bW.size
 have HO1:=hideIt o1
 have HO2:=hideIt o2
 have HNm:=hideIt hnum
 have Hln:=hideIt hln
 have HGb:=hideIt (And.intro hi.gB hee)
 have w0:=XA.cell 0 rfl
 have w1:=XA.cell 1 rfl
 have w2:=XA.cell 2 rfl
 have w3:=XA.cell 3 rfl
 clear k hi hin hee hE hEd hCG hCC hx1 hx2 o1 o2 hln hnum bW XA hs hns ha hb0 hab hl
 go_enter Tryz.func53,Tryz.ntmps53
 go_upto_region 1 with fail
 rw [← hW]
 clear hW
 go_wp2_with (go_at_call 77;refine HE1.out.mono ?_;rintro e v1 ⟨rfl,c1⟩;refine Hid.out ?_)
 refine hidp20 ?_
 obtain ⟨V,hV⟩:=ex0 (v1.alloc (.cells #[.int .i64 (i1:Int),.int .i64 (i2:Int)] 107))
 obtain ⟨B,hBq⟩:=ex0 (v1.heap.size)
 have bV:Below W.heap.size W V:=by rw [hV];exact c1.alloc c1.size _
 have XE:BxA V B 107 #[.int .i64 (i1:Int),.int .i64 (i2:Int)]:=by rw [hV,hBq];exact BxA.new _ _ _
 have lB0:Hid (W.heap.size≤B):=by show _≤_;rw [hBq];exact c1.size
 have HKV:=hideIt (HK.out.up bV)
 have HXE:=hideIt XE
 have HXV:=hideIt (HXA.out.up bV)
 have HBV:Hid (Below lo u V):=HB.out.trans (bV.mono HL.out)
 have HLV:Hid (lo≤V.heap.size):=Nat.le_trans HL.out bV.size
 have HLu:Hid (u.heap.size<W.heap.size):=HXA.out.lt
 clear w0 w1 w2 w3 HE1 c1
 go_upto_region 2 with fail
 rw [← hV,← hBq]
 clear hV hBq bV XE
 obtain ⟨bo,oo,ea,hbo,hco⟩:∃ bo oo,p.o.a=some ⟨bo,oo,none⟩∧bo<V.heap.size∧(V.cell? ⟨bo,oo+i1,none⟩=some (.int .i64 ((s:Int)+1))∧V.cell? ⟨bo,oo+i2,none⟩=some (.int .i64 x2)):=by
  rcases (Is_own HKV.out.hw.ow.o).2 with h0 | ⟨bo,oo,e,hb,hc⟩
  ·have:=(List.getElem?_eq_some_iff.1 HO1.out.2).1;have:=Hln.out.2.2.2.2.2.2.1;omega
  ·exact ⟨bo,oo,e,hb,hc _ _ HO1.out.2,hc _ _ HO2.out.2⟩
 have hboG:bo≠G:=fun e=>own_neB HKV.out.hw.ow.o HKV.out.bx (by decide) (by rw [show p.o.v=.slice p.o.a p.o.n p.o.c from rfl,ea,e];rfl)
 have g1:V.cell? ⟨G,1,none⟩=some (.slice p.o.a p.o.n p.o.c):=HKV.out.bx.cell 1 rfl
 rw [ea] at g1
 have w1:=HXV.out.cell 1 rfl
 have e0:=HXE.out.cell 0 rfl
 have e1:=HXE.out.cell 1 rfl
 have q1:(0:Int)≤(i1:Int):=by omega
 have q2:(i1:Int)<(p.o.n:Int):=by have:=(List.getElem?_eq_some_iff.1 HO1.out.2).1;have:=Hln.out.2.2.2.2.2.2.1;omega
 have q3:(0:Int)≤(i2:Int):=by omega
 have q4:(i2:Int)<(p.o.n:Int):=by have:=(List.getElem?_eq_some_iff.1 HO2.out.2).1;have:=Hln.out.2.2.2.2.2.2.1;omega
 obtain ⟨hc1,hc2⟩:=hco
 clear ea
 have HS5:Hid (V.cell? ⟨G,1,none⟩=some (.slice (some ⟨bo,oo,none⟩) p.o.n p.o.c)∧(V.cell? ⟨B,0,none⟩=some (.int .i64 (i1:Int))∧V.cell? ⟨B,1,none⟩=some (.int .i64 (i2:Int)))∧V.cell? ⟨bo,oo+i1,none⟩=some (.int .i64 ((s:Int)+1))∧V.cell? ⟨bo,oo+i2,none⟩=some (.int .i64 x2)):=⟨g1,⟨e0,e1⟩,hc1,hc2⟩
 have HBw:Hid (B<V.heap.size):=HXE.out.lt
 have HBG:Hid (B≠G∧u.heap.size≠G):=by have h1:=HK.out.bx;have h2:=HKV.out.bx;exact ⟨fun e=>by have h3:=HXE.out;unfold BxA at h2 h3;rw [e,h2] at h3;simp at h3,fun e=>by have h3:=HXV.out;unfold BxA at h2 h3;rw [e,h2] at h3;simp at h3⟩
 by_cases hxx:(s:Int)+1=x2
 ·have HFin:Hid (∀ e v,MvA lo u G (ordH h i 1 a b ((s:Int)+1) 1 [((i1:Int),(i2:Int))] 0) 2 e v→MvA lo u G T1 T2 e v):=fun e v hm=>by rw [HT.out.1,HT.out.2,if_pos hxx,if_pos hxx];exact hm
  subst hxx
  have ee:((s:Int)+1 == (s:Int)+1)=true:=by simp
  go_upto_region 5 with fail
  go_region_held3 (fun v=>v.cell? ⟨G,1,none⟩=some (.slice (some ⟨bo,oo,none⟩) p.o.n p.o.c)∧(v.cell? ⟨B,0,none⟩=some (.int .i64 (i1:Int))∧v.cell? ⟨B,1,none⟩=some (.int .i64 (i2:Int)))∧v.cell? ⟨bo,oo+i1,none⟩=some (.int .i64 ((s:Int)+1))∧v.cell? ⟨bo,oo+i2,none⟩=some (.int .i64 ((s:Int)+1))) (exact HS5.out) (fail)
  have w1d:V.drew.cell? ⟨u.heap.size,1,none⟩=some (.int .i64 1):=w1
  obtain ⟨W2,hW2⟩:=ex0 (V.drew)
  have b2:Below V.heap.size V W2:=by rw [hW2];exact (Below.refl _ _).drew
  have HK2:=hideIt (HKV.out.up b2)
  have HX2:=hideIt (HXE.out.up b2)
  have HA2:=hideIt (HXV.out.up b2)
  have HB2:Hid (Below lo u W2):=HBV.out.trans (b2.mono HLV.out)
  have HL2:Hid (lo≤W2.heap.size):=Nat.le_trans HLV.out b2.size
  have lBw:B<W2.heap.size:=HX2.out.lt
  have lbo:bo<W2.heap.size:=Nat.lt_of_lt_of_le hbo b2.size
  have HS6:Hid (∀ v:World,(∀ b,b<W2.heap.size→b≠G→v.heap[b]?=W2.heap[b]?)→v.cell? ⟨G,1,none⟩=some (.slice (some ⟨bo,oo,none⟩) p.o.n p.o.c)→v.cell? ⟨G,1,none⟩=some (.slice (some ⟨bo,oo,none⟩) p.o.n p.o.c)∧((v.cell? ⟨B,0,none⟩=some (.int .i64 (i1:Int))∧v.cell? ⟨B,1,none⟩=some (.int .i64 (i2:Int)))∧v.cell? ⟨bo,oo+i1,none⟩=some (.int .i64 ((s:Int)+1)))∧v.cell? ⟨u.heap.size,0,none⟩=some (.int .i64 i)∧v.cell? ⟨u.heap.size,1,none⟩=some (.int .i64 1)∧v.cell? ⟨u.heap.size,2,none⟩=some (.int .i64 a)∧v.cell? ⟨u.heap.size,3,none⟩=some (.int .i64 b)):=fun v hv hg=>by
   have hA:BxA v u.heap.size 28 #[.int .i64 i,.int .i64 1,.int .i64 a,.int .i64 b]:=by unfold BxA;rw [hv _ HA2.out.lt HBG.out.2];exact HA2.out
   have hE:BxA v B 107 #[.int .i64 (i1:Int),.int .i64 (i2:Int)]:=by unfold BxA;rw [hv _ HX2.out.lt HBG.out.1];exact HX2.out
   have h1:W2.cell? ⟨bo,oo+i1,none⟩=some (.int .i64 ((s:Int)+1)):=by rw [hW2];exact hc1
   refine ⟨hg,⟨⟨hE.cell 0 rfl,hE.cell 1 rfl⟩,?_⟩,hA.cell 0 rfl,hA.cell 1 rfl,hA.cell 2 rfl,hA.cell 3 rfl⟩
   rw [World.cell?_of_block (hv bo lbo hboG)]
   exact h1
  have c0:Below W2.heap.size W2 W2:=Below.refl _ _
  have HS6b:Hid (∀ v:World,Below W2.heap.size W2 v→v.cell? ⟨G,1,none⟩=some (.slice (some ⟨bo,oo,none⟩) p.o.n p.o.c)∧((v.cell? ⟨B,0,none⟩=some (.int .i64 (i1:Int))∧v.cell? ⟨B,1,none⟩=some (.int .i64 (i2:Int)))∧v.cell? ⟨bo,oo+i1,none⟩=some (.int .i64 ((s:Int)+1)))∧v.cell? ⟨u.heap.size,0,none⟩=some (.int .i64 i)∧v.cell? ⟨u.heap.size,1,none⟩=some (.int .i64 1)∧v.cell? ⟨u.heap.size,2,none⟩=some (.int .i64 a)∧v.cell? ⟨u.heap.size,3,none⟩=some (.int .i64 b)):=fun v hv=>HS6.out v (fun b hb _=>hv.block b hb) (by
   have:=(HK2.out.up hv).bx.cell 1 rfl
   rw [this,← HS5.out.1]
   exact (HKV.out.bx.cell 1 rfl).symm)
  have HOr:Hid (∀ x:World,Below W2.heap.size W2 x→∀ g,W2.heap.size≤g→x.ownsRow W2.heap.size 107 2 (.slice (some ⟨g,0,none⟩) 1 1) 1 (O.ecells [((i1:Int),(i2:Int))])→Calls Tryz.prog 52 #[.pointer (some ⟨G,0,none⟩),.agg #[.int .i64 i,.int .i64 1,.int .i64 a,.int .i64 b],.int .i64 ((s:Int)+1),.agg #[.int .i64 0,.int .i64 1,.slice (some ⟨g,0,none⟩) 1 1,.int .i64 0]] x fun e v=>e=.returned (.int .i64 2)∧((∃ p R,HX lo v G (ordH h i 1 a b ((s:Int)+1) 1 [((i1:Int),(i2:Int))] 0) p R)∧Below lo u v)∧v.cell? ⟨G,1,none⟩=some (.slice (some ⟨bo,oo,none⟩) p.o.n p.o.c)∧((v.cell? ⟨B,0,none⟩=some (.int .i64 (i1:Int))∧v.cell? ⟨B,1,none⟩=some (.int .i64 (i2:Int)))∧v.cell? ⟨bo,oo+i1,none⟩=some (.int .i64 ((s:Int)+1)))∧v.cell? ⟨u.heap.size,0,none⟩=some (.int .i64 i)∧v.cell? ⟨u.heap.size,1,none⟩=some (.int .i64 1)∧v.cell? ⟨u.heap.size,2,none⟩=some (.int .i64 a)∧v.cell? ⟨u.heap.size,3,none⟩=some (.int .i64 b)):=fun x bx g hg ow =>
   (sTask_any i 1 a b s 0 1 0 [((i1:Int),(i2:Int))] (some ⟨g,0,none⟩) 1 1 _ (HK2.out.up bx) (Nat.le_trans HL2.out bx.size) hsN hs3 HNm.out (own_mono ow HL2.out) (fun b h1 h2=>by have:=(HK2.out.hw.ow.c.lt b h1).2;simp [Value.ownBlock] at h2;omega)).mono fun e v ⟨h1,h2,h3,h4⟩=>⟨h1,⟨⟨_,_,h2⟩,HB2.out.trans ((bx.mono HL2.out).trans h3)⟩,HS6.out v (fun b hb hG=>(h4 b (Nat.lt_of_lt_of_le hb bx.size) hG).trans (bx.block b hb)) (by
    have:=h2.bx.cell 1 rfl
    rw [this,← HS5.out.1]
    exact (HKV.out.bx.cell 1 rfl).symm)⟩
  have HOw:Hid (∀ x,Below W2.heap.size W2 x→(x.alloc (.cells #[.int .i64 (i1:Int),.int .i64 (i2:Int)] 107)).ownsRow W2.heap.size 107 2 (.slice (some ⟨x.heap.size,0,none⟩) 1 1) 1 (O.ecells [((i1:Int),(i2:Int))])):=fun x bx=>own_mono (World.ownsRow_lit (base:=x.heap.size) (e:=107) (size:=2) x #[.int .i64 (i1:Int),.int .i64 (i2:Int)] 1 (Nat.le_refl _) (by unfold maxLen;omega) (by simp)) bx.size
  rw [← hW2] at w1d ⊢
  clear hW2 b2 g1 e0 e1 hc1 hc2 HKV HXE HXV HBV HLV HK HXA w1 HS5
  go_upto_region 6 with fail
  go_region_held3 (fun v=>v.cell? ⟨G,1,none⟩=some (.slice (some ⟨bo,oo,none⟩) p.o.n p.o.c)∧((v.cell? ⟨B,0,none⟩=some (.int .i64 (i1:Int))∧v.cell? ⟨B,1,none⟩=some (.int .i64 (i2:Int)))∧v.cell? ⟨bo,oo+i1,none⟩=some (.int .i64 ((s:Int)+1)))∧v.cell? ⟨u.heap.size,0,none⟩=some (.int .i64 i)∧v.cell? ⟨u.heap.size,1,none⟩=some (.int .i64 1)∧v.cell? ⟨u.heap.size,2,none⟩=some (.int .i64 a)∧v.cell? ⟨u.heap.size,3,none⟩=some (.int .i64 b))
   (first | assumption | exact HS6b.out _ c0.drew | exact HS6b.out _ (c0.drew.alloc (by simp) _))
   ((go_at_call 52;refine (HOr.out _ (c0.drew.alloc (by simp) _) _ (Nat.le_refl _) (HOw.out _ c0.drew)).mono ?_;rintro e v ⟨rfl,⟨hk,hb⟩,hSv⟩))
  go_wp2
  go_ret
  exact HFin.out _ _ ⟨rfl,hk,hb⟩
 ·have ee:((s:Int)+1 == x2)=false:=by simpa using hxx
  have ed:decide ((s:Int)+1=x2)=false:=by simpa using hxx
  go_upto_region 5 with fail
  go_region_held3 (fun v=>v.cell? ⟨G,1,none⟩=some (.slice (some ⟨bo,oo,none⟩) p.o.n p.o.c)∧(v.cell? ⟨B,0,none⟩=some (.int .i64 (i1:Int))∧v.cell? ⟨B,1,none⟩=some (.int .i64 (i2:Int)))∧v.cell? ⟨bo,oo+i1,none⟩=some (.int .i64 ((s:Int)+1))∧v.cell? ⟨bo,oo+i2,none⟩=some (.int .i64 x2)) (exact HS5.out) (fail)
  obtain ⟨W2,hW2⟩:=ex0 (V.drew)
  have b2:Below V.heap.size V W2:=by rw [hW2];exact (Below.refl _ _).drew
  have HK2:=hideIt (HKV.out.up b2)
  have HX2:=hideIt (HXE.out.up b2)
  have HA2:=hideIt (HXV.out.up b2)
  have HB2:Hid (Below lo u W2):=HBV.out.trans (b2.mono HLV.out)
  have HL2:Hid (lo≤W2.heap.size):=Nat.le_trans HLV.out b2.size
  have lBw:B<W2.heap.size:=HX2.out.lt
  rw [← hW2]
  clear hW2 b2 g1 e0 e1 hc1 hc2 HKV HXE HXV HBV HLV HK HXA w1 HS5
  have HS7:Hid (∀ v:World,Below W2.heap.size W2 v→v.cell? ⟨G,2,none⟩=some (.slice p.c.a p.c.n p.c.c)∧(v.cell? ⟨B,0,none⟩=some (.int .i64 (i1:Int))∧v.cell? ⟨B,1,none⟩=some (.int .i64 (i2:Int)))∧Below W2.heap.size W2 v):=fun v hv=>⟨(HK2.out.up hv).bx.cell 2 rfl,⟨(HX2.out.up hv).cell 0 rfl,(HX2.out.up hv).cell 1 rfl⟩,hv⟩
  have c0:Below W2.heap.size W2 W2:=Below.refl _ _
  have HHas:Hid (∀ x,Below W2.heap.size W2 x→Calls Tryz.prog 78 #[.slice p.c.a p.c.n p.c.c,.agg #[.int .i64 (i1:Int),.int .i64 (i2:Int)]] x fun e v=>e=.returned (.bool (O.hasB h.cuts ((i1:Int),(i2:Int))))∧Below W2.heap.size W2 v):=fun x bx =>
   (O.l05Has_any h.cuts ((i1:Int),(i2:Int)) p.c.n p.c.a p.c.c (by have:=Hln.out.2.1;omega) x (HK2.out.up bx).hw.ow.inn.c).mono fun e v ⟨h1,h2⟩=>⟨h1,bx.trans (h2.mono bx.size)⟩
  cases hhas:O.hasB h.cuts ((i1:Int),(i2:Int)) with
  | true =>
   have HFin:Hid (∀ e v,MvA lo u G (sayH h i 1 a b 2) 1 e v→MvA lo u G T1 T2 e v):=fun e v hm=>by
    rw [HT.out.1,HT.out.2,if_neg hxx,if_neg hxx,show O.addE h.N h.cuts ((i1:Int),(i2:Int))=none by unfold O.addE;rw [hhas];simp]
    exact hm
   rw [hhas] at HHas
   clear hhas hxx HGb
   go_upto_region 7 with fail
   go_region_held3 (fun v=>v.cell? ⟨G,2,none⟩=some (.slice p.c.a p.c.n p.c.c)∧(v.cell? ⟨B,0,none⟩=some (.int .i64 (i1:Int))∧v.cell? ⟨B,1,none⟩=some (.int .i64 (i2:Int)))∧Below W2.heap.size W2 v)
    (exact HS7.out _ (by first | assumption | exact c0.drew))
    ((go_at_call 78;refine (HHas.out _ c0.drew).mono ?_;rintro e W3 ⟨rfl,b3⟩))
   have HA3:=hideIt (HA2.out.up b3)
   have a0:=HA3.out.cell 0 rfl
   have a1:=HA3.out.cell 1 rfl
   have a2:=HA3.out.cell 2 rfl
   have a3:=HA3.out.cell 3 rfl
   have HSy:=hideIt (sSay_any i 1 a b 2 W3 (HK2.out.up b3) (Nat.le_trans HL2.out b3.size) hn)
   have HB3:=hideIt (HB2.out.trans (b3.mono HL2.out))
   clear b3 HS7 HHas HK2 HX2 HA2 c0
   go_upto_region 9 with fail
   go_wp2_with (go_at_call 50;refine HSy.out.mono ?_;rintro e v ⟨rfl,⟨g,c,hk⟩,hb⟩;refine Hid.out ?_)
   refine hidp20 ?_
   have HE:=hideIt (HB3.out.trans hb)
   clear hb a0 a1 a2 a3 HA3
   go_wp2
   go_ret
   first | exact HFin.out _ _ ⟨rfl,⟨_,_,hk⟩,HE.out⟩
  | false =>
   have HFin:Hid (∀ e v,MvA lo u G (sayH (withCuts h (O.putE h.cuts ((i1:Int),(i2:Int)))) i 1 a b 1) 1 e v→MvA lo u G T1 T2 e v):=fun e v hm=>by
    rw [HT.out.1,HT.out.2,if_neg hxx,if_neg hxx,show O.addE h.N h.cuts ((i1:Int),(i2:Int))=some (O.putE h.cuts ((i1:Int),(i2:Int))) by unfold O.addE;rw [hhas,HGb.out.1,HGb.out.2];simp]
    exact hm
   rw [hhas] at HHas
   clear hhas hxx HGb
   go_upto_region 7 with fail
   go_region_held3 (fun v=>v.cell? ⟨G,2,none⟩=some (.slice p.c.a p.c.n p.c.c)∧(v.cell? ⟨B,0,none⟩=some (.int .i64 (i1:Int))∧v.cell? ⟨B,1,none⟩=some (.int .i64 (i2:Int)))∧Below W2.heap.size W2 v)
    (exact HS7.out _ (by first | assumption | exact c0.drew))
    ((go_at_call 78;refine (HHas.out _ c0.drew).mono ?_;rintro e W3 ⟨rfl,b3⟩))
   have HA3:=hideIt (HA2.out.up b3)
   have HKX:=hideIt (HK2.out.up b3)
   have HB3:Hid (Below lo u W3):=HB2.out.trans (b3.mono HL2.out)
   have HL3:Hid (lo≤W3.heap.size):=Nat.le_trans HL2.out b3.size
   have a1:=HA3.out.cell 1 rfl
   have c2:W3.cell? ⟨G,2,none⟩=some (.slice p.c.a p.c.n p.c.c):=HKX.out.bx.cell 2 rfl
   have b0:=(HX2.out.up b3).cell 0 rfl
   have b1:=(HX2.out.up b3).cell 1 rfl
   have lBw:B<W3.heap.size:=Nat.lt_of_lt_of_le lBw b3.size
   have HPu:Hid (∀ x,Below W3.heap.size W3 x→Calls Tryz.prog 80 #[.slice p.c.a p.c.n p.c.c,.agg #[.int .i64 (i1:Int),.int .i64 (i2:Int)]] x fun e v=>∃ ra rm rc,e=.returned (.slice ra rm rc)∧v.ownsRow x.heap.size 107 2 (.slice ra rm rc) rm (O.ecells (O.putE h.cuts ((i1:Int),(i2:Int))))∧Below x.heap.size x v):=fun x bx =>
    O.l05Put_any h.cuts ((i1:Int),(i2:Int)) p.c.n p.c.a p.c.c (by have:=Hln.out.2.1;omega) x (HKX.out.up bx).hw.ow.inn.c
   have HAft:Hid (∀ (x:World) (ra:Option Addr) (rm rc:Nat),x.ownsRow W3.heap.size 107 2 (.slice ra rm rc) rm (O.ecells (O.putE h.cuts ((i1:Int),(i2:Int))))→Below W3.heap.size W3 x →
     Calls Tryz.prog 50 #[.pointer (some ⟨G,0,none⟩),.agg #[.int .i64 i,.int .i64 1,.int .i64 a,.int .i64 b],.int .i64 1] (x.setCell ⟨G,2,none⟩ (.slice ra rm rc)) (fun e v=>e=.returned (.tuple #[])∧(∃ p R,HX lo v G (sayH (withCuts h (O.putE h.cuts ((i1:Int),(i2:Int)))) i 1 a b 1) p R)∧Below lo u v)∧(x.setCell ⟨G,2,none⟩ (.slice ra rm rc)).cell? ⟨u.heap.size,0,none⟩=some (.int .i64 i)∧(x.setCell ⟨G,2,none⟩ (.slice ra rm rc)).cell? ⟨u.heap.size,1,none⟩=some (.int .i64 1)∧(x.setCell ⟨G,2,none⟩ (.slice ra rm rc)).cell? ⟨u.heap.size,2,none⟩=some (.int .i64 a)∧(x.setCell ⟨G,2,none⟩ (.slice ra rm rc)).cell? ⟨u.heap.size,3,none⟩=some (.int .i64 b)):=fun x ra rm rc ox gx=>by
    have ax:BxA (x.setCell ⟨G,2,none⟩ (.slice ra rm rc)) u.heap.size 28 #[.int .i64 i,.int .i64 1,.int .i64 a,.int .i64 b]:=(HA3.out.up gx).setO _ (by first | exact HBG.out.2 | exact HBG.out.2.symm)
    have hc:=(HKX.out.up gx).cutted (own_mono ox HL3.out) (fun b h1 h2=>by have e1:=(ox.lt b h1).1;have e2:=(HKX.out.hw.ow.e.lt b h2).2;omega)
    exact ⟨(sSay_any i 1 a b 1 _ hc (by simpa [World.setCell] using Nat.le_trans HL3.out gx.size) hn).mono fun e v ⟨h1,⟨g,c,h2⟩,h3⟩=>⟨h1,⟨_,_,h2⟩,(Below.setCell (HB3.out.trans (gx.mono HL3.out)) (p:=⟨G,2,none⟩) HKX.out.ge _).trans h3⟩,ax.cell 0 rfl,ax.cell 1 rfl,ax.cell 2 rfl,ax.cell 3 rfl⟩
   have HAft:=hideIt (fun x ra rm rc (gx:Below W3.heap.size W3 x) ox=>HAft.out x ra rm rc ox gx)
   clear b3 HS7 HHas HK2 HX2 HA2 c0
   go_upto_region 13 with fail
   clear a1
   (
   apply viaT
   intro t4_5_6_
   apply viaT
   intro t4_5_
   apply viaT
   intro t4_
   apply viaT
   intro t5_
   focus (
   refine wp_region_held_drew (S:=fun _=>True) (by kernel_rfl) trivial (fun _=>?_)
   refine tq0 (i:=0) (v:=?_) rfl ?_ trivial ?_
   rotate_left
   ·intro w hSw;(try dsimp only at hSw);go_simp;try with_reducible rfl
   try simp only [Act.put,pU0]
   refine tq0 (i:=1) (v:=?_) rfl ?_ trivial ?_
   rotate_left
   ·intro w hSw;(try dsimp only at hSw);go_simp;try with_reducible rfl
   try simp only [Act.put,pU0]
   refine tq0 (i:=2) (v:=?_) rfl ?_ trivial ?_
   rotate_left
   ·intro w hSw;(try dsimp only at hSw);go_simp;try with_reducible rfl
   try simp only [Act.put,pU0]
   refine tq0 (i:=3) (v:=?_) rfl ?_ trivial ?_
   rotate_left
   ·intro w hSw;(try dsimp only at hSw);go_simp;try with_reducible rfl
   try simp only [Act.put,pU0]
   obtain ⟨y,hy⟩:=ex0 (W3.drew)
   have FC:y.cell? ⟨G,2,none⟩=some (.slice p.c.a p.c.n p.c.c)∧(y.cell? ⟨B,0,none⟩=some (.int .i64 (i1:Int))∧y.cell? ⟨B,1,none⟩=some (.int .i64 (i2:Int)))∧Below W3.heap.size W3 y:=by rw [hy];exact ⟨c2,⟨b0,b1⟩,(Below.refl _ _).drew⟩
   rw [← hy]
   clear hy
   refine wpAnyH_ready (rs:=[4,5]) (by kernel_rfl) (by simp) ?_
   refine AllReadyH.cons rfl (fun K hK=>?_) (AllReadyH.cons rfl (fun K hK=>?_) AllReadyH.nil)
   focus (
   obtain ⟨c2,⟨b0,b1⟩,bb⟩:=FC
   go_simp
   refine hK.out _ _ trivial (fun _=>?_)
   clear hK K
   try simp only [Act.put,pU0]
   have FC:=And.intro c2 (And.intro (And.intro b0 b1) bb)
   clear c2 b0 b1 bb
   refine lstH (l':=#[true,true,true,true,true,false,false,false,false,false]) (by kernel_rfl) ?_
   have F:=FC
   clear FC
   revert F
   revert y
   exact t4_.out
   )
   focus (
   obtain ⟨c2,⟨b0,b1⟩,bb⟩:=FC
   go_simp
   refine hK.out _ _ trivial (fun _=>?_)
   clear hK K
   try simp only [Act.put,pU0]
   have FC:=And.intro c2 (And.intro (And.intro b0 b1) bb)
   clear c2 b0 b1 bb
   refine lstH (l':=#[true,true,true,true,false,true,false,false,false,false]) (by kernel_rfl) ?_
   have F:=FC
   clear FC
   revert F
   revert y
   exact t5_.out
   )
   )
   focus (
   intro y F
   have FC:=F
   clear F
   refine wr0 (i:=4) rfl (fun K hK=>?_)
   focus (
   obtain ⟨c2,⟨b0,b1⟩,bb⟩:=FC
   go_simp
   refine hK.out _ _ trivial (fun _=>?_)
   clear hK K
   try simp only [pU0]
   have FC:=And.intro c2 (And.intro (And.intro b0 b1) bb)
   clear c2 b0 b1 bb
   refine lstH (l':=#[true,true,true,true,true,true,false,false,false,false]) (by kernel_rfl) ?_
   have F:=FC
   clear FC
   revert F
   revert y
   exact t4_5_.out
   )
   )
   focus (
   intro y F
   have FC:=F
   clear F
   refine wr0 (i:=5) rfl (fun K hK=>?_)
   focus (
   obtain ⟨c2,⟨b0,b1⟩,bb⟩:=FC
   go_simp
   refine hK.out _ _ trivial (fun _=>?_)
   clear hK K
   try simp only [pU0]
   have FC:=And.intro c2 (And.intro (And.intro b0 b1) bb)
   clear c2 b0 b1 bb
   refine lstH (l':=#[true,true,true,true,true,true,false,false,false,false]) (by kernel_rfl) ?_
   have F:=FC
   clear FC
   revert F
   revert y
   exact t4_5_.out
   )
   )
   focus (
   intro y F
   have FC:=F
   clear F
   refine wr0 (i:=6) rfl (fun K hK=>?_)
   focus (
   rw [if_pos]
   rotate_left
   ·kernel_rfl
   have HCall:=hideIt (HPu.out _ FC.2.2)
   go_wp2_with (go_at_call 80;refine HCall.out.mono ?_;rintro e z ⟨ra,rm,rc,rfl,oz,bz⟩;refine Hid.out ?_)
   refine hidp20 ?_
   refine hK.out _ _ trivial (fun _=>?_)
   clear hK K HCall
   try simp only [pU0]
   have FD:=And.intro (own_mono oz FC.2.2.size) (FC.2.2.trans (bz.mono FC.2.2.size))
   clear oz bz
   refine tq0 (i:=7) (v:=?_) rfl ?_ trivial ?_
   rotate_left
   ·intro w hSw;(try dsimp only at hSw);go_simp;try with_reducible rfl
   try simp only [Act.put,pU0]
   refine tq0 (i:=8) (v:=?_) rfl ?_ trivial ?_
   rotate_left
   ·intro w hSw;(try dsimp only at hSw);go_simp;try with_reducible rfl
   try simp only [Act.put,pU0]
   refine lstH (l':=#[true,true,true,true,true,true,true,true,true,false]) (by kernel_rfl) ?_
   have F:=FD
   clear FD FC
   revert F
   revert rc
   revert rm
   revert ra
   revert z
   exact t4_5_6_.out
   )
   )
   focus (
   intro y ra rm rc F
   have FD:=F
   clear F
   refine wr0 (i:=9) rfl (fun K hK=>?_)
   have XX:=(HKX.out.up FD.2).bx
   have f2:=XX.frozen 2
   have c2:y.cell? ⟨G,2,none⟩=some (.slice p.c.a p.c.n p.c.c):=XX.cell 2 rfl
   have lGy:=XX.lt
   go_simp
   obtain ⟨x,hx⟩:=ex0 (y.setCell ⟨G,2,none⟩ (.slice ra rm rc))
   refine hK.out _ _ trivial (fun _=>?_)
   clear hK K f2 c2 XX
   try simp only [pU0]
   refine wpAnyH_done (by kernel_rfl) ?_ _
   have HF:=hideIt (HAft.out y ra rm rc FD.2 FD.1)
   rw [← hx] at HF ⊢
   clear hx FD
   obtain ⟨HSy,a0,a1,a2,a3⟩:=HF.out
   have HSy:=hideIt HSy
   clear HF
   go_upto_region 14 with fail
   go_wp2_with (go_at_call 50;refine HSy.out.mono ?_;rintro e v ⟨rfl,hk,hb⟩;refine Hid.out ?_)
   refine hidp20 ?_
   go_wp2
   go_ret
   first | exact HFin.out _ _ ⟨rfl,hk,hb⟩
   )
   )
set_option maxRecDepth 100000 in
set_option maxHeartbeats 16000000 in
theorem sChgT {lo G S:Nat} {h:Hd} {p:Hp} {R:List Rw} (i a b:Int) (u:World) (k:HX lo u G h p R) (hi:HInv S h) (hl:lo≤u.heap.size) (ha:0≤a∧a<h.N) (hb0:0≤b∧b<h.N) (hab:a≠b) :
  Calls Tryz.prog 53 #[.pointer (some ⟨G,0,none⟩),.agg #[.int .i64 i,.int .i64 2,.int .i64 a,.int .i64 b]] u fun e v=>MvA lo u G (chgH h i 2 a b) (chgC h a b) e v:=by
 have hin:=edgeA_in ha hb0
 have hee:=edgeA_ok hi.n ha hb0 hab
 obtain ⟨ex,ey,hE⟩:∃ ex ey,edgeA a b=(ex,ey):=⟨_,_,rfl⟩
 have hEd:edA a b=(ex,ey):=hE
 rw [hE] at hin hee
 dsimp only at hin
 have o1:=hi.ownAt hin.1.1 hin.1.2
 have o2:=hi.ownAt hin.2.1 hin.2.2
 have hln:=hi.lens k.hw.ow.inn
 have hnum:∀ y ∈ h.nums,0≤y∧y≤1000:=fun y hy=>by
  have h1:=hi.num.2 y hy
  have:=hi.sd.1
  split at h1 <;> omega
 obtain ⟨i1,rfl⟩:∃ v:Nat,ex=(v:Int):=⟨ex.toNat,by omega⟩
 obtain ⟨i2,rfl⟩:∃ v:Nat,ey=(v:Int):=⟨ey.toNat,by omega⟩
 rw [Int.toNat_natCast] at o1 o2
 have hCG:chgH h i 2 a b=(if O.atI h.own (i1:Int)=O.atI h.own (i2:Int) then ordH h i 2 a b (O.atI h.own (i1:Int)) 2 [((i1:Int),(i2:Int))] 0 else cutH h i 2 a b (O.takE h.N h.cuts ((i1:Int),(i2:Int)))):=by unfold chgH;rw [hE];rfl
 have hCC:chgC h a b=(if O.atI h.own (i1:Int)=O.atI h.own (i2:Int) then 2 else 1):=by unfold chgC;rw [hE]
 rw [hCG,hCC]
 obtain ⟨x1,hx1⟩:∃ x,x=O.atI h.own (i1:Int):=⟨_,rfl⟩
 obtain ⟨x2,hx2⟩:∃ x,x=O.atI h.own (i2:Int):=⟨_,rfl⟩
 rw [← hx1,← hx2]
 rw [← hx1] at o1
 rw [← hx2] at o2
 have hs:=hi.s
 have hns:=hi.num.1
 obtain ⟨s,rfl⟩:∃ s:Nat,x1=(s:Int)+1:=⟨(x1 - 1).toNat,by omega⟩
 obtain ⟨T1,hT1⟩:∃ T,T=(if (s:Int)+1=x2 then ordH h i 2 a b ((s:Int)+1) 2 [((i1:Int),(i2:Int))] 0 else cutH h i 2 a b (O.takE h.N h.cuts ((i1:Int),(i2:Int)))):=⟨_,rfl⟩
 obtain ⟨T2,hT2⟩:∃ T:Int,T=(if (s:Int)+1=x2 then 2 else 1):=⟨_,rfl⟩
 rw [← hT1,← hT2]
 have HT:=hideIt (And.intro hT1 hT2)
 clear hT1 hT2
 have hs3:s≤2:=by omega
 have hsN:s<h.nums.length:=by omega
 have hn:p.s.n≤1000:=by omega
 obtain ⟨W,hW⟩:=ex0 (u.alloc (.cells #[.int .i64 i,.int .i64 2,.int .i64 a,.int .i64 b] 28))
 have bW:Below u.heap.size u W:=by rw [hW];exact belA _ _
 have XA:BxA W u.heap.size 28 #[.int .i64 i,.int .i64 2,.int .i64 a,.int .i64 b]:=by rw [hW];exact BxA.new _ _ _
 have HE1:=hideIt (l12Edge_any i 2 a b W)
 rw [hEd] at HE1
 have HK:=hideIt (k.up bW)
 have HXA:=hideIt XA
 have HB:=hideIt (bW.mono hl)
 have HL:Hid (lo≤W.heap.size):=Nat.le_trans hl bW.size
 have HO1:=hideIt o1
 have HO2:=hideIt o2
 have HNm:=hideIt hnum
 have Hln:=hideIt hln
 have HGb:=hideIt (And.intro hi.gB hee)
 have w0:=XA.cell 0 rfl
 have w1:=XA.cell 1 rfl
 have w2:=XA.cell 2 rfl
 have w3:=XA.cell 3 rfl
 clear k hi hin hee hE hEd hCG hCC hx1 hx2 o1 o2 hln hnum bW XA hs hns ha hb0 hab hl
 go_enter Tryz.func53,Tryz.ntmps53
 go_upto_region 1 with fail
 rw [← hW]
 clear hW
 go_wp2_with (go_at_call 77;refine HE1.out.mono ?_;rintro e v1 ⟨rfl,c1⟩;refine Hid.out ?_)
 refine hidp20 ?_
 obtain ⟨V,hV⟩:=ex0 (v1.alloc (.cells #[.int .i64 (i1:Int),.int .i64 (i2:Int)] 107))
 obtain ⟨B,hBq⟩:=ex0 (v1.heap.size)
 have bV:Below W.heap.size W V:=by rw [hV];exact c1.alloc c1.size _
 have XE:BxA V B 107 #[.int .i64 (i1:Int),.int .i64 (i2:Int)]:=by rw [hV,hBq];exact BxA.new _ _ _
 have lB0:Hid (W.heap.size≤B):=by show _≤_;rw [hBq];exact c1.size
 have HKV:=hideIt (HK.out.up bV)
 have HXE:=hideIt XE
 have HXV:=hideIt (HXA.out.up bV)
 have HBV:Hid (Below lo u V):=HB.out.trans (bV.mono HL.out)
 have HLV:Hid (lo≤V.heap.size):=Nat.le_trans HL.out bV.size
 have HLu:Hid (u.heap.size<W.heap.size):=HXA.out.lt
 clear w0 w1 w2 w3 HE1 c1
 go_upto_region 2 with fail
 rw [← hV,← hBq]
 clear hV hBq bV XE
 obtain ⟨bo,oo,ea,hbo,hco⟩:∃ bo oo,p.o.a=some ⟨bo,oo,none⟩∧bo<V.heap.size∧(V.cell? ⟨bo,oo+i1,none⟩=some (.int .i64 ((s:Int)+1))∧V.cell? ⟨bo,oo+i2,none⟩=some (.int .i64 x2)):=by
  rcases (Is_own HKV.out.hw.ow.o).2 with h0 | ⟨bo,oo,e,hb,hc⟩
  ·have:=(List.getElem?_eq_some_iff.1 HO1.out.2).1;have:=Hln.out.2.2.2.2.2.2.1;omega
  ·exact ⟨bo,oo,e,hb,hc _ _ HO1.out.2,hc _ _ HO2.out.2⟩
 have hboG:bo≠G:=fun e=>own_neB HKV.out.hw.ow.o HKV.out.bx (by decide) (by rw [show p.o.v=.slice p.o.a p.o.n p.o.c from rfl,ea,e];rfl)
 have g1:V.cell? ⟨G,1,none⟩=some (.slice p.o.a p.o.n p.o.c):=HKV.out.bx.cell 1 rfl
 rw [ea] at g1
 have w1:=HXV.out.cell 1 rfl
 have e0:=HXE.out.cell 0 rfl
 have e1:=HXE.out.cell 1 rfl
 have q1:(0:Int)≤(i1:Int):=by omega
 have q2:(i1:Int)<(p.o.n:Int):=by have:=(List.getElem?_eq_some_iff.1 HO1.out.2).1;have:=Hln.out.2.2.2.2.2.2.1;omega
 have q3:(0:Int)≤(i2:Int):=by omega
 have q4:(i2:Int)<(p.o.n:Int):=by have:=(List.getElem?_eq_some_iff.1 HO2.out.2).1;have:=Hln.out.2.2.2.2.2.2.1;omega
 obtain ⟨hc1,hc2⟩:=hco
 clear ea
 have HS5:Hid (V.cell? ⟨G,1,none⟩=some (.slice (some ⟨bo,oo,none⟩) p.o.n p.o.c)∧(V.cell? ⟨B,0,none⟩=some (.int .i64 (i1:Int))∧V.cell? ⟨B,1,none⟩=some (.int .i64 (i2:Int)))∧V.cell? ⟨bo,oo+i1,none⟩=some (.int .i64 ((s:Int)+1))∧V.cell? ⟨bo,oo+i2,none⟩=some (.int .i64 x2)):=⟨g1,⟨e0,e1⟩,hc1,hc2⟩
 have HBw:Hid (B<V.heap.size):=HXE.out.lt
 have HBG:Hid (B≠G∧u.heap.size≠G):=by have h1:=HK.out.bx;have h2:=HKV.out.bx;exact ⟨fun e=>by have h3:=HXE.out;unfold BxA at h2 h3;rw [e,h2] at h3;simp at h3,fun e=>by have h3:=HXV.out;unfold BxA at h2 h3;rw [e,h2] at h3;simp at h3⟩
 by_cases hxx:(s:Int)+1=x2
 ·have HFin:Hid (∀ e v,MvA lo u G (ordH h i 2 a b ((s:Int)+1) 2 [((i1:Int),(i2:Int))] 0) 2 e v→MvA lo u G T1 T2 e v):=fun e v hm=>by rw [HT.out.1,HT.out.2,if_pos hxx,if_pos hxx];exact hm
  subst hxx
  have ee:((s:Int)+1 == (s:Int)+1)=true:=by simp
  go_upto_region 5 with fail
  go_region_held3 (fun v=>v.cell? ⟨G,1,none⟩=some (.slice (some ⟨bo,oo,none⟩) p.o.n p.o.c)∧(v.cell? ⟨B,0,none⟩=some (.int .i64 (i1:Int))∧v.cell? ⟨B,1,none⟩=some (.int .i64 (i2:Int)))∧v.cell? ⟨bo,oo+i1,none⟩=some (.int .i64 ((s:Int)+1))∧v.cell? ⟨bo,oo+i2,none⟩=some (.int .i64 ((s:Int)+1))) (exact HS5.out) (fail)
  have w1d:V.drew.cell? ⟨u.heap.size,1,none⟩=some (.int .i64 2):=w1
  obtain ⟨W2,hW2⟩:=ex0 (V.drew)
  have b2:Below V.heap.size V W2:=by rw [hW2];exact (Below.refl _ _).drew
  have HK2:=hideIt (HKV.out.up b2)
  have HX2:=hideIt (HXE.out.up b2)
  have HA2:=hideIt (HXV.out.up b2)
  have HB2:Hid (Below lo u W2):=HBV.out.trans (b2.mono HLV.out)
  have HL2:Hid (lo≤W2.heap.size):=Nat.le_trans HLV.out b2.size
  have lBw:B<W2.heap.size:=HX2.out.lt
  have lbo:bo<W2.heap.size:=Nat.lt_of_lt_of_le hbo b2.size
  have HS6:Hid (∀ v:World,(∀ b,b<W2.heap.size→b≠G→v.heap[b]?=W2.heap[b]?)→v.cell? ⟨G,1,none⟩=some (.slice (some ⟨bo,oo,none⟩) p.o.n p.o.c)→v.cell? ⟨G,1,none⟩=some (.slice (some ⟨bo,oo,none⟩) p.o.n p.o.c)∧((v.cell? ⟨B,0,none⟩=some (.int .i64 (i1:Int))∧v.cell? ⟨B,1,none⟩=some (.int .i64 (i2:Int)))∧v.cell? ⟨bo,oo+i1,none⟩=some (.int .i64 ((s:Int)+1)))∧v.cell? ⟨u.heap.size,0,none⟩=some (.int .i64 i)∧v.cell? ⟨u.heap.size,1,none⟩=some (.int .i64 2)∧v.cell? ⟨u.heap.size,2,none⟩=some (.int .i64 a)∧v.cell? ⟨u.heap.size,3,none⟩=some (.int .i64 b)):=fun v hv hg=>by
   have hA:BxA v u.heap.size 28 #[.int .i64 i,.int .i64 2,.int .i64 a,.int .i64 b]:=by unfold BxA;rw [hv _ HA2.out.lt HBG.out.2];exact HA2.out
   have hE:BxA v B 107 #[.int .i64 (i1:Int),.int .i64 (i2:Int)]:=by unfold BxA;rw [hv _ HX2.out.lt HBG.out.1];exact HX2.out
   have h1:W2.cell? ⟨bo,oo+i1,none⟩=some (.int .i64 ((s:Int)+1)):=by rw [hW2];exact hc1
   refine ⟨hg,⟨⟨hE.cell 0 rfl,hE.cell 1 rfl⟩,?_⟩,hA.cell 0 rfl,hA.cell 1 rfl,hA.cell 2 rfl,hA.cell 3 rfl⟩
   rw [World.cell?_of_block (hv bo lbo hboG)]
   exact h1
  have c0:Below W2.heap.size W2 W2:=Below.refl _ _
  have HS6b:Hid (∀ v:World,Below W2.heap.size W2 v→v.cell? ⟨G,1,none⟩=some (.slice (some ⟨bo,oo,none⟩) p.o.n p.o.c)∧((v.cell? ⟨B,0,none⟩=some (.int .i64 (i1:Int))∧v.cell? ⟨B,1,none⟩=some (.int .i64 (i2:Int)))∧v.cell? ⟨bo,oo+i1,none⟩=some (.int .i64 ((s:Int)+1)))∧v.cell? ⟨u.heap.size,0,none⟩=some (.int .i64 i)∧v.cell? ⟨u.heap.size,1,none⟩=some (.int .i64 2)∧v.cell? ⟨u.heap.size,2,none⟩=some (.int .i64 a)∧v.cell? ⟨u.heap.size,3,none⟩=some (.int .i64 b)):=fun v hv=>HS6.out v (fun b hb _=>hv.block b hb) (by
   have:=(HK2.out.up hv).bx.cell 1 rfl
   rw [this,← HS5.out.1]
   exact (HKV.out.bx.cell 1 rfl).symm)
  have HOr:Hid (∀ x:World,Below W2.heap.size W2 x→∀ g,W2.heap.size≤g→x.ownsRow W2.heap.size 107 2 (.slice (some ⟨g,0,none⟩) 1 1) 1 (O.ecells [((i1:Int),(i2:Int))])→Calls Tryz.prog 52 #[.pointer (some ⟨G,0,none⟩),.agg #[.int .i64 i,.int .i64 2,.int .i64 a,.int .i64 b],.int .i64 ((s:Int)+1),.agg #[.int .i64 0,.int .i64 2,.slice (some ⟨g,0,none⟩) 1 1,.int .i64 0]] x fun e v=>e=.returned (.int .i64 2)∧((∃ p R,HX lo v G (ordH h i 2 a b ((s:Int)+1) 2 [((i1:Int),(i2:Int))] 0) p R)∧Below lo u v)∧v.cell? ⟨G,1,none⟩=some (.slice (some ⟨bo,oo,none⟩) p.o.n p.o.c)∧((v.cell? ⟨B,0,none⟩=some (.int .i64 (i1:Int))∧v.cell? ⟨B,1,none⟩=some (.int .i64 (i2:Int)))∧v.cell? ⟨bo,oo+i1,none⟩=some (.int .i64 ((s:Int)+1)))∧v.cell? ⟨u.heap.size,0,none⟩=some (.int .i64 i)∧v.cell? ⟨u.heap.size,1,none⟩=some (.int .i64 2)∧v.cell? ⟨u.heap.size,2,none⟩=some (.int .i64 a)∧v.cell? ⟨u.heap.size,3,none⟩=some (.int .i64 b)):=fun x bx g hg ow =>
   (sTask_any i 2 a b s 0 2 0 [((i1:Int),(i2:Int))] (some ⟨g,0,none⟩) 1 1 _ (HK2.out.up bx) (Nat.le_trans HL2.out bx.size) hsN hs3 HNm.out (own_mono ow HL2.out) (fun b h1 h2=>by have:=(HK2.out.hw.ow.c.lt b h1).2;simp [Value.ownBlock] at h2;omega)).mono fun e v ⟨h1,h2,h3,h4⟩=>⟨h1,⟨⟨_,_,h2⟩,HB2.out.trans ((bx.mono HL2.out).trans h3)⟩,HS6.out v (fun b hb hG=>(h4 b (Nat.lt_of_lt_of_le hb bx.size) hG).trans (bx.block b hb)) (by
    have:=h2.bx.cell 1 rfl
    rw [this,← HS5.out.1]
    exact (HKV.out.bx.cell 1 rfl).symm)⟩
  have HOw:Hid (∀ x,Below W2.heap.size W2 x→(x.alloc (.cells #[.int .i64 (i1:Int),.int .i64 (i2:Int)] 107)).ownsRow W2.heap.size 107 2 (.slice (some ⟨x.heap.size,0,none⟩) 1 1) 1 (O.ecells [((i1:Int),(i2:Int))])):=fun x bx=>own_mono (World.ownsRow_lit (base:=x.heap.size) (e:=107) (size:=2) x #[.int .i64 (i1:Int),.int .i64 (i2:Int)] 1 (Nat.le_refl _) (by unfold maxLen;omega) (by simp)) bx.size
  rw [← hW2] at w1d ⊢
  clear hW2 b2 g1 e0 e1 hc1 hc2 HKV HXE HXV HBV HLV HK HXA w1 HS5
  go_upto_region 6 with fail
  go_region_held3 (fun v=>v.cell? ⟨G,1,none⟩=some (.slice (some ⟨bo,oo,none⟩) p.o.n p.o.c)∧((v.cell? ⟨B,0,none⟩=some (.int .i64 (i1:Int))∧v.cell? ⟨B,1,none⟩=some (.int .i64 (i2:Int)))∧v.cell? ⟨bo,oo+i1,none⟩=some (.int .i64 ((s:Int)+1)))∧v.cell? ⟨u.heap.size,0,none⟩=some (.int .i64 i)∧v.cell? ⟨u.heap.size,1,none⟩=some (.int .i64 2)∧v.cell? ⟨u.heap.size,2,none⟩=some (.int .i64 a)∧v.cell? ⟨u.heap.size,3,none⟩=some (.int .i64 b))
   (first | assumption | exact HS6b.out _ c0.drew | exact HS6b.out _ (c0.drew.alloc (by simp) _))
   ((go_at_call 52;refine (HOr.out _ (c0.drew.alloc (by simp) _) _ (Nat.le_refl _) (HOw.out _ c0.drew)).mono ?_;rintro e v ⟨rfl,⟨hk,hb⟩,hSv⟩))
  go_wp2
  go_ret
  exact HFin.out _ _ ⟨rfl,hk,hb⟩
 ·have ee:((s:Int)+1 == x2)=false:=by simpa using hxx
  have ed:decide ((s:Int)+1=x2)=false:=by simpa using hxx
  go_upto_region 5 with fail
  go_region_held3 (fun v=>v.cell? ⟨G,1,none⟩=some (.slice (some ⟨bo,oo,none⟩) p.o.n p.o.c)∧(v.cell? ⟨B,0,none⟩=some (.int .i64 (i1:Int))∧v.cell? ⟨B,1,none⟩=some (.int .i64 (i2:Int)))∧v.cell? ⟨bo,oo+i1,none⟩=some (.int .i64 ((s:Int)+1))∧v.cell? ⟨bo,oo+i2,none⟩=some (.int .i64 x2)) (exact HS5.out) (fail)
  obtain ⟨W2,hW2⟩:=ex0 (V.drew)
  have b2:Below V.heap.size V W2:=by rw [hW2];exact (Below.refl _ _).drew
  have HK2:=hideIt (HKV.out.up b2)
  have HX2:=hideIt (HXE.out.up b2)
  have HA2:=hideIt (HXV.out.up b2)
  have HB2:Hid (Below lo u W2):=HBV.out.trans (b2.mono HLV.out)
  have HL2:Hid (lo≤W2.heap.size):=Nat.le_trans HLV.out b2.size
  have lBw:B<W2.heap.size:=HX2.out.lt
  rw [← hW2]
  clear hW2 b2 g1 e0 e1 hc1 hc2 HKV HXE HXV HBV HLV HK HXA w1 HS5
  have HS7:Hid (∀ v:World,Below W2.heap.size W2 v→v.cell? ⟨G,2,none⟩=some (.slice p.c.a p.c.n p.c.c)∧(v.cell? ⟨B,0,none⟩=some (.int .i64 (i1:Int))∧v.cell? ⟨B,1,none⟩=some (.int .i64 (i2:Int)))∧Below W2.heap.size W2 v):=fun v hv=>⟨(HK2.out.up hv).bx.cell 2 rfl,⟨(HX2.out.up hv).cell 0 rfl,(HX2.out.up hv).cell 1 rfl⟩,hv⟩
  have c0:Below W2.heap.size W2 W2:=Below.refl _ _
  have HHas:Hid (∀ x,Below W2.heap.size W2 x→Calls Tryz.prog 78 #[.slice p.c.a p.c.n p.c.c,.agg #[.int .i64 (i1:Int),.int .i64 (i2:Int)]] x fun e v=>e=.returned (.bool (O.hasB h.cuts ((i1:Int),(i2:Int))))∧Below W2.heap.size W2 v):=fun x bx =>
   (O.l05Has_any h.cuts ((i1:Int),(i2:Int)) p.c.n p.c.a p.c.c (by have:=Hln.out.2.1;omega) x (HK2.out.up bx).hw.ow.inn.c).mono fun e v ⟨h1,h2⟩=>⟨h1,bx.trans (h2.mono bx.size)⟩
  cases hhas:O.hasB h.cuts ((i1:Int),(i2:Int)) with
  | false =>
   have HFin:Hid (∀ e v,MvA lo u G (sayH h i 2 a b 2) 1 e v→MvA lo u G T1 T2 e v):=fun e v hm=>by
    rw [HT.out.1,HT.out.2,if_neg hxx,if_neg hxx,show O.takE h.N h.cuts ((i1:Int),(i2:Int))=none by unfold O.takE;rw [hhas];simp]
    exact hm
   rw [hhas] at HHas
   clear hhas hxx HGb
   go_upto_region 7 with fail
   go_region_held3 (fun v=>v.cell? ⟨G,2,none⟩=some (.slice p.c.a p.c.n p.c.c)∧(v.cell? ⟨B,0,none⟩=some (.int .i64 (i1:Int))∧v.cell? ⟨B,1,none⟩=some (.int .i64 (i2:Int)))∧Below W2.heap.size W2 v)
    (exact HS7.out _ (by first | assumption | exact c0.drew))
    ((go_at_call 78;refine (HHas.out _ c0.drew).mono ?_;rintro e W3 ⟨rfl,b3⟩))
   have HA3:=hideIt (HA2.out.up b3)
   have a0:=HA3.out.cell 0 rfl
   have a1:=HA3.out.cell 1 rfl
   have a2:=HA3.out.cell 2 rfl
   have a3:=HA3.out.cell 3 rfl
   have HSy:=hideIt (sSay_any i 2 a b 2 W3 (HK2.out.up b3) (Nat.le_trans HL2.out b3.size) hn)
   have HB3:=hideIt (HB2.out.trans (b3.mono HL2.out))
   clear b3 HS7 HHas HK2 HX2 HA2 c0
   go_upto_region 9 with fail
   go_wp2_with (go_at_call 50;refine HSy.out.mono ?_;rintro e v ⟨rfl,⟨g,c,hk⟩,hb⟩;refine Hid.out ?_)
   refine hidp20 ?_
   have HE:=hideIt (HB3.out.trans hb)
   clear hb a0 a1 a2 a3 HA3
   go_wp2
   go_ret
   first | exact HFin.out _ _ ⟨rfl,⟨_,_,hk⟩,HE.out⟩
  | true =>
   have HFin:Hid (∀ e v,MvA lo u G (sayH (withCuts h (O.outE h.cuts ((i1:Int),(i2:Int)))) i 2 a b 1) 1 e v→MvA lo u G T1 T2 e v):=fun e v hm=>by
    rw [HT.out.1,HT.out.2,if_neg hxx,if_neg hxx,show O.takE h.N h.cuts ((i1:Int),(i2:Int))=some (O.outE h.cuts ((i1:Int),(i2:Int))) by unfold O.takE;rw [hhas,HGb.out.1];simp]
    exact hm
   rw [hhas] at HHas
   clear hhas hxx HGb
   go_upto_region 7 with fail
   go_region_held3 (fun v=>v.cell? ⟨G,2,none⟩=some (.slice p.c.a p.c.n p.c.c)∧(v.cell? ⟨B,0,none⟩=some (.int .i64 (i1:Int))∧v.cell? ⟨B,1,none⟩=some (.int .i64 (i2:Int)))∧Below W2.heap.size W2 v)
    (exact HS7.out _ (by first | assumption | exact c0.drew))
    ((go_at_call 78;refine (HHas.out _ c0.drew).mono ?_;rintro e W3 ⟨rfl,b3⟩))
   have HA3:=hideIt (HA2.out.up b3)
   have HKX:=hideIt (HK2.out.up b3)
   have HB3:Hid (Below lo u W3):=HB2.out.trans (b3.mono HL2.out)
   have HL3:Hid (lo≤W3.heap.size):=Nat.le_trans HL2.out b3.size
   have a1:=HA3.out.cell 1 rfl
   have c2:W3.cell? ⟨G,2,none⟩=some (.slice p.c.a p.c.n p.c.c):=HKX.out.bx.cell 2 rfl
   have b0:=(HX2.out.up b3).cell 0 rfl
   have b1:=(HX2.out.up b3).cell 1 rfl
   have lBw:B<W3.heap.size:=Nat.lt_of_lt_of_le lBw b3.size
   have HPu:Hid (∀ x,Below W3.heap.size W3 x→Calls Tryz.prog 79 #[.slice p.c.a p.c.n p.c.c,.agg #[.int .i64 (i1:Int),.int .i64 (i2:Int)]] x fun e v=>∃ ra rm rc,e=.returned (.slice ra rm rc)∧v.ownsRow x.heap.size 107 2 (.slice ra rm rc) rm (O.ecells (O.outE h.cuts ((i1:Int),(i2:Int))))∧Below x.heap.size x v):=fun x bx =>
    O.l05Without_any h.cuts ((i1:Int),(i2:Int)) p.c.n p.c.a p.c.c (by have:=Hln.out.2.1;omega) x (HKX.out.up bx).hw.ow.inn.c
   have HAft:Hid (∀ (x:World) (ra:Option Addr) (rm rc:Nat),x.ownsRow W3.heap.size 107 2 (.slice ra rm rc) rm (O.ecells (O.outE h.cuts ((i1:Int),(i2:Int))))→Below W3.heap.size W3 x →
     Calls Tryz.prog 50 #[.pointer (some ⟨G,0,none⟩),.agg #[.int .i64 i,.int .i64 2,.int .i64 a,.int .i64 b],.int .i64 1] (x.setCell ⟨G,2,none⟩ (.slice ra rm rc)) (fun e v=>e=.returned (.tuple #[])∧(∃ p R,HX lo v G (sayH (withCuts h (O.outE h.cuts ((i1:Int),(i2:Int)))) i 2 a b 1) p R)∧Below lo u v)∧(x.setCell ⟨G,2,none⟩ (.slice ra rm rc)).cell? ⟨u.heap.size,0,none⟩=some (.int .i64 i)∧(x.setCell ⟨G,2,none⟩ (.slice ra rm rc)).cell? ⟨u.heap.size,1,none⟩=some (.int .i64 2)∧(x.setCell ⟨G,2,none⟩ (.slice ra rm rc)).cell? ⟨u.heap.size,2,none⟩=some (.int .i64 a)∧(x.setCell ⟨G,2,none⟩ (.slice ra rm rc)).cell? ⟨u.heap.size,3,none⟩=some (.int .i64 b)):=fun x ra rm rc ox gx=>by
    have ax:BxA (x.setCell ⟨G,2,none⟩ (.slice ra rm rc)) u.heap.size 28 #[.int .i64 i,.int .i64 2,.int .i64 a,.int .i64 b]:=(HA3.out.up gx).setO _ (by first | exact HBG.out.2 | exact HBG.out.2.symm)
    have hc:=(HKX.out.up gx).cutted (own_mono ox HL3.out) (fun b h1 h2=>by have e1:=(ox.lt b h1).1;have e2:=(HKX.out.hw.ow.e.lt b h2).2;omega)
    exact ⟨(sSay_any i 2 a b 1 _ hc (by simpa [World.setCell] using Nat.le_trans HL3.out gx.size) hn).mono fun e v ⟨h1,⟨g,c,h2⟩,h3⟩=>⟨h1,⟨_,_,h2⟩,(Below.setCell (HB3.out.trans (gx.mono HL3.out)) (p:=⟨G,2,none⟩) HKX.out.ge _).trans h3⟩,ax.cell 0 rfl,ax.cell 1 rfl,ax.cell 2 rfl,ax.cell 3 rfl⟩
   have HAft:=hideIt (fun x ra rm rc (gx:Below W3.heap.size W3 x) ox=>HAft.out x ra rm rc ox gx)
   clear b3 HS7 HHas HK2 HX2 HA2 c0
   go_upto_region 12 with fail
   clear a1
   (
   apply viaT
   intro t4_5_6_
   apply viaT
   intro t4_5_
   apply viaT
   intro t4_
   apply viaT
   intro t5_
   focus (
   refine wp_region_held_drew (S:=fun _=>True) (by kernel_rfl) trivial (fun _=>?_)
   refine tq0 (i:=0) (v:=?_) rfl ?_ trivial ?_
   rotate_left
   ·intro w hSw;(try dsimp only at hSw);go_simp;try with_reducible rfl
   try simp only [Act.put,pU0]
   refine tq0 (i:=1) (v:=?_) rfl ?_ trivial ?_
   rotate_left
   ·intro w hSw;(try dsimp only at hSw);go_simp;try with_reducible rfl
   try simp only [Act.put,pU0]
   refine tq0 (i:=2) (v:=?_) rfl ?_ trivial ?_
   rotate_left
   ·intro w hSw;(try dsimp only at hSw);go_simp;try with_reducible rfl
   try simp only [Act.put,pU0]
   refine tq0 (i:=3) (v:=?_) rfl ?_ trivial ?_
   rotate_left
   ·intro w hSw;(try dsimp only at hSw);go_simp;try with_reducible rfl
   try simp only [Act.put,pU0]
   obtain ⟨y,hy⟩:=ex0 (W3.drew)
   have FC:y.cell? ⟨G,2,none⟩=some (.slice p.c.a p.c.n p.c.c)∧(y.cell? ⟨B,0,none⟩=some (.int .i64 (i1:Int))∧y.cell? ⟨B,1,none⟩=some (.int .i64 (i2:Int)))∧Below W3.heap.size W3 y:=by rw [hy];exact ⟨c2,⟨b0,b1⟩,(Below.refl _ _).drew⟩
   rw [← hy]
   clear hy
   refine wpAnyH_ready (rs:=[4,5]) (by kernel_rfl) (by simp) ?_
   refine AllReadyH.cons rfl (fun K hK=>?_) (AllReadyH.cons rfl (fun K hK=>?_) AllReadyH.nil)
   focus (
   obtain ⟨c2,⟨b0,b1⟩,bb⟩:=FC
   go_simp
   refine hK.out _ _ trivial (fun _=>?_)
   clear hK K
   try simp only [Act.put,pU0]
   have FC:=And.intro c2 (And.intro (And.intro b0 b1) bb)
   clear c2 b0 b1 bb
   refine lstH (l':=#[true,true,true,true,true,false,false,false,false,false]) (by kernel_rfl) ?_
   have F:=FC
   clear FC
   revert F
   revert y
   exact t4_.out
   )
   focus (
   obtain ⟨c2,⟨b0,b1⟩,bb⟩:=FC
   go_simp
   refine hK.out _ _ trivial (fun _=>?_)
   clear hK K
   try simp only [Act.put,pU0]
   have FC:=And.intro c2 (And.intro (And.intro b0 b1) bb)
   clear c2 b0 b1 bb
   refine lstH (l':=#[true,true,true,true,false,true,false,false,false,false]) (by kernel_rfl) ?_
   have F:=FC
   clear FC
   revert F
   revert y
   exact t5_.out
   )
   )
   focus (
   intro y F
   have FC:=F
   clear F
   refine wr0 (i:=4) rfl (fun K hK=>?_)
   focus (
   obtain ⟨c2,⟨b0,b1⟩,bb⟩:=FC
   go_simp
   refine hK.out _ _ trivial (fun _=>?_)
   clear hK K
   try simp only [pU0]
   have FC:=And.intro c2 (And.intro (And.intro b0 b1) bb)
   clear c2 b0 b1 bb
   refine lstH (l':=#[true,true,true,true,true,true,false,false,false,false]) (by kernel_rfl) ?_
   have F:=FC
   clear FC
   revert F
   revert y
   exact t4_5_.out
   )
   )
   focus (
   intro y F
   have FC:=F
   clear F
   refine wr0 (i:=5) rfl (fun K hK=>?_)
   focus (
   obtain ⟨c2,⟨b0,b1⟩,bb⟩:=FC
   go_simp
   refine hK.out _ _ trivial (fun _=>?_)
   clear hK K
   try simp only [pU0]
   have FC:=And.intro c2 (And.intro (And.intro b0 b1) bb)
   clear c2 b0 b1 bb
   refine lstH (l':=#[true,true,true,true,true,true,false,false,false,false]) (by kernel_rfl) ?_
   have F:=FC
   clear FC
   revert F
   revert y
   exact t4_5_.out
   )
   )
   focus (
   intro y F
   have FC:=F
   clear F
   refine wr0 (i:=6) rfl (fun K hK=>?_)
   focus (
   rw [if_pos]
   rotate_left
   ·kernel_rfl
   have HCall:=hideIt (HPu.out _ FC.2.2)
   go_wp2_with (go_at_call 79;refine HCall.out.mono ?_;rintro e z ⟨ra,rm,rc,rfl,oz,bz⟩;refine Hid.out ?_)
   refine hidp20 ?_
   refine hK.out _ _ trivial (fun _=>?_)
   clear hK K HCall
   try simp only [pU0]
   have FD:=And.intro (own_mono oz FC.2.2.size) (FC.2.2.trans (bz.mono FC.2.2.size))
   clear oz bz
   refine tq0 (i:=7) (v:=?_) rfl ?_ trivial ?_
   rotate_left
   ·intro w hSw;(try dsimp only at hSw);go_simp;try with_reducible rfl
   try simp only [Act.put,pU0]
   refine tq0 (i:=8) (v:=?_) rfl ?_ trivial ?_
   rotate_left
   ·intro w hSw;(try dsimp only at hSw);go_simp;try with_reducible rfl
   try simp only [Act.put,pU0]
   refine lstH (l':=#[true,true,true,true,true,true,true,true,true,false]) (by kernel_rfl) ?_
   have F:=FD
   clear FD FC
   revert F
   revert rc
   revert rm
   revert ra
   revert z
   exact t4_5_6_.out
   )
   )
   focus (
   intro y ra rm rc F
   have FD:=F
   clear F
   refine wr0 (i:=9) rfl (fun K hK=>?_)
   have XX:=(HKX.out.up FD.2).bx
   have f2:=XX.frozen 2
   have c2:y.cell? ⟨G,2,none⟩=some (.slice p.c.a p.c.n p.c.c):=XX.cell 2 rfl
   have lGy:=XX.lt
   go_simp
   obtain ⟨x,hx⟩:=ex0 (y.setCell ⟨G,2,none⟩ (.slice ra rm rc))
   refine hK.out _ _ trivial (fun _=>?_)
   clear hK K f2 c2 XX
   try simp only [pU0]
   refine wpAnyH_done (by kernel_rfl) ?_ _
   have HF:=hideIt (HAft.out y ra rm rc FD.2 FD.1)
   rw [← hx] at HF ⊢
   clear hx FD
   obtain ⟨HSy,a0,a1,a2,a3⟩:=HF.out
   have HSy:=hideIt HSy
   clear HF
   go_upto_region 14 with fail
   go_wp2_with (go_at_call 50;refine HSy.out.mono ?_;rintro e v ⟨rfl,hk,hb⟩;refine Hid.out ?_)
   refine hidp20 ?_
   go_wp2
   go_ret
   first | exact HFin.out _ _ ⟨rfl,hk,hb⟩
   )
   )
def numH (h:Hd) (j:Nat) (x:Int):Hd:=⟨h.N,h.own,h.cuts,h.lab,h.nums.set j x,h.i,h.o,h.a,h.b,h.sh,h.num,h.op,h.es,h.v,h.said⟩
def labH (h:Hd) (j:Nat) (ls:List Int):Hd:=⟨h.N,h.own,h.cuts,h.lab.set j ls,h.nums,h.i,h.o,h.a,h.b,h.sh,h.num,h.op,h.es,h.v,h.said⟩
def ownS (h:Hd) (j:Nat) (x:Int):Hd:=⟨h.N,h.own.set j x,h.cuts,h.lab,h.nums,h.i,h.o,h.a,h.b,h.sh,h.num,h.op,h.es,h.v,h.said⟩
theorem ic_setH (ls:List Int) (i:Nat) (x:Int):(ic ls).set i (.int .i64 x)=ic (ls.set i x):=by simp [ic,List.map_set]
section
variable {lo G:Nat} {u v:World} {h:Hd} {p:Hp} {R:List Rw}
theorem FB.keepB {a:Option Addr} {n c b:Nat} (hf:FB u lo u.heap.size a n c R) (hg:u.grownBy v (some b)) (h1:(Value.slice a n c).ownBlock≠some b) (h2:∀ r ∈ R,r.g≠b):FB v lo v.heap.size a n c R :=
 ⟨hf.len,World.ownsRow.kept hf.own hg (.inr h1),fun g hx=>Nat.lt_of_lt_of_le (hf.row g hx) hg.size,Nat.le_refl _,fun r hr=>by
  have:=hf.ins r hr
  have h3:=this.1.grown hg (fun e=>h2 r hr (Option.some.inj e).symm)
  exact ⟨h3,this.2.1,h3.lt⟩,hf.nod⟩
theorem HX.setNum (k:HX lo u G h p R) {bn:Nat} (hp:p.n.a=some ⟨bn,0,none⟩) (j:Nat) (x:Int):HX lo (u.setCell ⟨bn,j,none⟩ (.int .i64 x)) G (numH h j x) p R:=by
 have gs:=grownSet u bn j (.int .i64 x)
 have hv:p.n.v=.slice (some ⟨bn,0,none⟩) p.n.n p.n.c:=by unfold Sx.v;rw [hp]
 have hb:p.n.v.ownBlock=some bn:=by rw [hv];rfl
 have hn:=k.hw.ow.n
 have gs':u.grownBy (u.setCell ⟨bn,j,none⟩ (.int .i64 x)) p.n.v.ownBlock:=by rw [hb];exact gs
 have neG:bn≠G:=fun e=>own_neB hn k.bx (by decide) (by rw [hb,e])
 refine ⟨k.bx.setO _ (by first | exact neG | exact neG.symm),k.ge,⟨World.ownsRow.kept k.hw.ow.o gs (.inr fun e=>k.hw.sp.on _ e hb),own_keepR k.hw.ow.c hn (by decide) gs',?_,k.hw.ow.r,?_,own_keepR k.hw.ow.e hn (by decide) gs',own_keepR k.hw.ow.s hn (by decide) gs'⟩,⟨k.hw.sp.on,k.hw.sp.orr,k.hw.sp.nr⟩,k.hw.ce⟩
 ·exact FB.keepB k.hw.ow.l gs (fun e=>rowsNe hn k.hw.ow.l.own (by decide) bn hb e) fun r hr e=>k.hw.sp.nr r hr (by rw [hb,e])
 ·rw [hv] at hn ⊢
  have:=(hn.stored j (.int .i64 x)).1
  rw [ic_setH] at this
  exact this
theorem HX.setOwn (k:HX lo u G h p R) {bn:Nat} (hp:p.o.a=some ⟨bn,0,none⟩) (j:Nat) (x:Int):HX lo (u.setCell ⟨bn,j,none⟩ (.int .i64 x)) G (ownS h j x) p R:=by
 have gs:=grownSet u bn j (.int .i64 x)
 have hv:p.o.v=.slice (some ⟨bn,0,none⟩) p.o.n p.o.c:=by unfold Sx.v;rw [hp]
 have hb:p.o.v.ownBlock=some bn:=by rw [hv];rfl
 have hn:=k.hw.ow.o
 have gs':u.grownBy (u.setCell ⟨bn,j,none⟩ (.int .i64 x)) p.o.v.ownBlock:=by rw [hb];exact gs
 have neG:bn≠G:=fun e=>own_neB hn k.bx (by decide) (by rw [hb,e])
 refine ⟨k.bx.setO _ (by first | exact neG | exact neG.symm),k.ge,⟨?_,own_keepR k.hw.ow.c hn (by decide) gs',?_,k.hw.ow.r,World.ownsRow.kept k.hw.ow.n gs (.inr fun e=>k.hw.sp.on _ hb e),own_keepR k.hw.ow.e hn (by decide) gs',own_keepR k.hw.ow.s hn (by decide) gs'⟩,⟨k.hw.sp.on,k.hw.sp.orr,k.hw.sp.nr⟩,k.hw.ce⟩
 ·rw [hv] at hn ⊢
  have:=(hn.stored j (.int .i64 x)).1
  rw [ic_setH] at this
  exact this
 ·exact FB.keepB k.hw.ow.l gs (fun e=>rowsNe hn k.hw.ow.l.own (by decide) bn hb e) fun r hr e=>k.hw.sp.orr r hr (by rw [hb,e])
theorem rts_set (R:List Rw) (j:Nat) (r:Rw):rts (R.set j r)=(rts R).set j r.t:=by simp [rts,List.map_set]
theorem rhs_set (R:List Rw) (j:Nat) (r:Rw):rhs (R.set j r)=(rhs R).set j r.hdr:=by simp [rhs,List.map_set]
theorem HX.setLab (k:HX lo u G h p R) {bl:Nat} (hp:p.l.a=some ⟨bl,0,none⟩) (j:Nat) {g m cp:Nat} {ls:List Int} (hm:m=ls.length) (ho:u.ownsRow lo 3 1 (.slice (some ⟨g,0,none⟩) m cp) m (ic ls)) (f1:p.o.v.ownBlock≠some g) (f2:p.n.v.ownBlock≠some g) (f3:∀ r ∈ R,r.g≠g) :
  HX lo (u.setCell ⟨bl,j,none⟩ (.slice (some ⟨g,0,none⟩) m cp)) G (labH h j ls) p (R.set j ⟨g,cp,ls⟩):=by
 subst hm
 have gs:=grownSet u bl j (.slice (some ⟨g,0,none⟩) ls.length cp)
 have hv:p.l.v=.slice (some ⟨bl,0,none⟩) p.l.n p.l.c:=by unfold Sx.v;rw [hp]
 have hb:p.l.v.ownBlock=some bl:=by rw [hv];rfl
 have hn:u.ownsRow lo 24 1 p.l.v p.l.n (rhs R):=k.hw.ow.l.own
 have gs':u.grownBy (u.setCell ⟨bl,j,none⟩ (.slice (some ⟨g,0,none⟩) ls.length cp)) p.l.v.ownBlock:=by rw [hb];exact gs
 have neG:bl≠G:=fun e=>own_neB hn k.bx (by decide) (by rw [hb,e])
 have hm:∀ r ∈ R.set j ⟨g,cp,ls⟩,r ∈ R∨r=⟨g,cp,ls⟩:=fun r hr=>List.mem_or_eq_of_mem_set hr
 have hr0:RwB (u.setCell ⟨bl,j,none⟩ (.slice (some ⟨g,0,none⟩) ls.length cp)) ⟨g,cp,ls⟩:=RwB.of_own (own_keepR ho hn (by decide) gs')
 refine ⟨k.bx.setO _ (by first | exact neG | exact neG.symm),k.ge,⟨own_keepR k.hw.ow.o hn (by decide) gs',own_keepR k.hw.ow.c hn (by decide) gs',⟨?_,?_,fun g2 hx=>Nat.lt_of_lt_of_le (k.hw.ow.l.row g2 hx) gs.size,Nat.le_refl _,fun r hr=>?_,?_⟩,?_,own_keepR k.hw.ow.n hn (by decide) gs',own_keepR k.hw.ow.e hn (by decide) gs',own_keepR k.hw.ow.s hn (by decide) gs'⟩,⟨k.hw.sp.on,fun r hr=>?_,fun r hr=>?_⟩,k.hw.ce⟩
 ·rw [List.length_set];exact k.hw.ow.l.len
 ·rw [rhs_set]
  rw [show Value.slice p.l.a p.l.n p.l.c=p.l.v from rfl]
  rw [hv] at hn ⊢
  exact (hn.stored j _).1
 ·rcases hm r hr with h1 | h1
  ·have:=k.hw.ow.l.ins r h1
   have h3:=this.1.grown gs' (own_ne' hn this.1)
   exact ⟨h3,this.2.1,h3.lt⟩
  ·subst h1
   exact ⟨hr0,(ho.lt g rfl).1,hr0.lt⟩
 ·have hnod:=k.hw.ow.l.nod
  rw [List.pairwise_iff_getElem] at hnod ⊢
  intro i1 i2 h1 h2 h12
  simp only [List.length_set] at h1 h2
  rw [List.getElem_set,List.getElem_set]
  split
  ·rename_i e1
   split
   ·omega
   ·exact (f3 _ (List.getElem_mem h2)).symm
  ·split
   ·exact f3 _ (List.getElem_mem h1)
   ·exact hnod i1 i2 h1 h2 h12
 ·rw [rts_set,k.hw.ow.r];rfl
 ·rcases hm r hr with h1 | h1
  ·exact k.hw.sp.orr r h1
  ·subst h1;exact f1
 ·rcases hm r hr with h1 | h1
  ·exact k.hw.sp.nr r h1
  ·subst h1;exact f2
end
theorem setH_eq (h:Hd) (num:Int) (ls:List Int):setH h num ls=labH (numH h (h.sh - 1).toNat num) (h.sh - 1).toNat ls:=rfl
theorem ownH_eq (h:Hd) (a b:Int) (cs:List O.EdgeV):ownH h a b cs=withCuts (ownS h a.toNat b) cs:=rfl
theorem moveIt_any (x:O.EdgeV) (B:Nat) (ins:List O.EdgeV) (a:Option Addr) (n c:Nat) (hn:n≤1048576) (u:World) (X:BxA u B 25 #[.slice a n c]) (h:O.Es u u.heap.size a n ins) :
  Calls Tryz.prog 142 #[.agg #[.int .i64 x.1,.int .i64 x.2],.pointer (some ⟨B,0,none⟩)] u fun e v=>e=.returned (.bool (O.hasB ins x))∧Below u.heap.size u v:=by
 obtain ⟨W,hW⟩:=ex0 (u.alloc (.cells #[.int .i64 x.1,.int .i64 x.2] 107))
 have bW:Below u.heap.size u W:=by rw [hW];exact belA _ _
 have XA:BxA W u.heap.size 107 #[.int .i64 x.1,.int .i64 x.2]:=by rw [hW];exact BxA.new _ _ _
 have HC:=hideIt (O.Contains_any ins x n a c hn W (h.up bW))
 have c0:=(X.up bW).cell 0 rfl
 have e0:=XA.cell 0 rfl
 have e1:=XA.cell 1 rfl
 have HB:=hideIt bW
 clear X h XA bW
 go_enter Tryz.func142,Tryz.ntmps142
 go_upto_region 1 with fail
 rw [← hW]
 clear hW
 go_wp2_with (go_at_call 143;refine HC.out.mono ?_;rintro e v ⟨rfl,b⟩)
 go_ret
 exact ⟨rfl,HB.out.trans (b.mono HB.out.size)⟩
set_option maxRecDepth 100000 in
set_option maxHeartbeats 2000000 in
theorem delFE_row (es:List O.EdgeV) (pq:O.EdgeV→Bool) (lo:Nat) (a:Option Addr) (n c B:Nat) (hn:n≤1048576) (w:World) (h:w.ownsRow lo 107 2 (.slice a n c) n (O.ecells es)) (HC0:∀ x ∈ es,∀ u,w.grownBy u (Value.slice a n c).ownBlock→Calls Tryz.prog 142 #[.agg #[.int .i64 x.1,.int .i64 x.2],.pointer (some ⟨B,0,none⟩)] u fun e v=>e=.returned (.bool (pq x))∧Below u.heap.size u v) :
  Calls Tryz.prog 141 #[.slice a n c,.func (.func 142) #[] #[.pointer (some ⟨B,0,none⟩)]] w fun e w'=>∃ a' m' c',e=.returned (.slice a' m' c')∧w'.ownsRow lo 107 2 (.slice a' m' c') m' (O.ecells (es.filter fun e=>!pq e))∧w.grownBy w' (Value.slice a n c).ownBlock∧(Value.slice a' m' c').ownBlock=(Value.slice a n c).ownBlock:=by
 have hlen:es.length=n:=by have:=h.1;rw [O.ecells_length] at this;omega
 rcases h.2 with ⟨hv,h0⟩ | ⟨g,cap,cur,hv,_⟩
 ·simp at hv
  obtain ⟨rfl,rfl,rfl⟩:=hv
  obtain rfl:es=[]:=List.length_eq_zero_iff.1 (by omega)
  have HI:Hid (Calls Tryz.prog 146 #[.slice none 0 0,.func (.func 142) #[] #[.pointer (some ⟨B,0,none⟩)]] w fun e w'=>e=.returned (.int .i64 (-1))∧Below w.heap.size w w') :=
   idxFE_m [] pq 0 none 0 (by omega) B w (O.Es_of_own h) (fun x hx=>by simp at hx)
  have HO:=hideIt h
  clear h HC0 hlen
  go_enter Tryz.func141,Tryz.ntmps141
  go_wp2_with (go_at_call 146;refine HI.out.mono ?_;rintro e w1 ⟨rfl,b1⟩)
  go_ret
  exact ⟨none,0,0,rfl,own_up HO.out b1,grown_of_below b1 _,rfl⟩
 ·simp at hv
  obtain ⟨rfl,rfl⟩:=hv
  refine (delFE_any es pq lo g n c B hn w h HC0).mono fun e w' ⟨m,h1,_,h3,h4⟩=>⟨_,m,c,h1,?_,h4,rfl⟩
  unfold kepE at h3
  rw [List.take_of_length_le (by omega)] at h3
  exact h3
structure MvT (lo:Nat) (u:World) (G bA bT:Nat) (i:Int) (av s:Nat) (h:Hd) (fs ins:List O.EdgeV) (ia:Option Addr) (im ic2:Nat) (a2:Option Addr) (m2 k2:Nat) (x2:World):Prop where
 cell:x2.frozen? ⟨G,2,none⟩=false∧(∃ o,x2.cell? ⟨G,2,none⟩=some o)∧G<x2.heap.size
 rest:(x2.setCell ⟨G,2,none⟩ (.slice a2 m2 k2)).cell? ⟨bT,0,none⟩=some (.slice ia im ic2) ∧
  (im=0→Calls Tryz.prog 111 #[.pointer (some ⟨G,0,none⟩),.agg #[.int .i64 i,.int .i64 4,.int .i64 (av:Int),.int .i64 ((s:Int)+1)],.int .i64 1] (x2.setCell ⟨G,2,none⟩ (.slice a2 m2 k2)) fun e v=>e=.returned (.int .i64 1)∧MvA lo u G (sayH (ownH h (av:Int) ((s:Int)+1) (mvC h (av:Int) ((s:Int)+1) fs)) i 4 (av:Int) ((s:Int)+1) 1) 1 e v) ∧
  (im≠0→Calls Tryz.prog 138 #[.pointer (some ⟨G,0,none⟩),.agg #[.int .i64 i,.int .i64 4,.int .i64 (av:Int),.int .i64 ((s:Int)+1)],.int .i64 ((s:Int)+1),.agg #[.int .i64 0,.int .i64 4,.slice ia im ic2,.int .i64 0]] (x2.setCell ⟨G,2,none⟩ (.slice a2 m2 k2)) fun e v=>e=.returned (.int .i64 2)∧MvA lo u G (ordH (ownH h (av:Int) ((s:Int)+1) (mvC h (av:Int) ((s:Int)+1) fs)) i 4 (av:Int) ((s:Int)+1) ((s:Int)+1) 4 ins 0) 2 e v) ∧
  (x2.setCell ⟨G,2,none⟩ (.slice a2 m2 k2)).cell? ⟨bA,0,none⟩=some (.int .i64 i)∧(x2.setCell ⟨G,2,none⟩ (.slice a2 m2 k2)).cell? ⟨bA,1,none⟩=some (.int .i64 4)∧(x2.setCell ⟨G,2,none⟩ (.slice a2 m2 k2)).cell? ⟨bA,2,none⟩=some (.int .i64 (av:Int))∧(x2.setCell ⟨G,2,none⟩ (.slice a2 m2 k2)).cell? ⟨bA,3,none⟩=some (.int .i64 ((s:Int)+1))
theorem row_neB {u:World} {B e s n G t:Nat} {x:Value} {xs:List Value} {cs:Array Value} (hr:u.ownsRow B e s x n xs) (X:BxA u G t cs) (he:e≠t):x.ownBlock≠some G:=by
 intro hb
 rcases hr.2 with ⟨rfl,_⟩ | ⟨g,cap,cur,rfl,_,hc,_⟩
 ·simp [Value.ownBlock] at hb
 ·simp [Value.ownBlock] at hb
  subst hb
  unfold BxA at X
  rw [hc] at X
  simp at X
  exact he X.2
theorem HX.keepE {lo G B n:Nat} {u v:World} {h:Hd} {p:Hp} {R:List Rw} {y:Value} {ys:List Value} (k:HX lo u G h p R) (hy:u.ownsRow B 107 2 y n ys) (hc:∀ b,y.ownBlock=some b→p.c.v.ownBlock≠some b) (he:∀ b,y.ownBlock=some b→p.e.v.ownBlock≠some b) (hg:u.grownBy v y.ownBlock):HX lo v G h p R:=by
 have kp:∀ (z:Value),(∀ b,y.ownBlock=some b→z.ownBlock≠some b)→z.ownBlock=none∨z.ownBlock≠y.ownBlock:=fun z hz=>by
  cases hb:z.ownBlock with
  | none=>exact .inl rfl
  | some b=>exact .inr fun e=>hz b e.symm hb
 exact ⟨k.bx.grown hg (row_neB hy k.bx (by decide)),k.ge,⟨own_keepR k.hw.ow.o hy (by decide) hg,World.ownsRow.kept k.hw.ow.c hg (kp _ hc),FB.keepR k.hw.ow.l hy (by decide) (by decide) hg,k.hw.ow.r,own_keepR k.hw.ow.n hy (by decide) hg,World.ownsRow.kept k.hw.ow.e hg (kp _ he),own_keepR k.hw.ow.s hy (by decide) hg⟩,k.hw.sp,k.hw.ce⟩
set_option maxRecDepth 100000 in
set_option maxHeartbeats 16000000 in
theorem pMvR_any {lo G S:Nat} {h:Hd} {p:Hp} {R:List Rw} (i a b:Int) (es:List O.EdgeV) (aE:Option Addr) (nE cE:Nat) (U:World) (k:HX lo U G h p R) (q:HQ S h) (hop:h.op=3) (hl:lo≤U.heap.size) (ha:0≤a∧a<h.N) (hb:1≤b∧b≤(S:Int)) (hnum:∀ y ∈ h.nums,0≤y∧y≤1000) (hsl:p.s.n≤1000) (hes:O.eOk h.N es=true) (hE:O.Es U U.heap.size aE nE es) (hz:aE=none→nE=0∧cE=0) :
  Calls Tryz.prog 119 #[.pointer (some ⟨G,0,none⟩),.agg #[.int .i64 i,.int .i64 4,.int .i64 a,.int .i64 b],.slice aE nE cE] U fun e v=>MvA lo U G (mvH h i a b es).1 (mvH h i a b es).2 e v:=by
 have hmf:∀ (fn:Fn) (first cap:Array Value) (w:World),(Instr.makeFunc fn first cap).run Tryz.prog w=.ok (.func fn first cap) w:=fun _ _ _ _=>rfl
 obtain ⟨av,rfl⟩:∃ v:Nat,a=(v:Int):=⟨a.toNat,by omega⟩
 obtain ⟨s,rfl⟩:∃ s:Nat,b=(s:Int)+1:=⟨(b - 1).toNat,by omega⟩
 have hsS:=q.s
 have hs3:s≤2:=by omega
 have hsN:s<h.nums.length:=by have:=q.num.1;omega
 have he2:=O.eOk_parts hes
 have hc2:=O.eOk_parts q.cut
 have hlE:nE≤66:=by have:=hE.1;omega
 have hlC:p.c.n≤66:=by have:=k.hw.ow.inn.c.1;omega
 have hlO:av<p.o.n∧p.o.n≤12:=by have:=k.hw.ow.inn.o.1;have:=q.own.1;have:=q.n;omega
 obtain ⟨T,hT⟩:=ex0 (mvH h i (av:Int) ((s:Int)+1) es)
 rw [← hT]
 obtain ⟨W,hW⟩:=ex0 (U.alloc (.cells #[.int .i64 i,.int .i64 4,.int .i64 (av:Int),.int .i64 ((s:Int)+1)] 28))
 have bW:Below U.heap.size U W:=by rw [hW];exact belA _ _
 have XA:BxA W U.heap.size 28 #[.int .i64 i,.int .i64 4,.int .i64 (av:Int),.int .i64 ((s:Int)+1)]:=by rw [hW];exact BxA.new _ _ _
 obtain ⟨V,hV⟩:=ex0 (W.alloc (.cells #[.slice aE nE cE] 25))
 have bV:Below W.heap.size W V:=by rw [hV];exact belA _ _
 have XE:BxA V W.heap.size 25 #[.slice aE nE cE]:=by rw [hV];exact BxA.new _ _ _
 have HWE:Hid (Calls Tryz.prog 139 #[.slice (some ⟨W.heap.size,0,none⟩) 1 1,.slice p.c.a p.c.n p.c.c] V fun e v=>∃ ra rm rc,e=.returned (.tuple #[.slice ra rm rc,.bool (O.mvE h.cuts es).isSome])∧v.ownsRow V.heap.size 107 2 (.slice ra rm rc) rm (O.ecells ((O.mvE h.cuts es).getD []))∧Below V.heap.size V v):=by
  have h1:=O.iWholeEdges_any [⟨aE,nE,cE,es⟩] 1 (some ⟨W.heap.size,0,none⟩) 1 (fun e=>by cases e) h.cuts p.c.n p.c.a p.c.c (sl_nil (O.Sl_of_own k.hw.ow.c)) (by omega) (by simp [O.pLen];omega) V ⟨rfl,.inr ⟨W.heap.size,0,rfl,XE.lt,fun j pt hp=>by
   cases j with
   | zero=>simp at hp;subst hp;exact XE.cell 0 rfl
   | succ j=>simp at hp⟩,fun pt hp=>by simp at hp;subst hp;exact ⟨(hE.up bW).up bV,hz⟩⟩ (((k.up bW).up bV).hw.ow.inn.c)
  rw [show O.pAll [⟨aE,nE,cE,es⟩] ++ h.cuts=es ++ h.cuts by simp [O.pAll],O.weO_mv he2.2.1 hc2.2.1] at h1
  exact h1
 have HK:=hideIt (k.up bW)
 have HXA:=hideIt XA
 have HB:Hid (Below lo U W):=bW.mono hl
 have HL:Hid (lo≤W.heap.size):=Nat.le_trans hl bW.size
 have HLU:Hid (U.heap.size<W.heap.size):=XA.lt
 have HbV:=hideIt bV
 have HNm:=hideIt hnum
 have HlU:=hideIt hl
 have HCb:Hid ((∀ b,p.c.v.ownBlock=some b→b<W.heap.size)∧(∀ b,p.e.v.ownBlock=some b→b<W.heap.size)):=⟨fun b hb=>Nat.lt_of_lt_of_le (k.hw.ow.c.lt b hb).2 bW.size,fun b hb=>Nat.lt_of_lt_of_le (k.hw.ow.e.lt b hb).2 bW.size⟩
 have HQq:=hideIt q
 have Hes:=hideIt hes
 have HT:=hideIt hT
 have HHa:=hideIt ha
 have HHb:=hideIt hb
 have HlO:=hideIt hlO
 have HUG:Hid (U.heap.size≠G):=fun e=>by have h1:=k.bx.lt;omega
 have g11:W.cell? ⟨G,11,none⟩=some (.int .i64 3):=by rw [← hop];exact (k.bx.up bW).cell 11 rfl
 have g2:W.cell? ⟨G,2,none⟩=some (.slice p.c.a p.c.n p.c.c):=(k.bx.up bW).cell 2 rfl
 have lG:G<W.heap.size:=(k.bx.up bW).lt
 clear k q hl ha hb hnum hes hE hz bW XA bV XE he2 hc2 hT hsS hop hlO
 cases hmv:O.mvE h.cuts es with
 | none =>
  have HT2:Hid (T=(sayH h i 4 (av:Int) ((s:Int)+1) 3,1)):=by show T=_;rw [HT.out];unfold mvH;rw [hmv]
  rw [hmv] at HWE
  have HWE2:Hid (Calls Tryz.prog 139 #[.slice (some ⟨W.heap.size,0,none⟩) 1 1,.slice p.c.a p.c.n p.c.c] V fun e v=>∃ ra rm rc,e=.returned (.tuple #[.slice ra rm rc,.bool false])∧Below V.heap.size V v):=HWE.out.mono fun e v ⟨ra,rm,rc,h1,_,h3⟩=>⟨ra,rm,rc,h1,h3⟩
  clear HWE hmv HT
  go_enter Tryz.func119,Tryz.ntmps119
  go_upto_region 1 with fail
  rw [← hW]
  clear hW
  go_upto_region 4 with fail
  clear g11
  go_wp2_with (go_at_call 139;rw [← hV];refine HWE2.out.mono ?_;rintro e w2 ⟨ra,rm,rc,rfl,b2⟩;refine Hid.out ?_)
  refine hidp20 ?_
  have c2:=HbV.out.trans (b2.mono HbV.out.size)
  have HSy:=hideIt (pSay_any i 4 (av:Int) ((s:Int)+1) 3 w2 (HK.out.up c2) (Nat.le_trans HL.out c2.size) hsl)
  have X2:=HXA.out.up c2
  have a0:=X2.cell 0 rfl
  have a1:=X2.cell 1 rfl
  have a2:=X2.cell 2 rfl
  have a3:=X2.cell 3 rfl
  have HB2:=hideIt (HB.out.trans (c2.mono HL.out))
  clear c2 b2 X2 g2 HWE2 hV
  go_upto_region 6 with fail
  go_wp2_with (go_at_call 111;refine HSy.out.mono ?_;rintro e v ⟨rfl,⟨g,c,hk⟩,hb⟩;refine Hid.out ?_)
  refine hidp20 ?_
  have HE:=hideIt (HB2.out.trans hb)
  clear hb a0 a1 a2 a3
  go_wp2
  go_ret
  rw [HT2.out]
  exact ⟨rfl,⟨_,_,hk⟩,HE.out⟩
 | some fs =>
  have hT':T=mvH h i (av:Int) ((s:Int)+1) es:=HT.out
  unfold mvH at hT'
  rw [hmv] at hT'
  dsimp only at hT'
  have hfs:O.eOk h.N fs=true:=O.mvE_ok HQq.out.cut Hes.out hmv
  have Hfs:=hideIt hfs
  rw [hmv] at HWE
  have HWE2:Hid (Calls Tryz.prog 139 #[.slice (some ⟨W.heap.size,0,none⟩) 1 1,.slice p.c.a p.c.n p.c.c] V fun e v=>∃ ra rm rc,e=.returned (.tuple #[.slice ra rm rc,.bool true])∧v.ownsRow V.heap.size 107 2 (.slice ra rm rc) rm (O.ecells fs)∧Below V.heap.size V v):=HWE.out
  obtain ⟨ins,hins⟩:=ex0 (mvI h (av:Int) ((s:Int)+1) fs)
  rw [← hins] at hT'
  have HTs:=hideIt hT'
  have Hins:=hideIt hins
  clear HWE hmv HT hfs hT' hins
  go_enter Tryz.func119,Tryz.ntmps119
  go_upto_region 1 with fail
  rw [← hW]
  clear hW
  go_upto_region 4 with fail
  clear g11
  go_wp2_with (go_at_call 139;rw [← hV];refine HWE2.out.mono ?_;rintro e w2 ⟨ra,rm,rc,rfl,ho2,b2⟩;refine Hid.out ?_)
  refine hidp20 ?_
  have c2:=HbV.out.trans (b2.mono HbV.out.size)
  have HO2:=hideIt (own_mono ho2 HbV.out.size)
  have HK2:=hideIt (HK.out.up c2)
  have HX2:=hideIt (HXA.out.up c2)
  have HB2:Hid (Below lo U w2):=HB.out.trans (c2.mono HL.out)
  have HL2:Hid (lo≤w2.heap.size):=Nat.le_trans HL.out c2.size
  have HGW:Hid (W.heap.size≤w2.heap.size):=c2.size
  clear c2 b2 ho2 g2 HWE2 hV HbV HK HXA HB HL lG
  have HS7:Hid (∀ u,Below w2.heap.size w2 u→BxA u G 35 (hC h p)∧u.cell? ⟨U.heap.size,2,none⟩=some (.int .i64 (av:Int))):=fun u hu=>⟨(HK2.out.up hu).bx,(HX2.out.up hu).cell 2 rfl⟩
  have c7:=Below.refl w2.heap.size w2
  have HVa:Hid (∀ u,Below w2.heap.size w2 u→Calls Tryz.prog 133 #[.agg (hC h p),.int .i64 (av:Int)] u fun e v=>e=.returned (.bool true)∧Below w2.heap.size w2 v):=fun u hu=>(hasVertex_any h _ (av:Int) u).mono fun e v ⟨h1,h2⟩=>⟨by rw [h1,decide_eq_true HHa.out],hu.trans (h2.mono hu.size)⟩
  go_upto_region 7 with fail
  (
  refine wp_region_held_drew (S:=(fun u=>BxA u G 35 (hC h p)∧u.cell? ⟨U.heap.size,2,none⟩=some (.int .i64 (av:Int)))) (by kernel_rfl) (HS7.out _ c7.drew) (fun hHeld=>?_)
  refine tq0 (i:=0) (v:=?_) rfl ?_ (by assumption) ?_
  rotate_left
  ·intro w hSw;obtain ⟨zG,za⟩:=hSw;go_simp;try with_reducible rfl
  try simp only [Act.put,pU0]
  refine tq0 (i:=1) (v:=?_) rfl ?_ (by assumption) ?_
  rotate_left
  ·intro w hSw;obtain ⟨zG,za⟩:=hSw;go_simp;try with_reducible rfl
  try simp only [Act.put,pU0]
  refine tq0 (i:=2) (v:=.agg (hC h p)) rfl (fun w hSw=>exec_loadH rfl rfl hSw.1) (by assumption) ?_
  try simp only [Act.put,pU0]
  refine tq0 (i:=3) (v:=?_) rfl ?_ (by assumption) ?_
  rotate_left
  ·intro w hSw;obtain ⟨zG,za⟩:=hSw;go_simp;try with_reducible rfl
  try simp only [Act.put,pU0]
  refine tq0 (i:=4) (v:=?_) rfl ?_ (by assumption) ?_
  rotate_left
  ·intro w hSw;obtain ⟨zG,za⟩:=hSw;go_simp;try with_reducible rfl
  try simp only [Act.put,pU0]
  refine wr0 (i:=5) rfl (fun K hK=>?_)
  rw [if_pos]
  rotate_left
  ·kernel_rfl
  go_wp2_with (go_at_call 133;refine (HVa.out _ c7.drew).mono ?_;rintro e w3 ⟨rfl,b3⟩;refine Hid.out ?_)
  refine hidp20 ?_
  refine hK.out _ _ (HS7.out _ b3) (fun hHeld=>?_)
  clear hK K
  try simp only [Act.put,pU0]
  refine wpAnyH_done (by kernel_rfl) ?_ _
  clear hHeld
  have HK3:=hideIt (HK2.out.up b3)
  have HX3:=hideIt (HX2.out.up b3)
  have HO3:=hideIt (own_up HO2.out b3)
  have HB3:Hid (Below lo U w3):=HB2.out.trans (b3.mono HL2.out)
  have HL3:Hid (lo≤w3.heap.size):=Nat.le_trans HL2.out b3.size
  have HG3:Hid (W.heap.size≤w3.heap.size):=Nat.le_trans HGW.out b3.size
  obtain ⟨bo,ea⟩:∃ bo,p.o.a=some ⟨bo,0,none⟩:=by
   rcases HK3.out.hw.ow.o.2 with ⟨hv,h0⟩ | ⟨g,cap,cur,hv,_⟩
   ·have:=HlO.out;omega
   ·simp [Sx.v] at hv;exact ⟨g,hv.1⟩
  have hov:p.o.v=.slice (some ⟨bo,0,none⟩) p.o.n p.o.c:=by unfold Sx.v;rw [ea]
  have hoB:p.o.v.ownBlock=some bo:=by rw [hov];rfl
  have lbo:bo<w3.heap.size:=(HK3.out.hw.ow.o.lt bo hoB).2
  have HboG:Hid (bo≠G):=fun e=>own_neB HK3.out.hw.ow.o HK3.out.bx (by decide) (by rw [hoB,e])
  have HboA:Hid (bo≠U.heap.size):=fun e=>row_neB HK3.out.hw.ow.o HX3.out (by decide) (by rw [hoB,e])
  have g1:w3.cell? ⟨G,1,none⟩=some (.slice (some ⟨bo,0,none⟩) p.o.n p.o.c):=by rw [← hov];exact HK3.out.bx.cell 1 rfl
  obtain ⟨x0,hx0⟩:∃ x0,w3.cell? ⟨bo,av,none⟩=some x0:=by
   have h1:=HK3.out.hw.ow.o
   rw [hov] at h1
   have h2:=h1.1
   exact ⟨_,by rw [h1.cellAt av (by have:=HlO.out;omega)];exact List.getElem?_eq_getElem (by have:=HlO.out;omega)⟩
  have f0:w3.frozen? ⟨bo,av,none⟩=false:=by
   have h1:=HK3.out.hw.ow.o
   rw [hov] at h1
   exact h1.frozenAt av
  have a2:=HX3.out.cell 2 rfl
  have a3:=HX3.out.cell 3 rfl
  have q1:(0:Int)≤(av:Int):=by omega
  have q2:(av:Int)<(p.o.n:Int):=by have:=HlO.out;omega
  have S8:(w3.cell? ⟨G,1,none⟩=some (.slice (some ⟨bo,0,none⟩) p.o.n p.o.c)∧w3.cell? ⟨U.heap.size,2,none⟩=some (.int .i64 (av:Int))∧w3.cell? ⟨U.heap.size,3,none⟩=some (.int .i64 ((s:Int)+1))):=⟨g1,a2,a3⟩
  have HS8:Hid (∀ z:Value,((w3.setCell ⟨bo,av,none⟩ z).drew.cell? ⟨G,1,none⟩=some (.slice (some ⟨bo,0,none⟩) p.o.n p.o.c)∧(w3.setCell ⟨bo,av,none⟩ z).drew.cell? ⟨U.heap.size,2,none⟩=some (.int .i64 (av:Int))∧(w3.setCell ⟨bo,av,none⟩ z).drew.cell? ⟨U.heap.size,3,none⟩=some (.int .i64 ((s:Int)+1)))):=fun z=>by
   have X:=((HX3.out).setO (G:=bo) (j:=av) z (by first | exact HboA.out | exact HboA.out.symm))
   have Y:=((HK3.out).bx.setO (G:=bo) (j:=av) z (by first | exact HboG.out | exact HboG.out.symm))
   exact ⟨by rw [← hov];exact Y.cell 1 rfl,X.cell 2 rfl,X.cell 3 rfl⟩
  have HEa:=hideIt (And.intro ea (And.intro hov hoB))
  clear g1 a2 a3 HS7 HVa c7 HK2 HX2 HO2 HB2 HL2 HGW b3 ea hov hoB
  go_upto_region 8 with fail
  have hx0':w3.drew.cell? ⟨bo,av,none⟩=some x0:=hx0
  have f0':w3.drew.frozen? ⟨bo,av,none⟩=false:=f0
  go_region_held3 (fun v=>v.cell? ⟨G,1,none⟩=some (.slice (some ⟨bo,0,none⟩) p.o.n p.o.c)∧v.cell? ⟨U.heap.size,2,none⟩=some (.int .i64 (av:Int))∧v.cell? ⟨U.heap.size,3,none⟩=some (.int .i64 ((s:Int)+1))) (first | exact S8 | exact HS8.out _) (fail)
  obtain ⟨w4,hw4⟩:=ex0 ((w3.setCell ⟨bo,av,none⟩ (.int .i64 ((s:Int)+1))).drew)
  rw [← hw4]
  have bd:=(Below.refl (w3.setCell ⟨bo,av,none⟩ (.int .i64 ((s:Int)+1))).heap.size (w3.setCell ⟨bo,av,none⟩ (.int .i64 ((s:Int)+1)))).drew
  have gs4:=grownSet w3 bo av (.int .i64 ((s:Int)+1))
  have s3:(w3.setCell ⟨bo,av,none⟩ (.int .i64 ((s:Int)+1))).heap.size=w3.heap.size:=by simp [World.setCell]
  have HK4:Hid (HX lo w4 G (ownS h av ((s:Int)+1)) p R):=by rw [hw4];exact (HK3.out.setOwn HEa.out.1 av _).up bd
  have HX4:Hid (BxA w4 U.heap.size 28 #[.int .i64 i,.int .i64 4,.int .i64 (av:Int),.int .i64 ((s:Int)+1)]):=by rw [hw4];exact (HX3.out.setO (G:=bo) (j:=av) _ (by first | exact HboA.out | exact HboA.out.symm)).up bd
  have HO4:Hid (w4.ownsRow W.heap.size 107 2 (.slice ra rm rc) rm (O.ecells fs)):=by
   rw [hw4]
   exact own_up (own_keepR HO3.out HK3.out.hw.ow.o (by decide) (by rw [HEa.out.2.2];exact gs4)) bd
  have s4:w4.heap.size=w3.heap.size:=by rw [hw4];exact s3
  have HB4:Hid (Below lo U w4):=by
   rw [hw4]
   exact (Below.setCell HB3.out (p:=⟨bo,av,none⟩) (HK3.out.hw.ow.o.lt bo HEa.out.2.2).1 _).trans (bd.mono (by rw [s3];exact HL3.out))
  have HL4:Hid (lo≤w4.heap.size):=by show _≤_;rw [s4];exact HL3.out
  have HG4:Hid (W.heap.size≤w4.heap.size):=by show _≤_;rw [s4];exact HG3.out
  clear hw4 bd gs4 s3 hx0 hx0' f0 f0' S8 HS8 HK3 HX3 HO3 HB3 HL3 HG3 s4 lbo
  have g14:∀ u,Good w4 u→u.cell? ⟨G,1,none⟩=some (.slice (some ⟨bo,0,none⟩) p.o.n p.o.c):=fun u hu=>by rw [← HEa.out.2.1];exact (HK4.out.up hu).bx.cell 1 rfl
  have HC:Hid (∀ u,Good w4 u→u.cell? ⟨G,1,none⟩=some (.slice (some ⟨bo,0,none⟩) p.o.n p.o.c)∧u.cell? ⟨U.heap.size,3,none⟩=some (.int .i64 ((s:Int)+1))):=fun u hu=>⟨g14 u hu,(HX4.out.up hu).cell 3 rfl⟩
  have hS9:=HC.out _ (Below.refl w4.heap.size w4).drew
  have HIn:Hid (∀ u,Good w4 u→Calls Tryz.prog 140 #[.slice (some ⟨bo,0,none⟩) p.o.n p.o.c,.slice ra rm rc,.int .i64 ((s:Int)+1)] u fun e v=>∃ ia im ic2,e=.returned (.slice ia im ic2)∧v.ownsRow u.heap.size 107 2 (.slice ia im ic2) im (O.ecells ins)∧Below u.heap.size u v):=fun u hu=>by
   have hI:=(HK4.out.up hu).hw.ow.inn.o
   rw [HEa.out.1] at hI
   have h1:=O.iInside_any (ownS h av ((s:Int)+1)).own p.o.n (some ⟨bo,0,none⟩) p.o.c fs rm ra rc ((s:Int)+1) (by have:=HO4.out.1;rw [O.ecells_length] at this;have:=(O.eOk_parts Hfs.out).2.2;omega) u hI (O.Es_of_own (own_up HO4.out hu))
   rw [show O.insE (ownS h av ((s:Int)+1)).own fs ((s:Int)+1)=ins by rw [Hins.out];unfold mvI ownS;rw [Int.toNat_natCast]] at h1
   exact h1
  have HAft:Hid (∀ (x:World) (bT:Nat) (ia:Option Addr) (im ic2:Nat),Good w4 x→BxA x bT 25 #[.slice ia im ic2]→x.ownsRow w4.heap.size 107 2 (.slice ia im ic2) im (O.ecells ins) →
    Calls Tryz.prog 141 #[.slice ra rm rc,.func (.func 142) #[] #[.pointer (some ⟨bT,0,none⟩)]] x fun e x2=>∃ a2 m2 k2,e=.returned (.slice a2 m2 k2)∧x.grownBy x2 (Value.slice ra rm rc).ownBlock∧MvT lo U G U.heap.size bT i av s h fs ins ia im ic2 a2 m2 k2 x2):=fun x bT ia im ic2 gx Xt ox=>by
   have ofs:=own_up HO4.out gx
   have hrm:rm≤66:=by have:=HO4.out.1;rw [O.ecells_length] at this;have:=(O.eOk_parts Hfs.out).2.2;omega
   have him:im≤66:=by have:=ox.1;rw [O.ecells_length] at this;have h3:=(O.eOk_parts (mvI_ok (h:=h) (a:=(av:Int)) (b:=(s:Int)+1) Hfs.out)).2.2;rw [← Hins.out] at h3;omega
   have nfi:∀ b,(Value.slice ia im ic2).ownBlock=some b→(Value.slice ra rm rc).ownBlock≠some b:=fun b h1 h2=>by have e1:=(ox.lt b h1).1;have e2:=(HO4.out.lt b h2).2;omega
   refine (delFE_row fs (O.hasB ins) W.heap.size ra rm rc bT (by omega) x ofs fun y hy u hu=>?_).mono fun e x2 ⟨a2,m2,k2',h1,h2,h3,h4⟩=>⟨a2,m2,k2',h1,h3,?_⟩
   ·exact moveIt_any y bT ins ia im ic2 (by omega) u (Xt.grown hu (row_neB ofs Xt (by decide))) (O.Es_of_own (World.ownsRow.kept ox hu (by
     cases hb:(Value.slice ia im ic2).ownBlock with
     | none=>exact .inl rfl
     | some b=>exact .inr fun e2=>nfi b hb e2.symm)))
   ·have kx:=HK4.out.up gx
    have lox:lo≤x.heap.size:=Nat.le_trans HL4.out gx.size
    have k2:=kx.keepE ofs (fun b h5 h6=>by have:=HCb.out.1 b h6;have:=(ofs.lt b h5).1;omega) (fun b h5 h6=>by have:=HCb.out.2 b h6;have:=(ofs.lt b h5).1;omega) h3
    have b2:Below lo U x2:=(HB4.out.trans (gx.mono HL4.out)).grown h3 (Nat.le_trans (Nat.le_trans HlU.out (Nat.le_of_lt HLU.out)) (Nat.le_trans HG4.out gx.size)) (fun j hj=>by have:=(ofs.lt j hj).1;have:=HlU.out;have:=HLU.out;omega)
    have l2:lo≤x2.heap.size:=Nat.le_trans lox h3.size
    have k3:=k2.cutted (own_mono h2 (Nat.le_trans HlU.out (Nat.le_of_lt HLU.out))) (fun b h5 h6=>by rw [h4] at h5;have:=HCb.out.2 b h6;have:=(ofs.lt b h5).1;omega)
    have b3:Below lo U (x2.setCell ⟨G,2,none⟩ (.slice a2 m2 k2')):=Below.setCell b2 (p:=⟨G,2,none⟩) kx.ge _
    have l3:lo≤(x2.setCell ⟨G,2,none⟩ (.slice a2 m2 k2')).heap.size:=by simpa [World.setCell] using l2
    have neT:bT≠G:=fun e=>by
     have h5:=kx.bx
     unfold BxA at h5 Xt
     rw [e,h5] at Xt
     simp at Xt
    have Xt2:BxA (x2.setCell ⟨G,2,none⟩ (.slice a2 m2 k2')) bT 25 #[.slice ia im ic2]:=(Xt.grown h3 (row_neB ofs Xt (by decide))).setO _ neT
    have XA2:BxA (x2.setCell ⟨G,2,none⟩ (.slice a2 m2 k2')) U.heap.size 28 #[.int .i64 i,.int .i64 4,.int .i64 (av:Int),.int .i64 ((s:Int)+1)]:=((HX4.out.up gx).grown h3 (row_neB ofs (HX4.out.up gx) (by decide))).setO _ HUG.out
    have ox2:x2.ownsRow w4.heap.size 107 2 (.slice ia im ic2) im (O.ecells ins):=World.ownsRow.kept ox h3 (by
     cases hb:(Value.slice ia im ic2).ownBlock with
     | none=>exact .inl rfl
     | some b=>exact .inr fun e2=>nfi b hb e2.symm)
    have ox3:=own_keepG ox2 k2.bx (by decide) (grownSet x2 G 2 (.slice a2 m2 k2'))
    have eC:withCuts (ownS h av ((s:Int)+1)) (fs.filter fun e=>!O.hasB ins e)=ownH h (av:Int) ((s:Int)+1) (mvC h (av:Int) ((s:Int)+1) fs):=by rw [ownH_eq,Int.toNat_natCast,Hins.out];rfl
    rw [eC] at k3
    refine ⟨⟨k2.bx.frozen 2,⟨_,k2.bx.cell 2 rfl⟩,k2.bx.lt⟩,⟨Xt2.cell 0 rfl,fun _=>?_,fun _=>?_,XA2.cell 0 rfl,XA2.cell 1 rfl,XA2.cell 2 rfl,XA2.cell 3 rfl⟩⟩
    ·exact (pSay_any i 4 (av:Int) ((s:Int)+1) 1 _ k3 l3 hsl).mono fun e v ⟨h5,⟨g,c,h6⟩,h7⟩=>⟨h5,h5,⟨_,_,h6⟩,b3.trans h7⟩
    ·exact (pOrder_any i 4 (av:Int) ((s:Int)+1) s 0 4 0 ins ia im ic2 _ k3 l3 hsN hs3 HNm.out (own_mono ox3 HL4.out) (fun b h5 h6=>by
      have h8:(Value.slice a2 m2 k2').ownBlock=some b:=h5
      rw [h4] at h8
      exact nfi b h6 h8)).mono fun e v ⟨h5,h6,h7⟩=>⟨h5,h5,⟨_,_,h6⟩,b3.trans h7⟩
  go_upto_region 9 with fail
  (
  apply viaT
  intro t7_8_
  apply viaT
  intro t8_
  apply viaT
  intro t7_
  focus (
  refine wp_region_held_drew (S:=(fun u=>u.cell? ⟨G,1,none⟩=some (.slice (some ⟨bo,0,none⟩) p.o.n p.o.c)∧u.cell? ⟨U.heap.size,3,none⟩=some (.int .i64 ((s:Int)+1)))) (by kernel_rfl) hS9 (fun hHeld=>?_)
  refine tq0 (i:=0) (v:=?_) rfl ?_ (by assumption) ?_
  rotate_left
  ·intro w hSw;(try dsimp only at hSw);go_simp;try with_reducible rfl
  try simp only [Act.put,pU0]
  refine tq0 (i:=1) (v:=?_) rfl ?_ (by assumption) ?_
  rotate_left
  ·intro w hSw;(try dsimp only at hSw);go_simp;try with_reducible rfl
  try simp only [Act.put,pU0]
  refine tq0 (i:=2) (v:=?_) rfl ?_ (by assumption) ?_
  rotate_left
  ·intro w hSw;(try dsimp only at hSw);go_simp;try with_reducible rfl
  try simp only [Act.put,pU0]
  refine tq0 (i:=3) (v:=?_) rfl ?_ (by assumption) ?_
  rotate_left
  ·intro w hSw;(try dsimp only at hSw);go_simp;try with_reducible rfl
  try simp only [Act.put,pU0]
  refine tq0 (i:=4) (v:=?_) rfl ?_ (by assumption) ?_
  rotate_left
  ·intro w hSw;(try dsimp only at hSw);go_simp;try with_reducible rfl
  try simp only [Act.put,pU0]
  refine tq0 (i:=5) (v:=?_) rfl ?_ (by assumption) ?_
  rotate_left
  ·intro w hSw;(try dsimp only at hSw);go_simp;try with_reducible rfl
  try simp only [Act.put,pU0]
  refine tq0 (i:=6) (v:=?_) rfl ?_ (by assumption) ?_
  rotate_left
  ·intro w hSw;(try dsimp only at hSw);go_simp;try with_reducible rfl
  try simp only [Act.put,pU0]
  obtain ⟨y,hy⟩:=ex0 (w4.drew)
  have GU:Good w4 y:=by rw [hy];exact (Good.refl _).drew
  rw [← hy]
  clear hy hHeld
  refine wpAnyH_ready (rs:=[7,8]) (by kernel_rfl) (by simp) ?_
  refine AllReadyH.cons rfl (fun K hK=>?_) (AllReadyH.cons rfl (fun K hK=>?_) AllReadyH.nil)
  focus (
  rw [if_pos]
  rotate_left
  ·kernel_rfl
  have HCall:=hideIt (HIn.out _ GU)
  go_wp2_with (go_at_call 140;refine HCall.out.mono ?_;rintro e z ⟨ia,im,ic2,rfl,ho,gg⟩;refine Hid.out ?_)
  refine hidp ?_
  refine hK.out _ _ (HC.out _ (Good.up GU gg)) (fun hHeld=>?_)
  clear hK K HCall
  try simp only [Act.put,pU0]
  have OA:=own_mono ho GU.size
  clear ho
  replace GU:=Good.up GU gg
  clear gg
  clear hHeld
  refine lstH (l':=#[true,true,true,true,true,true,true,true,false,false]) (by kernel_rfl) ?_
  have F:=And.intro GU OA
  clear GU OA
  revert F
  revert ic2
  revert im
  revert ia
  revert z
  exact t7_.out
  )
  focus (
  go_simp
  refine hK.out _ _ (HC.out _ (GU.alloc _)) (fun hHeld=>?_)
  clear hK K
  try simp only [Act.put,pU0]
  obtain ⟨z,hz⟩:=ex0 (y.alloc (.cells #[.slice none 0 0] 25))
  have gg:=bz0 hz
  have XB:BxA z y.heap.size 25 #[.slice none 0 0]:=by rw [hz];exact BxA.new _ _ _
  have LB:w4.heap.size≤y.heap.size:=GU.size
  replace GU:=Good.up GU gg
  rw [← hz]
  clear hz gg hHeld
  generalize y.heap.size=bT at *
  refine lstH (l':=#[true,true,true,true,true,true,true,false,true,false]) (by kernel_rfl) ?_
  have F:=And.intro GU (And.intro XB LB)
  clear GU XB LB
  revert F
  revert bT
  revert z
  exact t8_.out
  )
  )
  focus (
  intro y ia im ic2 F
  obtain ⟨GU,OA⟩:=F
  have hHeld:=HC.out _ GU
  clear hHeld
  refine wr0 (i:=8) rfl (fun K hK=>?_)
  focus (
  go_simp
  refine hK.out _ _ (HC.out _ (GU.alloc _)) (fun hHeld=>?_)
  clear hK K
  try simp only [pU0]
  obtain ⟨z,hz⟩:=ex0 (y.alloc (.cells #[.slice none 0 0] 25))
  have gg:=bz0 hz
  have XB:BxA z y.heap.size 25 #[.slice none 0 0]:=by rw [hz];exact BxA.new _ _ _
  have LB:w4.heap.size≤y.heap.size:=GU.size
  replace GU:=Good.up GU gg
  replace OA:=own_up OA gg
  rw [← hz]
  clear hz gg hHeld
  generalize y.heap.size=bT at *
  refine lstH (l':=#[true,true,true,true,true,true,true,true,true,false]) (by kernel_rfl) ?_
  have F:=And.intro GU (And.intro XB (And.intro LB OA))
  clear GU XB LB OA
  revert F
  revert ic2
  revert im
  revert ia
  revert bT
  revert z
  exact t7_8_.out
  )
  )
  focus (
  intro y bT F
  obtain ⟨GU,XB,LB⟩:=F
  have hHeld:=HC.out _ GU
  clear hHeld
  refine wr0 (i:=7) rfl (fun K hK=>?_)
  focus (
  rw [if_pos]
  rotate_left
  ·kernel_rfl
  have HCall:=hideIt (HIn.out _ GU)
  go_wp2_with (go_at_call 140;refine HCall.out.mono ?_;rintro e z ⟨ia,im,ic2,rfl,ho,gg⟩;refine Hid.out ?_)
  refine hidp ?_
  refine hK.out _ _ (HC.out _ (Good.up GU gg)) (fun hHeld=>?_)
  clear hK K HCall
  try simp only [pU0]
  have OA:=own_mono ho GU.size
  clear ho
  replace GU:=Good.up GU gg
  replace XB:=XB.up gg
  clear gg
  clear hHeld
  refine lstH (l':=#[true,true,true,true,true,true,true,true,true,false]) (by kernel_rfl) ?_
  have F:=And.intro GU (And.intro XB (And.intro LB OA))
  clear GU XB LB OA
  revert F
  revert ic2
  revert im
  revert ia
  revert bT
  revert z
  exact t7_8_.out
  )
  )
  focus (
  intro y bT ia im ic2 F
  obtain ⟨GU,XB,LB,OA⟩:=F
  have hHeld:=HC.out _ GU
  refine wr0 (i:=9) rfl (fun K hK=>?_)
  have q0:=XB.cell 0 rfl
  have f0:=XB.frozen 0
  have lB:=XB.lt
  go_simp
  obtain ⟨x,hx⟩:=ex0 (y.setCell ⟨bT,0,none⟩ (.slice ia im ic2))
  have GX:Good w4 x:=by rw [hx];exact Below.setCell GU (p:=⟨bT,0,none⟩) LB _
  have XX:BxA x bT 25 #[.slice ia im ic2]:=by rw [hx];exact XB.set 0 (.slice ia im ic2)
  have OX:x.ownsRow w4.heap.size 107 2 (.slice ia im ic2) im (O.ecells ins):=by
   rw [hx]
   have ne:(Value.slice ia im ic2).ownBlock≠some bT:=fun e=>by
    rcases OA.2 with ⟨hv,_⟩ | ⟨g,cap,cur,hv,_,hc,_⟩
    ·rw [hv] at e;simp [Value.ownBlock] at e
    ·rw [hv] at e;simp [Value.ownBlock] at e;subst e;unfold BxA at XB;rw [hc] at XB;simp at XB
   exact World.ownsRow.kept OA (grownSet _ _ _ _) (.inr ne)
  refine hK.out _ _ (by rw [← hx];exact HC.out _ GX) (fun hHeld=>?_)
  clear hK K
  try simp only [pU0]
  rw [← hx] at hHeld ⊢
  clear hx q0 f0 lB XB OA GU
  refine wpAnyH_done (by kernel_rfl) ?_ _
  clear hHeld
  have HF:=hideIt (HAft.out x bT ia im ic2 GX XX OX)
  have HXt:=hideIt XX
  have HOt:=hideIt OX
  have HGt:=hideIt GX
  clear XX OX GX
  go_upto_region 10 with fail
  go_wp2_with (go_at_call 141;refine HF.out.mono ?_;rintro e x2 ⟨a2,m2,k2,rfl,gx2,HT2⟩;refine Hid.out ?_)
  refine hidp20 ?_
  obtain ⟨f2,⟨o2,c2'⟩,l2⟩:=HT2.cell
  have HTB:=hideIt HT2.rest
  clear HF gx2 HT2
  obtain ⟨x3,hx3⟩:=ex0 (x2.setCell ⟨G,2,none⟩ (.slice a2 m2 k2))
  go_upto_region 11 with fail
  rw [← hx3] at HTB ⊢
  clear hx3 f2 c2' l2
  obtain ⟨t0,HSy,HOr,a0,a1,a2',a3⟩:=HTB.out
  have HSO:=hideIt (And.intro HSy HOr)
  clear HTB HSy HOr
  have HLn:Hid (ins.length=im):=by show _=_;have:=HOt.out.1;rw [O.ecells_length] at this;omega
  by_cases h0:im=0
  ·have d0:decide ((0:Int)<(im:Int))=false:=decide_eq_false (by omega)
   have d1:decide (0<im)=false:=decide_eq_false (by omega)
   have d2:¬ 0<im:=by omega
   have HSy:=hideIt (HSO.out.1 h0)
   have HT0:=hideIt (HTs.out.trans (if_pos (show ins.length=0 by rw [HLn.out];exact h0)))
   clear HSO HLn h0 HOt HTs
   go_upto_region 13 with fail
   go_wp2_with (go_at_call 111;refine HSy.out.mono ?_;rintro e v ⟨rfl,hm⟩;refine Hid.out ?_)
   refine hidp20 ?_
   clear a0 a1 a2' a3 t0
   go_wp2
   go_ret
   rw [HT0.out]
   exact hm
  ·have d0:decide ((0:Int)<(im:Int))=true:=decide_eq_true (by omega)
   have d1:decide (0<im)=true:=decide_eq_true (by omega)
   have d2:0<im:=by omega
   have HSy:=hideIt (HSO.out.2 h0)
   have HT0:=hideIt (HTs.out.trans (if_neg (show ¬ ins.length=0 by rw [HLn.out];exact h0)))
   clear HSO HLn h0 HOt HTs
   go_upto_region 12 with fail
   go_wp2_with (go_at_call 138;refine HSy.out.mono ?_;rintro e v ⟨rfl,hm⟩;refine Hid.out ?_)
   refine hidp20 ?_
   clear a0 a1 a2' a3 t0
   go_wp2
   go_ret
   rw [HT0.out]
   exact hm
  )
  )
  )
set_option maxRecDepth 100000 in
set_option maxHeartbeats 4000000 in
theorem pMvY_any {lo G:Nat} {h:Hd} {p:Hp} {R:List Rw} (i a b:Int) (aE:Option Addr) (nE cE:Nat) (U:World) (k:HX lo U G h p R) (hop:h.op=4) (hl:lo≤U.heap.size) (hsl:p.s.n≤1000) :
  Calls Tryz.prog 119 #[.pointer (some ⟨G,0,none⟩),.agg #[.int .i64 i,.int .i64 4,.int .i64 a,.int .i64 b],.slice aE nE cE] U fun e v=>MvA lo U G (sayH h i 4 a b 1) 1 e v:=by
 obtain ⟨W,hW⟩:=ex0 (U.alloc (.cells #[.int .i64 i,.int .i64 4,.int .i64 a,.int .i64 b] 28))
 have bW:Below U.heap.size U W:=by rw [hW];exact belA _ _
 have XA:BxA W U.heap.size 28 #[.int .i64 i,.int .i64 4,.int .i64 a,.int .i64 b]:=by rw [hW];exact BxA.new _ _ _
 have HB:Hid (Below lo U W):=bW.mono hl
 have lG:G<W.heap.size:=(k.bx.up bW).lt
 have g11:W.cell? ⟨G,11,none⟩=some (.int .i64 4):=by rw [← hop];exact (k.bx.up bW).cell 11 rfl
 have HS:=hideIt (pSay_any i 4 a b 1 W (k.up bW) (Nat.le_trans hl bW.size) hsl)
 have a0:=XA.cell 0 rfl
 have a1:=XA.cell 1 rfl
 have a2:=XA.cell 2 rfl
 have a3:=XA.cell 3 rfl
 clear XA k bW hop
 go_enter Tryz.func119,Tryz.ntmps119
 go_upto_region 1 with fail
 rw [← hW]
 clear hW
 go_upto_region 13 with fail
 go_wp2_with (go_at_call 111;refine HS.out.mono ?_;rintro e v ⟨rfl,⟨g,c,hk⟩,hb⟩;refine Hid.out ?_)
 refine hidp20 ?_
 have HE:=hideIt (HB.out.trans hb)
 clear hb a0 a1 a2 a3 g11
 go_wp2
 go_ret
 exact ⟨rfl,⟨_,_,hk⟩,HE.out⟩
set_option maxRecDepth 100000 in
set_option maxHeartbeats 4000000 in
theorem pGo1 {lo G:Nat} {h:Hd} {p:Hp} {R:List Rw} (num:Int) (ok:Bool) (aE:Option Addr) (nE cE:Nat) (aL:Option Addr) (nL cL:Nat) (U:World) (k:HX lo U G h p R) (ho:h.o=1) (hl:lo≤U.heap.size) (hsl:p.s.n≤1000) :
  Calls Tryz.prog 95 #[.pointer (some ⟨G,0,none⟩),.agg #[.int .i64 num,.bool ok,.slice aE nE cE,.slice aL nL cL]] U fun e v=>MvA lo U G (sayH h h.i 1 h.a h.b (if ok then 1 else 2)) 1 e v:=by
 obtain ⟨sv,hsv⟩:∃ sv:Int,(if ok then 1 else 2)=sv:=⟨_,rfl⟩
 rw [hsv]
 obtain ⟨W,hW⟩:=ex0 (U.alloc (.cells #[.int .i64 num,.bool ok,.slice aE nE cE,.slice aL nL cL] 60))
 have bW:Below U.heap.size U W:=by rw [hW];exact belA _ _
 have XN:BxA W U.heap.size 60 #[.int .i64 num,.bool ok,.slice aE nE cE,.slice aL nL cL]:=by rw [hW];exact BxA.new _ _ _
 have lG:G<W.heap.size:=(k.bx.up bW).lt
 have g5:=(k.bx.up bW).cell 5 rfl
 have g6:W.cell? ⟨G,6,none⟩=some (.int .i64 1):=by rw [← ho];exact (k.bx.up bW).cell 6 rfl
 have g7:=(k.bx.up bW).cell 7 rfl
 have g8:=(k.bx.up bW).cell 8 rfl
 obtain ⟨V,hV⟩:=ex0 (W.alloc (.cells #[.int .i64 h.i,.int .i64 1,.int .i64 h.a,.int .i64 h.b] 28))
 have bV:Below W.heap.size W V:=by rw [hV];exact belA _ _
 have XA:BxA V W.heap.size 28 #[.int .i64 h.i,.int .i64 1,.int .i64 h.a,.int .i64 h.b]:=by rw [hV];exact BxA.new _ _ _
 have c2:Below U.heap.size U V:=bW.trans (bV.mono bW.size)
 have HB:Hid (Below lo U V):=c2.mono hl
 have lV:lo≤V.heap.size:=Nat.le_trans hl c2.size
 have HS:Hid (Calls Tryz.prog 118 #[.pointer (some ⟨G,0,none⟩),.agg #[.int .i64 h.i,.int .i64 1,.int .i64 h.a,.int .i64 h.b],.bool ok] V fun e v=>e=.returned (.int .i64 1)∧(∃ p R,HX lo v G (sayH h h.i 1 h.a h.b sv) p R)∧Below lo V v):=by
  rw [← hsv]
  exact (pSayWh_any h.i 1 h.a h.b ok V (k.up c2) lV hsl).mono fun e v ⟨h1,⟨g,c,h2⟩,h3⟩=>⟨h1,⟨_,_,h2⟩,h3⟩
 have a0:=XA.cell 0 rfl
 have a1:=XA.cell 1 rfl
 have a2:=XA.cell 2 rfl
 have a3:=XA.cell 3 rfl
 have n1:V.cell? ⟨U.heap.size,1,none⟩=some (.bool ok):=(XN.up bV).cell 1 rfl
 clear XA XN bW bV c2 lV k hsv
 go_enter Tryz.func95,Tryz.ntmps95
 go_upto_region 1 with fail
 rw [← hW]
 clear hW
 go_upto_region 2 with fail
 rw [← hV]
 clear hV g5 g6 g7 g8
 go_upto_region 5 with fail
 go_wp2_with (go_at_call 118;refine HS.out.mono ?_;rintro e v ⟨rfl,hk,hb⟩;refine Hid.out ?_)
 refine hidp20 ?_
 have HE:=hideIt (HB.out.trans hb)
 clear hb a0 a1 a2 a3 n1
 go_wp2
 go_ret
 exact ⟨rfl,hk,HE.out⟩
set_option maxRecDepth 100000 in
set_option maxHeartbeats 4000000 in
theorem pGo2 {lo G:Nat} {h:Hd} {p:Hp} {R:List Rw} (num:Int) (ok:Bool) (aE:Option Addr) (nE cE:Nat) (aL:Option Addr) (nL cL:Nat) (U:World) (k:HX lo U G h p R) (ho:h.o=2) (hl:lo≤U.heap.size) (hsl:p.s.n≤1000) :
  Calls Tryz.prog 95 #[.pointer (some ⟨G,0,none⟩),.agg #[.int .i64 num,.bool ok,.slice aE nE cE,.slice aL nL cL]] U fun e v=>MvA lo U G (sayH h h.i 2 h.a h.b (if ok then 1 else 2)) 1 e v:=by
 obtain ⟨sv,hsv⟩:∃ sv:Int,(if ok then 1 else 2)=sv:=⟨_,rfl⟩
 rw [hsv]
 obtain ⟨W,hW⟩:=ex0 (U.alloc (.cells #[.int .i64 num,.bool ok,.slice aE nE cE,.slice aL nL cL] 60))
 have bW:Below U.heap.size U W:=by rw [hW];exact belA _ _
 have XN:BxA W U.heap.size 60 #[.int .i64 num,.bool ok,.slice aE nE cE,.slice aL nL cL]:=by rw [hW];exact BxA.new _ _ _
 have lG:G<W.heap.size:=(k.bx.up bW).lt
 have g5:=(k.bx.up bW).cell 5 rfl
 have g6:W.cell? ⟨G,6,none⟩=some (.int .i64 2):=by rw [← ho];exact (k.bx.up bW).cell 6 rfl
 have g7:=(k.bx.up bW).cell 7 rfl
 have g8:=(k.bx.up bW).cell 8 rfl
 obtain ⟨V,hV⟩:=ex0 (W.alloc (.cells #[.int .i64 h.i,.int .i64 2,.int .i64 h.a,.int .i64 h.b] 28))
 have bV:Below W.heap.size W V:=by rw [hV];exact belA _ _
 have XA:BxA V W.heap.size 28 #[.int .i64 h.i,.int .i64 2,.int .i64 h.a,.int .i64 h.b]:=by rw [hV];exact BxA.new _ _ _
 have c2:Below U.heap.size U V:=bW.trans (bV.mono bW.size)
 have HB:Hid (Below lo U V):=c2.mono hl
 have lV:lo≤V.heap.size:=Nat.le_trans hl c2.size
 have HS:Hid (Calls Tryz.prog 118 #[.pointer (some ⟨G,0,none⟩),.agg #[.int .i64 h.i,.int .i64 2,.int .i64 h.a,.int .i64 h.b],.bool ok] V fun e v=>e=.returned (.int .i64 1)∧(∃ p R,HX lo v G (sayH h h.i 2 h.a h.b sv) p R)∧Below lo V v):=by
  rw [← hsv]
  exact (pSayWh_any h.i 2 h.a h.b ok V (k.up c2) lV hsl).mono fun e v ⟨h1,⟨g,c,h2⟩,h3⟩=>⟨h1,⟨_,_,h2⟩,h3⟩
 have a0:=XA.cell 0 rfl
 have a1:=XA.cell 1 rfl
 have a2:=XA.cell 2 rfl
 have a3:=XA.cell 3 rfl
 have n1:V.cell? ⟨U.heap.size,1,none⟩=some (.bool ok):=(XN.up bV).cell 1 rfl
 clear XA XN bW bV c2 lV k hsv
 go_enter Tryz.func95,Tryz.ntmps95
 go_upto_region 1 with fail
 rw [← hW]
 clear hW
 go_upto_region 2 with fail
 rw [← hV]
 clear hV g5 g6 g7 g8
 go_upto_region 5 with fail
 go_wp2_with (go_at_call 118;refine HS.out.mono ?_;rintro e v ⟨rfl,hk,hb⟩;refine Hid.out ?_)
 refine hidp20 ?_
 have HE:=hideIt (HB.out.trans hb)
 clear hb a0 a1 a2 a3 n1
 go_wp2
 go_ret
 exact ⟨rfl,hk,HE.out⟩
set_option maxRecDepth 100000 in
set_option maxHeartbeats 4000000 in
theorem pGo4 {lo G S:Nat} {h:Hd} {p:Hp} {R:List Rw} (num:Int) (ok:Bool) (es:List O.EdgeV) (aE:Option Addr) (nE cE:Nat) (aL:Option Addr) (nL cL:Nat) (U:World) (k:HX lo U G h p R) (ho:h.o=4) (q:HQ S h) (hop:h.op=3∨h.op=4) (hl:lo≤U.heap.size) (ha:0≤h.a∧h.a<h.N) (hb:1≤h.b∧h.b≤(S:Int)) (hnum:∀ y ∈ h.nums,0≤y∧y≤1000) (hsl:p.s.n≤1000) (hes:O.eOk h.N es=true) (hE:O.Es U U.heap.size aE nE es) (hz:aE=none→nE=0∧cE=0) :
  Calls Tryz.prog 95 #[.pointer (some ⟨G,0,none⟩),.agg #[.int .i64 num,.bool ok,.slice aE nE cE,.slice aL nL cL]] U fun e v=>MvA lo U G (if h.op=3 then mvH h h.i h.a h.b es else (sayH h h.i 4 h.a h.b 1,1)).1 (if h.op=3 then mvH h h.i h.a h.b es else (sayH h h.i 4 h.a h.b 1,1)).2 e v:=by
 obtain ⟨W,hW⟩:=ex0 (U.alloc (.cells #[.int .i64 num,.bool ok,.slice aE nE cE,.slice aL nL cL] 60))
 have bW:Below U.heap.size U W:=by rw [hW];exact belA _ _
 have XN:BxA W U.heap.size 60 #[.int .i64 num,.bool ok,.slice aE nE cE,.slice aL nL cL]:=by rw [hW];exact BxA.new _ _ _
 have lG:G<W.heap.size:=(k.bx.up bW).lt
 have g5:=(k.bx.up bW).cell 5 rfl
 have g6:W.cell? ⟨G,6,none⟩=some (.int .i64 4):=by rw [← ho];exact (k.bx.up bW).cell 6 rfl
 have g7:=(k.bx.up bW).cell 7 rfl
 have g8:=(k.bx.up bW).cell 8 rfl
 obtain ⟨V,hV⟩:=ex0 (W.alloc (.cells #[.int .i64 h.i,.int .i64 4,.int .i64 h.a,.int .i64 h.b] 28))
 have bV:Below W.heap.size W V:=by rw [hV];exact belA _ _
 have XA:BxA V W.heap.size 28 #[.int .i64 h.i,.int .i64 4,.int .i64 h.a,.int .i64 h.b]:=by rw [hV];exact BxA.new _ _ _
 have c2:Below U.heap.size U V:=bW.trans (bV.mono bW.size)
 have HB:Hid (Below lo U V):=c2.mono hl
 have lV:lo≤V.heap.size:=Nat.le_trans hl c2.size
 obtain ⟨T,hT⟩:=ex0 ((if h.op=3 then mvH h h.i h.a h.b es else (sayH h h.i 4 h.a h.b 1,1)))
 rw [← hT]
 have HS:Hid (Calls Tryz.prog 119 #[.pointer (some ⟨G,0,none⟩),.agg #[.int .i64 h.i,.int .i64 4,.int .i64 h.a,.int .i64 h.b],.slice aE nE cE] V fun e v=>e=.returned (.int .i64 T.2)∧(∃ p R,HX lo v G T.1 p R)∧Below lo V v):=by
  show Calls _ _ _ _ _
  rcases hop with h3 | h3
  ·rw [if_pos h3] at hT
   rw [hT]
   exact pMvR_any h.i h.a h.b es aE nE cE V (k.up c2) q h3 lV ha hb hnum hsl hes (hE.up c2) hz
  ·rw [if_neg (by omega)] at hT
   rw [hT]
   exact pMvY_any h.i h.a h.b aE nE cE V (k.up c2) h3 lV hsl
 have a0:=XA.cell 0 rfl
 have a1:=XA.cell 1 rfl
 have a2:=XA.cell 2 rfl
 have a3:=XA.cell 3 rfl
 have n1:V.cell? ⟨U.heap.size,2,none⟩=some (.slice aE nE cE):=(XN.up bV).cell 2 rfl
 clear XA XN bW bV c2 lV k hT q hop ha hb hnum hes hE hz
 go_enter Tryz.func95,Tryz.ntmps95
 go_upto_region 1 with fail
 rw [← hW]
 clear hW
 go_upto_region 2 with fail
 rw [← hV]
 clear hV g5 g6 g7 g8
 go_upto_region 7 with fail
 go_wp2_with (go_at_call 119;refine HS.out.mono ?_;rintro e v ⟨rfl,hk,hb⟩;refine Hid.out ?_)
 refine hidp20 ?_
 have HE:=hideIt (HB.out.trans hb)
 clear hb a0 a1 a2 a3 n1
 go_wp2
 go_ret
 exact ⟨rfl,hk,HE.out⟩
end Go.Proofs.YtnagchanokbgdaaGreat
