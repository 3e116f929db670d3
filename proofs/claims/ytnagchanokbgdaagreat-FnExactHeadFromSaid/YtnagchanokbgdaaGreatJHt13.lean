/- The specification's Take, of a head that records lead to. The specification's HeadNew. The specification's HeadFrom, its Decided. Marks in a new head's lists, and what stands of them. What is said, marked and held. markHead and heldHead of a new head. -/
import Derived.Test.YtnagchanokbgdaaGreatJGo20
import Derived.Test.YtnagchanokbgdaaGreatJHg21
import Derived.Test.YtnagchanokbgdaaGreatJSWl20
import Derived.Test.YtnagchanokbgdaaGreatJJh20
import Derived.Test.YtnagchanokbgdaaGreatJSq1
import Derived.Test.YtnagchanokbgdaaGreatJE6
import Derived.Test.YtnagchanokbgdaaGreatJSGraph
namespace Go.Proofs.YtnagchanokbgdaaGreat
open Go.RowKit
set_option maxRecDepth 100000 in
set_option maxHeartbeats 16000000 in
theorem sTake_no {S:Nat} {h:Hd} {p:Hp} (i o a b:Int) (w:World) (R0:HR S w h p) (hb:tkB h i=false) :
  Calls Tryz.prog 21 #[.agg (hC h p),.agg #[.int .i64 i,.int .i64 o,.int .i64 a,.int .i64 b]] w fun e w'=>TkA w (takeR h i o a b) e w':=by
 obtain ⟨T,hT⟩:=ex0 (takeR h i o a b)
 rw [← hT]
 have hln:=R0.inv.lens R0.inn
 obtain ⟨W,hW⟩:=ex0 (((w.alloc (.cells (hC h p) 35)).alloc (.cells #[.int .i64 i,.int .i64 o,.int .i64 a,.int .i64 b] 28)).alloc (.cells #[.int .i64 0,.slice none 0 0,.slice none 0 0,.slice none 0 0,.slice none 0 0,.int .i64 0,.int .i64 0,.int .i64 0,.int .i64 0,.int .i64 0,.int .i64 0,.int .i64 0,.slice none 0 0,.int .i64 0,.slice none 0 0] 35))
 have bW:Below w.heap.size w W:=by rw [hW];exact ((belA _ _).alloc (by simp) _).alloc (by simp;omega) _
 have X0:BxA W w.heap.size 35 (hC h p):=by rw [hW];exact ((BxA.new w _ _).up (belA _ _)).up (belA _ _)
 have X1:BxA W (w.heap.size+1) 28 #[.int .i64 i,.int .i64 o,.int .i64 a,.int .i64 b]:=by
  have q:=(BxA.new (w.alloc (.cells (hC h p) 35)) 28 #[.int .i64 i,.int .i64 o,.int .i64 a,.int .i64 b]).up (belA _ (.cells #[.int .i64 0,.slice none 0 0,.slice none 0 0,.slice none 0 0,.slice none 0 0,.int .i64 0,.int .i64 0,.int .i64 0,.int .i64 0,.int .i64 0,.int .i64 0,.int .i64 0,.slice none 0 0,.int .i64 0,.slice none 0 0] 35))
  rw [show (w.alloc (.cells (hC h p) 35)).heap.size=w.heap.size+1 by simp] at q
  rw [hW];exact q
 have X2:BxA W (w.heap.size+1+1) 35 (hC zeroH zeroP):=by
  have q:=BxA.new ((w.alloc (.cells (hC h p) 35)).alloc (.cells #[.int .i64 i,.int .i64 o,.int .i64 a,.int .i64 b] 28)) 35 #[.int .i64 0,.slice none 0 0,.slice none 0 0,.slice none 0 0,.slice none 0 0,.int .i64 0,.int .i64 0,.int .i64 0,.int .i64 0,.int .i64 0,.int .i64 0,.int .i64 0,.slice none 0 0,.int .i64 0,.slice none 0 0]
  rw [show ((w.alloc (.cells (hC h p) 35)).alloc (.cells #[.int .i64 i,.int .i64 o,.int .i64 a,.int .i64 b] 28)).heap.size=w.heap.size+1+1 by simp] at q
  rw [hW];exact q
 have HXs:=hideIt (And.intro X0 (And.intro X1 X2))
 have HB:=hideIt bW
 have HR:=hideIt (R0.up bW)
 have HL3:Hid (w.heap.size+3≤W.heap.size):=X2.lt
 have HCp:=hideIt (l12Copy_inv W HR.out)
 have HIo:=hideIt R0.inn.o
 have hsn:p.s.n≤80:=by omega
 have HSh:Hid (h.lab.length=p.l.n∧h.said.length=p.s.n):=⟨hln.2.2.2.2.2.2.2.1,hln.2.2.2.2.2.1⟩
 have HT:=hideIt hT
 clear bW R0 hln X1 X2 hT
 go_enter Tryz.func21,Tryz.ntmps21
 go_upto_region 1 with fail
 rw [← hW]
 clear hW
 refine wp_region_lit ?_
 go_step
 refine wp_loadH X0 rfl rfl ?_
 clear X0
 go_wp2_with (go_at_call 23;refine HCp.out.mono ?_;rintro e w2 ⟨p',R,rfl,hw,b2⟩;refine Hid.out ?_)
 refine hidp20 ?_
 go_step
 go_step
 go_step
 go_step
 go_step
 have T0:BxA (w2.alloc (.cells #[.int .i64 0,.slice none 0 0,.slice none 0 0,.slice none 0 0,.slice none 0 0,.int .i64 0,.int .i64 0,.int .i64 0,.int .i64 0,.int .i64 0,.int .i64 0,.int .i64 0,.slice none 0 0,.int .i64 0,.slice none 0 0] 35)) w2.heap.size 35 (hC zeroH zeroP):=BxA.new w2 _ _
 refine wp_storeH T0 rfl rfl rfl ?_
 intro v XV gv zv
 obtain ⟨G,hG⟩:=ex0 (w2.heap.size)
 have bv:Below w2.heap.size w2 v:=below_grB (belA w2 _) gv (Nat.le_refl _) (Nat.le_refl _)
 have b12:Below W.heap.size W v:=b2.trans (bv.mono b2.size)
 have KX:HX W.heap.size v G h p' R:=⟨by rw [hG];exact XV,by rw [hG];exact b2.size,hw.up bv⟩
 rw [← hG]
 have HK:=hideIt KX
 have HBv:=hideIt b12
 have HRv:=hideIt (HR.out.up b12)
 clear T0 XV gv zv hG bv hw b2 KX b12 HCp HR
 have hsn2:p'.s.n≤80:=by have h1:=HK.out.hw.ow.inn.s.1;have h2:=HSh.out.2;omega
 have HXv:=hideIt (And.intro (HXs.out.1.up HBv.out) (And.intro (HXs.out.2.1.up HBv.out) (HXs.out.2.2.up HBv.out)))
 have HBvw:Hid (Below w.heap.size w v):=HB.out.trans (HBv.out.mono HB.out.size)
 have HOk:=hideIt (sHeadOk_inv v HRv.out)
 have HNo:Hid (∀ u,Calls Tryz.prog 44 #[.int .i64 i,.int .i64 1,.int .i64 100000] u fun e w'=>e=.returned (.bool (decide (1≤i∧i≤100000)))∧w'=u):=fun u=>O.l01In_any i 1 100000 u
 have HSd:Hid (∀ u,Below v.heap.size v u→Calls Tryz.prog 47 #[.agg (hC h p),.int .i64 i] u fun e w'=>e=.returned (.int .i64 (plc h.said i))∧Below u.heap.size u w'):=fun u hu=>l12Said_any h p i (by omega) u (HRv.out.up hu).inn.s
 have HBu:Hid (∀ u,Calls Tryz.prog 48 #[.agg (hC h p)] u fun e w'=>e=.returned (.bool (h.sh != 0))∧Below u.heap.size u w'):=fun u=>sBusy_any h p u
 obtain ⟨y0,y1,y2,y3,y4,y5,y6,y7,y8,y9,y10,y11,y12,y13,y14⟩:=HXv.out.1.all15p
 have hb':=hb
 unfold tkB at hb'
 clear hb
 have HTb:=hideIt hb'
 clear hb'
 cases hct:ctB h with
 | false =>
  have HN:Hid (T=none):=by show T=none;rw [HT.out];exact takeR_none (by unfold tkB;rw [hct];rfl)
  rw [hct] at HOk
  clear HT
  go_upto_region 2 with fail
  go_wp2_with ((go_at_call 46;refine HOk.out.mono ?_;rintro e w3 ⟨rfl,b3⟩;have a0:=(HXv.out.2.1.up b3).cell 0 rfl;refine Hid.out ?_))
  refine hidp20 ?_
  have HXz:=hideIt (HK.out.up b3).bx
  have HRz:=hideIt (HXv.out.2.2.up b3)
  have HBw:=hideIt (HBvw.out.trans (b3.mono HBvw.out.size))
  clear y0 y1 y2 y3 y4 y5 y6 y7 y8 y9 y10 y11 y12 y13 y14 b3 a0
  go_upto_region 3 with fail
  refine wp_region_lit ?_
  go_step
  refine wp_loadH HXz.out rfl rfl ?_
  go_step
  go_step
  refine wp_storeH HRz.out rfl rfl rfl ?_
  intro vz XZ gz zz
  have HXZ:=hideIt XZ
  have HBz:=hideIt (below_grB HBw.out gz (show w.heap.size≤w.heap.size+1+1 by omega) (Nat.le_refl _))
  clear XZ gz zz
  go_wp2
  exact bodyPost_ret (results_H2 Tryz.results21 rfl rfl HXZ.out) rfl ⟨h,p',0,rfl,HBz.out,by rw [HN.out]⟩
 | true =>
  rw [hct] at HOk
  by_cases hi:1≤i∧i≤100000
  case neg =>
   rw [decide_eq_false hi] at HNo
   have HN:Hid (T=none):=by show T=none;rw [HT.out];exact takeR_none (by unfold tkB;rw [decide_eq_false (fun hh=>hi hh.1),Bool.and_false])
   have Hi:=hideIt hi;clear hi hct
   clear HT
   go_upto_region 2 with fail
   go_wp2_with (first
     | (go_at_call 46;refine HOk.out.mono ?_;rintro e w3 ⟨rfl,b3⟩;have a0:=(HXv.out.2.1.up b3).cell 0 rfl)
     | (go_at_call 44;refine (HNo.out _).mono ?_;rintro e w9 ⟨rfl,e9⟩;have e8:=e9.symm;subst e8;refine Hid.out ?_))
   refine hidp20 ?_
   have HXz:=hideIt (HK.out.up b3).bx
   have HRz:=hideIt (HXv.out.2.2.up b3)
   have HBw:=hideIt (HBvw.out.trans (b3.mono HBvw.out.size))
   clear y0 y1 y2 y3 y4 y5 y6 y7 y8 y9 y10 y11 y12 y13 y14 b3 a0
   go_upto_region 3 with fail
   refine wp_region_lit ?_
   go_step
   refine wp_loadH HXz.out rfl rfl ?_
   go_step
   go_step
   refine wp_storeH HRz.out rfl rfl rfl ?_
   intro vz XZ gz zz
   have HXZ:=hideIt XZ
   have HBz:=hideIt (below_grB HBw.out gz (show w.heap.size≤w.heap.size+1+1 by omega) (Nat.le_refl _))
   clear XZ gz zz
   go_wp2
   exact bodyPost_ret (results_H2 Tryz.results21 rfl rfl HXZ.out) rfl ⟨h,p',0,rfl,HBz.out,by rw [HN.out]⟩
  case pos =>
   rw [decide_eq_true hi] at HNo
   have HCI:=hideIt (And.intro hct hi)
   clear hct hi
   rcases plc_cases h.said i with hp | ⟨kq,hkq,hp⟩
   case inr =>
    rw [hp] at HSd
    have hdk:decide ((0:Int)≤(kq:Int))=true:=decide_eq_true (by omega)
    have HN:Hid (T=none):=by show T=none;rw [HT.out];exact takeR_none (by unfold tkB;rw [decide_eq_false (fun hh=>by have:=hh.2.1;omega),Bool.and_false])
    clear hp hkq
    clear HT
    go_upto_region 2 with fail
    go_wp2_with (first
      | (go_at_call 46;refine HOk.out.mono ?_;rintro e w3 ⟨rfl,b3⟩;have a0:=(HXv.out.2.1.up b3).cell 0 rfl)
      | (go_at_call 44;refine (HNo.out _).mono ?_;rintro e w9 ⟨rfl,e9⟩;have e8:=e9.symm;subst e8;clear y0 y1 y2 y3 y4 y5 y6 y7 y8 y9 y10 y11 y12 y13 y14;obtain ⟨y0,y1,y2,y3,y4,y5,y6,y7,y8,y9,y10,y11,y12,y13,y14⟩:=(HXv.out.1.up b3).all15p)
      | (go_at_call 47;refine (HSd.out _ b3).mono ?_;rintro e w4 ⟨rfl,b4'⟩;have b4:=b3.trans (b4'.mono b3.size);refine Hid.out ?_))
    refine hidp20 ?_
    have HXz:=hideIt (HK.out.up b4).bx
    have HRz:=hideIt (HXv.out.2.2.up b4)
    have HBw:=hideIt (HBvw.out.trans (b4.mono HBvw.out.size))
    clear y0 y1 y2 y3 y4 y5 y6 y7 y8 y9 y10 y11 y12 y13 y14 b3 b4' b4 a0
    go_upto_region 3 with fail
    refine wp_region_lit ?_
    go_step
    refine wp_loadH HXz.out rfl rfl ?_
    go_step
    go_step
    refine wp_storeH HRz.out rfl rfl rfl ?_
    intro vz XZ gz zz
    have HXZ:=hideIt XZ
    have HBz:=hideIt (below_grB HBw.out gz (show w.heap.size≤w.heap.size+1+1 by omega) (Nat.le_refl _))
    clear XZ gz zz
    go_wp2
    exact bodyPost_ret (results_H2 Tryz.results21 rfl rfl HXZ.out) rfl ⟨h,p',0,rfl,HBz.out,by rw [HN.out]⟩
   case inl =>
    rw [hp] at HSd
    have HPl:=hideIt hp
    clear hp
    by_cases hsh:h.sh=0
    case neg =>
     rw [show (h.sh != 0)=true by simpa using hsh] at HBu
     have HN:Hid (T=none):=by show T=none;rw [HT.out];exact takeR_none (by unfold tkB;rw [decide_eq_false (fun hh=>hsh hh.2.2.1),Bool.and_false])
     have Hsh:=hideIt hsh;clear hsh
     clear HT
     go_upto_region 2 with fail
     go_wp2_with (first
       | (go_at_call 46;refine HOk.out.mono ?_;rintro e w3 ⟨rfl,b3⟩;have a0:=(HXv.out.2.1.up b3).cell 0 rfl)
       | (go_at_call 44;refine (HNo.out _).mono ?_;rintro e w9 ⟨rfl,e9⟩;have e8:=e9.symm;subst e8;clear y0 y1 y2 y3 y4 y5 y6 y7 y8 y9 y10 y11 y12 y13 y14;obtain ⟨y0,y1,y2,y3,y4,y5,y6,y7,y8,y9,y10,y11,y12,y13,y14⟩:=(HXv.out.1.up b3).all15p)
       | (go_at_call 47;refine (HSd.out _ b3).mono ?_;rintro e w4 ⟨rfl,b4'⟩;have b4:=b3.trans (b4'.mono b3.size);clear y0 y1 y2 y3 y4 y5 y6 y7 y8 y9 y10 y11 y12 y13 y14;obtain ⟨y0,y1,y2,y3,y4,y5,y6,y7,y8,y9,y10,y11,y12,y13,y14⟩:=(HXv.out.1.up b4).all15p)
       | (go_at_call 48;refine (HBu.out _).mono ?_;rintro e w5 ⟨rfl,b5'⟩;have b5:=b4.trans (b5'.mono b4.size);refine Hid.out ?_))
     refine hidp20 ?_
     have HXz:=hideIt (HK.out.up b5).bx
     have HRz:=hideIt (HXv.out.2.2.up b5)
     have HBw:=hideIt (HBvw.out.trans (b5.mono HBvw.out.size))
     clear y0 y1 y2 y3 y4 y5 y6 y7 y8 y9 y10 y11 y12 y13 y14 b3 b4' b4 b5' b5 a0
     go_upto_region 3 with fail
     refine wp_region_lit ?_
     go_step
     refine wp_loadH HXz.out rfl rfl ?_
     go_step
     go_step
     refine wp_storeH HRz.out rfl rfl rfl ?_
     intro vz XZ gz zz
     have HXZ:=hideIt XZ
     have HBz:=hideIt (below_grB HBw.out gz (show w.heap.size≤w.heap.size+1+1 by omega) (Nat.le_refl _))
     clear XZ gz zz
     go_wp2
     exact bodyPost_ret (results_H2 Tryz.results21 rfl rfl HXZ.out) rfl ⟨h,p',0,rfl,HBz.out,by rw [HN.out]⟩
    case pos =>
     rw [show (h.sh != 0)=false by simpa using hsh] at HBu
     have h80:p.s.n=80:=by
      have h1:=HTb.out
      rw [HCI.out.1,Bool.true_and,decide_eq_false_iff_not] at h1
      have h2:=HSh.out.2
      by_cases h3:p.s.n=80
      ·exact h3
      ·exact absurd ⟨HCI.out.2,by have:=HPl.out;omega,hsh,by omega⟩ h1
     have e80:decide ((80:Int)≤(p.s.n:Int))=true:=decide_eq_true (by omega)
     have Hsh:=hideIt hsh
     have H80:=hideIt h80
     clear hsh h80
     have HN:Hid (T=none):=by show T=none;rw [HT.out];exact takeR_none (by unfold tkB;rw [decide_eq_false (fun hh=>by have:=hh.2.2.2;have:=HSh.out.2;have:=H80.out;omega),Bool.and_false])
     skip
     clear HT
     go_upto_region 2 with fail
     go_wp2_with (first
       | (go_at_call 46;refine HOk.out.mono ?_;rintro e w3 ⟨rfl,b3⟩;have a0:=(HXv.out.2.1.up b3).cell 0 rfl)
       | (go_at_call 44;refine (HNo.out _).mono ?_;rintro e w9 ⟨rfl,e9⟩;have e8:=e9.symm;subst e8;clear y0 y1 y2 y3 y4 y5 y6 y7 y8 y9 y10 y11 y12 y13 y14;obtain ⟨y0,y1,y2,y3,y4,y5,y6,y7,y8,y9,y10,y11,y12,y13,y14⟩:=(HXv.out.1.up b3).all15p)
       | (go_at_call 47;refine (HSd.out _ b3).mono ?_;rintro e w4 ⟨rfl,b4'⟩;have b4:=b3.trans (b4'.mono b3.size);clear y0 y1 y2 y3 y4 y5 y6 y7 y8 y9 y10 y11 y12 y13 y14;obtain ⟨y0,y1,y2,y3,y4,y5,y6,y7,y8,y9,y10,y11,y12,y13,y14⟩:=(HXv.out.1.up b4).all15p)
       | (go_at_call 48;refine (HBu.out _).mono ?_;rintro e w5 ⟨rfl,b5'⟩;have b5:=b4.trans (b5'.mono b4.size);have z14:w5.cell? ⟨w.heap.size,14,none⟩=some (.slice p.s.a p.s.n p.s.c):=(HXv.out.1.up b5).cell 14 rfl;refine Hid.out ?_))
     refine hidp20 ?_
     have HXz:=hideIt (HK.out.up b5).bx
     have HRz:=hideIt (HXv.out.2.2.up b5)
     have HBw:=hideIt (HBvw.out.trans (b5.mono HBvw.out.size))
     clear y0 y1 y2 y3 y4 y5 y6 y7 y8 y9 y10 y11 y12 y13 y14 b3 b4' b4 b5' b5 a0
     go_upto_region 3 with fail
     refine wp_region_lit ?_
     go_step
     refine wp_loadH HXz.out rfl rfl ?_
     go_step
     go_step
     refine wp_storeH HRz.out rfl rfl rfl ?_
     intro vz XZ gz zz
     have HXZ:=hideIt XZ
     have HBz:=hideIt (below_grB HBw.out gz (show w.heap.size≤w.heap.size+1+1 by omega) (Nat.le_refl _))
     clear XZ gz zz
     go_wp2
     exact bodyPost_ret (results_H2 Tryz.results21 rfl rfl HXZ.out) rfl ⟨h,p',0,rfl,HBz.out,by rw [HN.out]⟩
set_option maxRecDepth 100000 in
set_option maxHeartbeats 16000000 in
theorem sTake_yes {S:Nat} {h:Hd} {p:Hp} (i o a b:Int) (w:World) (R0:HR S w h p) (hb:tkB h i=true) :
  Calls Tryz.prog 21 #[.agg (hC h p),.agg #[.int .i64 i,.int .i64 o,.int .i64 a,.int .i64 b]] w fun e w'=>TkA w (takeR h i o a b) e w':=by
 obtain ⟨T,hT⟩:=ex0 (takeR h i o a b)
 rw [← hT]
 have hln:=R0.inv.lens R0.inn
 obtain ⟨W,hW⟩:=ex0 (((w.alloc (.cells (hC h p) 35)).alloc (.cells #[.int .i64 i,.int .i64 o,.int .i64 a,.int .i64 b] 28)).alloc (.cells #[.int .i64 0,.slice none 0 0,.slice none 0 0,.slice none 0 0,.slice none 0 0,.int .i64 0,.int .i64 0,.int .i64 0,.int .i64 0,.int .i64 0,.int .i64 0,.int .i64 0,.slice none 0 0,.int .i64 0,.slice none 0 0] 35))
 have bW:Below w.heap.size w W:=by rw [hW];exact ((belA _ _).alloc (by simp) _).alloc (by simp;omega) _
 have X0:BxA W w.heap.size 35 (hC h p):=by rw [hW];exact ((BxA.new w _ _).up (belA _ _)).up (belA _ _)
 have X1:BxA W (w.heap.size+1) 28 #[.int .i64 i,.int .i64 o,.int .i64 a,.int .i64 b]:=by
  have q:=(BxA.new (w.alloc (.cells (hC h p) 35)) 28 #[.int .i64 i,.int .i64 o,.int .i64 a,.int .i64 b]).up (belA _ (.cells #[.int .i64 0,.slice none 0 0,.slice none 0 0,.slice none 0 0,.slice none 0 0,.int .i64 0,.int .i64 0,.int .i64 0,.int .i64 0,.int .i64 0,.int .i64 0,.int .i64 0,.slice none 0 0,.int .i64 0,.slice none 0 0] 35))
  rw [show (w.alloc (.cells (hC h p) 35)).heap.size=w.heap.size+1 by simp] at q
  rw [hW];exact q
 have X2:BxA W (w.heap.size+1+1) 35 (hC zeroH zeroP):=by
  have q:=BxA.new ((w.alloc (.cells (hC h p) 35)).alloc (.cells #[.int .i64 i,.int .i64 o,.int .i64 a,.int .i64 b] 28)) 35 #[.int .i64 0,.slice none 0 0,.slice none 0 0,.slice none 0 0,.slice none 0 0,.int .i64 0,.int .i64 0,.int .i64 0,.int .i64 0,.int .i64 0,.int .i64 0,.int .i64 0,.slice none 0 0,.int .i64 0,.slice none 0 0]
  rw [show ((w.alloc (.cells (hC h p) 35)).alloc (.cells #[.int .i64 i,.int .i64 o,.int .i64 a,.int .i64 b] 28)).heap.size=w.heap.size+1+1 by simp] at q
  rw [hW];exact q
 have HXs:=hideIt (And.intro X0 (And.intro X1 X2))
 have HB:=hideIt bW
 have HR:=hideIt (R0.up bW)
 have HL3:Hid (w.heap.size+3≤W.heap.size):=X2.lt
 have HCp:=hideIt (l12Copy_inv W HR.out)
 have HIo:=hideIt R0.inn.o
 have hsn:p.s.n≤80:=by omega
 have HSh:Hid (h.lab.length=p.l.n∧h.said.length=p.s.n):=⟨hln.2.2.2.2.2.2.2.1,hln.2.2.2.2.2.1⟩
 have HT:=hideIt hT
 clear bW R0 hln X1 X2 hT
 go_enter Tryz.func21,Tryz.ntmps21
 go_upto_region 1 with fail
 rw [← hW]
 clear hW
 refine wp_region_lit ?_
 go_step
 refine wp_loadH X0 rfl rfl ?_
 clear X0
 go_wp2_with (go_at_call 23;refine HCp.out.mono ?_;rintro e w2 ⟨p',R,rfl,hw,b2⟩;refine Hid.out ?_)
 refine hidp20 ?_
 go_step
 go_step
 go_step
 go_step
 go_step
 have T0:BxA (w2.alloc (.cells #[.int .i64 0,.slice none 0 0,.slice none 0 0,.slice none 0 0,.slice none 0 0,.int .i64 0,.int .i64 0,.int .i64 0,.int .i64 0,.int .i64 0,.int .i64 0,.int .i64 0,.slice none 0 0,.int .i64 0,.slice none 0 0] 35)) w2.heap.size 35 (hC zeroH zeroP):=BxA.new w2 _ _
 refine wp_storeH T0 rfl rfl rfl ?_
 intro v XV gv zv
 obtain ⟨G,hG⟩:=ex0 (w2.heap.size)
 have bv:Below w2.heap.size w2 v:=below_grB (belA w2 _) gv (Nat.le_refl _) (Nat.le_refl _)
 have b12:Below W.heap.size W v:=b2.trans (bv.mono b2.size)
 have KX:HX W.heap.size v G h p' R:=⟨by rw [hG];exact XV,by rw [hG];exact b2.size,hw.up bv⟩
 rw [← hG]
 have HK:=hideIt KX
 have HBv:=hideIt b12
 have HRv:=hideIt (HR.out.up b12)
 clear T0 XV gv zv hG bv hw b2 KX b12 HCp HR
 have hsn2:p'.s.n≤80:=by have h1:=HK.out.hw.ow.inn.s.1;have h2:=HSh.out.2;omega
 have HXv:=hideIt (And.intro (HXs.out.1.up HBv.out) (And.intro (HXs.out.2.1.up HBv.out) (HXs.out.2.2.up HBv.out)))
 have HBvw:Hid (Below w.heap.size w v):=HB.out.trans (HBv.out.mono HB.out.size)
 have HOk:=hideIt (sHeadOk_inv v HRv.out)
 have HNo:Hid (∀ u,Calls Tryz.prog 44 #[.int .i64 i,.int .i64 1,.int .i64 100000] u fun e w'=>e=.returned (.bool (decide (1≤i∧i≤100000)))∧w'=u):=fun u=>O.l01In_any i 1 100000 u
 have HSd:Hid (∀ u,Below v.heap.size v u→Calls Tryz.prog 47 #[.agg (hC h p),.int .i64 i] u fun e w'=>e=.returned (.int .i64 (plc h.said i))∧Below u.heap.size u w'):=fun u hu=>l12Said_any h p i (by omega) u (HRv.out.up hu).inn.s
 have HBu:Hid (∀ u,Calls Tryz.prog 48 #[.agg (hC h p)] u fun e w'=>e=.returned (.bool (h.sh != 0))∧Below u.heap.size u w'):=fun u=>sBusy_any h p u
 obtain ⟨y0,y1,y2,y3,y4,y5,y6,y7,y8,y9,y10,y11,y12,y13,y14⟩:=HXv.out.1.all15p
 have hb':=hb
 unfold tkB at hb'
 rw [Bool.and_eq_true,decide_eq_true_iff] at hb'
 obtain ⟨hct,hi,hpl,hsh,hsl⟩:=hb'
 have hp:plc h.said i = -1:=by rcases plc_cases h.said i with h1 | ⟨q,_,h1⟩ <;> omega
 have HY:Hid (T=some (tkH h i o a b)):=by show T=_;rw [HT.out];exact takeR_some hb
 rw [hct] at HOk
 rw [decide_eq_true hi] at HNo
 rw [hp] at HSd
 rw [show (h.sh != 0)=false by simpa using hsh] at HBu
 have e80:decide ((80:Int)≤(p.s.n:Int))=false:=decide_eq_false (by have:=HSh.out.2;omega)
 have HIv:=hideIt HRv.out.inv
 clear hb hct hi hpl hsh hsl hp HT
 go_upto_region 2 with fail
 go_wp2_with (first
  | (go_at_call 46;refine HOk.out.mono ?_;rintro e w3 ⟨rfl,b3⟩;have a0:=(HXv.out.2.1.up b3).cell 0 rfl)
  | (go_at_call 44;refine (HNo.out _).mono ?_;rintro e w9 ⟨rfl,e9⟩;have e8:=e9.symm;subst e8;clear y0 y1 y2 y3 y4 y5 y6 y7 y8 y9 y10 y11 y12 y13 y14;obtain ⟨y0,y1,y2,y3,y4,y5,y6,y7,y8,y9,y10,y11,y12,y13,y14⟩:=(HXv.out.1.up b3).all15p)
  | (go_at_call 47;refine (HSd.out _ b3).mono ?_;rintro e w4 ⟨rfl,b4'⟩;have b4:=b3.trans (b4'.mono b3.size);clear y0 y1 y2 y3 y4 y5 y6 y7 y8 y9 y10 y11 y12 y13 y14;obtain ⟨y0,y1,y2,y3,y4,y5,y6,y7,y8,y9,y10,y11,y12,y13,y14⟩:=(HXv.out.1.up b4).all15p)
  | (go_at_call 48;refine (HBu.out _).mono ?_;rintro e w5 ⟨rfl,b5'⟩;have b5:=b4.trans (b5'.mono b4.size);have z14:w5.cell? ⟨w.heap.size,14,none⟩=some (.slice p.s.a p.s.n p.s.c):=(HXv.out.1.up b5).cell 14 rfl;refine Hid.out ?_))
 refine hidp20 ?_
 have HB5:=hideIt b5
 clear b3 b4' b4 b5' b5 a0 y0 y1 y2 y3 y4 y5 y6 y7 y8 y9 y10 y11 y12 y13 y14
 go_upto_region 4 with fail
 clear z14
 have HRt:Hid (Calls Tryz.prog 49 #[.agg (hC h p),.agg #[.int .i64 i,.int .i64 o,.int .i64 a,.int .i64 b]] w5 fun e w'=>e=.returned (.bool (rgB h.N h.lab.length o a b))∧Below w5.heap.size w5 w'):=by
  rw [HSh.out.1]
  exact right_any20 h p i o a b HIv.out.n w5
 obtain ⟨y0,y1,y2,y3,y4,y5,y6,y7,y8,y9,y10,y11,y12,y13,y14⟩:=(HXv.out.1.up HB5.out).all15p
 have c0:=(HXv.out.2.1.up HB5.out).cell 0 rfl
 have c1:=(HXv.out.2.1.up HB5.out).cell 1 rfl
 have c2:=(HXv.out.2.1.up HB5.out).cell 2 rfl
 have c3:=(HXv.out.2.1.up HB5.out).cell 3 rfl
 cases hrg:rgB h.N h.lab.length o a b with
 | false =>
  have HY2:Hid (tkH h i o a b=sayH h i o a b 3):=by show _=_;unfold tkH;rw [if_pos hrg]
  rw [HY2.out] at HY
  rw [hrg] at HRt
  clear hrg HY2
  go_wp2_with (go_at_call 49;refine HRt.out.mono ?_;rintro e w6 ⟨rfl,b6⟩;refine Hid.out ?_)
  refine hidp20 ?_
  clear y0 y1 y2 y3 y4 y5 y6 y7 y8 y9 y10 y11 y12 y13 y14 c0 c1 c2 c3
  replace HB5:=hideIt (HB5.out.trans (b6.mono HB5.out.size))
  have HK5:=hideIt (HK.out.up HB5.out)
  have c0:=(HXv.out.2.1.up HB5.out).cell 0 rfl
  have c1:=(HXv.out.2.1.up HB5.out).cell 1 rfl
  have c2:=(HXv.out.2.1.up HB5.out).cell 2 rfl
  have c3:=(HXv.out.2.1.up HB5.out).cell 3 rfl
  clear b6 HRt
  have HSy:=hideIt (sSay_any i o a b 3 w6 HK5.out (Nat.le_trans HBv.out.size HB5.out.size) (by omega))
  go_upto_region 5 with fail
  go_wp2_with (go_at_call 50;refine HSy.out.mono ?_;rintro e w8 ⟨rfl,⟨g8,c8,hk⟩,b8⟩;refine Hid.out ?_)
  refine hidp20 ?_
  have HK6:=hideIt hk
  have b56:Below W.heap.size W w8:=HBv.out.trans ((HB5.out.mono HBv.out.size).trans b8)
  have HX6:Hid (BxA w8 (w.heap.size+1+1) 35 (hC zeroH zeroP)):=HXs.out.2.2.up b56
  have HB6:=hideIt (HB.out.trans (b56.mono HB.out.size))
  clear hk b56 b8 c0 c1 c2 c3
  go_upto_region 6 with fail
  refine wp_region_lit ?_
  go_step
  refine wp_loadH HK6.out.bx rfl rfl ?_
  go_step
  go_step
  refine wp_storeH HX6.out rfl rfl rfl ?_
  intro vz XZ gz zz
  have HXZ:=hideIt XZ
  have HBz:=hideIt (below_grB HB6.out gz (show w.heap.size≤w.heap.size+1+1 by omega) (Nat.le_refl _))
  have HWz:=hideIt ((HK6.out.hw.grB gz (show w.heap.size+1+1<W.heap.size by have:=HL3.out;omega)).low HB.out.size)
  clear XZ gz zz
  go_wp2
  exact bodyPost_ret (results_H2 Tryz.results21 rfl rfl HXZ.out) rfl ⟨_,_,1,rfl,HBz.out,by rw [HY.out];exact ⟨by omega,rfl,_,HWz.out⟩⟩
 | true =>
  have HP:=hideIt (rgB_parts hrg)
  have HRg:=hideIt hrg
  rw [hrg] at HRt
  clear hrg
  go_wp2_with (go_at_call 49;refine HRt.out.mono ?_;rintro e w6 ⟨rfl,b6⟩;refine Hid.out ?_)
  refine hidp20 ?_
  clear y0 y1 y2 y3 y4 y5 y6 y7 y8 y9 y10 y11 y12 y13 y14 c0 c1 c2 c3
  replace HB5:=hideIt (HB5.out.trans (b6.mono HB5.out.size))
  have HK5:=hideIt (HK.out.up HB5.out)
  have c0:=(HXv.out.2.1.up HB5.out).cell 0 rfl
  have c1:=(HXv.out.2.1.up HB5.out).cell 1 rfl
  have c2:=(HXv.out.2.1.up HB5.out).cell 2 rfl
  have c3:=(HXv.out.2.1.up HB5.out).cell 3 rfl
  clear b6 HRt
  have HNm:Hid (∀ y ∈ h.nums,0≤y∧y≤1000):=fun y hy=>by
   have h1:=HIv.out.num.2 y hy
   have:=HIv.out.sd.1
   split at h1 <;> omega
  by_cases h3:o=3
  ·have HY2:Hid (tkH h i o a b=sayH h i o a b (if O.atI (wlL h) a=O.atI (wlL h) b then 1 else 2)):=by show _=_;unfold tkH;rw [HRg.out,if_neg (by decide),if_pos h3]
   rw [HY2.out] at HY
   have hb0:0≤b∧b<h.N:=by have:=HP.out;omega
   have ha0:0≤a∧a<h.N:=by have:=HP.out;omega
   clear HY2
   have hN:=HIv.out.n
   obtain ⟨n,hn⟩:∃ n:Nat,h.N=(n:Int):=⟨h.N.toNat,by omega⟩
   have hlb:∀ l ∈ h.lab,O.LOk n l:=fun l hl=>lok_of hn (HIv.out.lab.2 l hl)
   have hcb:∀ e ∈ h.cuts,O.eB (n:Int) e=true:=fun e he=>by
    have:=HIv.out.cut
    unfold O.eOk at this
    rw [Bool.and_eq_true,hn] at this
    exact O.chk_eB this.1 he
   have hwl:wlL h=O.labs (O.uE h.lab n ++ h.cuts) n n:=by unfold wlL;rw [hn,Int.toNat_natCast]
   obtain ⟨L,hL⟩:=ex0 (wlL h)
   rw [← hL] at hwl HY
   have hLl:L.length=n:=by rw [hwl];exact O.labs_len _ _ _
   have m1:=(atI_mem (ls:=L) (v:=a) ha0.1 (by omega)).2
   have m2:=(atI_mem (ls:=L) (v:=b) hb0.1 (by omega)).2
   obtain ⟨x1,hx1⟩:∃ x,x=O.atI L a:=⟨_,rfl⟩
   obtain ⟨x2,hx2⟩:∃ x,x=O.atI L b:=⟨_,rfl⟩
   rw [← hx1] at m1 HY
   rw [← hx2] at m2 HY
   have HWl:Hid (Calls Tryz.prog 51 #[.int .i64 h.N,.slice p.l.a p.l.n p.l.c,.slice p.c.a p.c.n p.c.c] w6 fun e v=>∃ a' m' c',e=.returned (.tuple #[.slice a' m' c',.bool true])∧v.ownsRow w6.heap.size 3 1 (.slice a' m' c') m' (ic L)∧Below w6.heap.size w6 v):=by
    have hR6:=HRv.out.up HB5.out
    have hl6:=hR6.inv.lens hR6.inn
    have:=O.sWholeLabels_yes n (by omega) (by omega) h.lab p.l.n (by have:=hR6.inv.s;omega) p.l.a p.l.c h.cuts p.c.n (by omega) p.c.a p.c.c hlb hcb w6 hR6.inn.l hR6.inn.c
    rw [hn]
    refine this.mono fun e v ⟨a',m',c',h1,h2,h3⟩=>⟨a',m',c',h1,by rw [hwl];exact h2,h3⟩
   have X6:=HXv.out.1.up HB5.out
   have g0:=X6.cell 0 rfl
   have g2:w6.cell? ⟨w.heap.size,2,none⟩=some (.slice p.c.a p.c.n p.c.c):=X6.cell 2 rfl
   have g3:w6.cell? ⟨w.heap.size,3,none⟩=some (.slice p.l.a p.l.n p.l.c):=X6.cell 3 rfl
   have HM:=hideIt (And.intro m1 (And.intro m2 hLl))
   clear hn hlb hcb hwl hL hLl m1 m2 hx1 hx2 hN X6
   subst h3
   go_upto_region 9 with fail
   go_wp2_with (go_at_call 51;refine HWl.out.mono ?_;rintro e w7 ⟨aL,mL,cL,rfl,hoL,b7⟩;refine Hid.out ?_)
   refine hidp20 ?_
   obtain ⟨bL,oL,rfl,hbL,d1,d2,hm⟩:∃ bL oL,aL=some ⟨bL,oL,none⟩∧bL<w7.heap.size∧w7.cell? ⟨bL,oL+a.toNat,none⟩=some (.int .i64 x1)∧w7.cell? ⟨bL,oL+b.toNat,none⟩=some (.int .i64 x2)∧L.length=mL:=by
    have hI:=Is_own hoL
    rcases hI.2 with h0 | ⟨bL,oL,e,hb,hc⟩
    ·have h1:=hI.1;have h2:=HM.out.2.2;have:=(List.getElem?_eq_some_iff.1 HM.out.1).1;omega
    ·exact ⟨bL,oL,e,hb,hc _ _ HM.out.1,hc _ _ HM.out.2.1,hI.1⟩
   have k1:a<(mL:Int):=by have:=(List.getElem?_eq_some_iff.1 HM.out.1).1;omega
   have k2:b<(mL:Int):=by have:=(List.getElem?_eq_some_iff.1 HM.out.2.1).1;omega
   have k3:=ha0.1
   have k4:=hb0.1
   replace HB5:=hideIt (HB5.out.trans (b7.mono HB5.out.size))
   have HK5:=hideIt (HK.out.up HB5.out)
   clear c0 c1 c2 c3 g0 g2 g3 b7 hoL hm HWl HM ha0 hb0
   have A7:=HXv.out.2.1.up HB5.out
   have c0:=A7.cell 0 rfl
   have c1:=A7.cell 1 rfl
   have c2:=A7.cell 2 rfl
   have c3:=A7.cell 3 rfl
   clear A7
   obtain ⟨bb,hbb⟩:∃ bb:Bool,(x1 == x2)=bb:=⟨_,rfl⟩
   rw [show (if x1=x2 then (1:Int) else 2)=(if bb=true then 1 else 2) by rw [← hbb];simp] at HY
   have HYY:=hideIt HY.out
   clear HY
   go_upto_region 11 with fail
   go_region_held3 (fun u=>(u.cell? ⟨w.heap.size+1,2,none⟩=some (.int .i64 a)∧u.cell? ⟨w.heap.size+1,3,none⟩=some (.int .i64 b))∧u.cell? ⟨bL,oL+a.toNat,none⟩=some (.int .i64 x1)∧u.cell? ⟨bL,oL+b.toNat,none⟩=some (.int .i64 x2)) (exact ⟨⟨c2,c3⟩,d1,d2⟩) (fail)
   obtain ⟨wq,hwq⟩:=ex0 (w7.drew)
   have bq:Below w7.heap.size w7 wq:=by rw [hwq];exact (Below.refl _ _).drew
   rw [← hwq]
   clear hwq c0 c1 c2 c3 d1 d2
   replace HB5:=hideIt (HB5.out.trans (bq.mono HB5.out.size))
   have HK5:=hideIt (HK.out.up HB5.out)
   have A7:=HXv.out.2.1.up HB5.out
   have c0:=A7.cell 0 rfl
   have c1:=A7.cell 1 rfl
   have c2:=A7.cell 2 rfl
   have c3:=A7.cell 3 rfl
   clear A7 bq
   have HSyA:=hideIt (fun s=>sSay_any i 3 a b s wq HK5.out (Nat.le_trans HBv.out.size HB5.out.size) (by omega))
   cases bb with
   | true =>
    have HY:Hid (T=some (sayH h i 3 a b 1)):=HYY.out
    have HSy:=hideIt (HSyA.out 1)
    clear HSyA
    go_upto_region 13 with fail
    go_wp2_with (go_at_call 50;refine HSy.out.mono ?_;rintro e w8 ⟨rfl,⟨g8,c8,hk⟩,b8⟩;refine Hid.out ?_)
    refine hidp20 ?_
    have HK6:=hideIt hk
    have b56:Below W.heap.size W w8:=HBv.out.trans ((HB5.out.mono HBv.out.size).trans b8)
    have HX6:Hid (BxA w8 (w.heap.size+1+1) 35 (hC zeroH zeroP)):=HXs.out.2.2.up b56
    have HB6:=hideIt (HB.out.trans (b56.mono HB.out.size))
    clear hk b56 b8 c0 c1 c2 c3
    go_upto_region 14 with fail
    refine wp_region_lit ?_
    go_step
    refine wp_loadH HK6.out.bx rfl rfl ?_
    go_step
    go_step
    refine wp_storeH HX6.out rfl rfl rfl ?_
    intro vz XZ gz zz
    have HXZ:=hideIt XZ
    have HBz:=hideIt (below_grB HB6.out gz (show w.heap.size≤w.heap.size+1+1 by omega) (Nat.le_refl _))
    have HWz:=hideIt ((HK6.out.hw.grB gz (show w.heap.size+1+1<W.heap.size by have:=HL3.out;omega)).low HB.out.size)
    clear XZ gz zz
    go_wp2
    exact bodyPost_ret (results_H2 Tryz.results21 rfl rfl HXZ.out) rfl ⟨_,_,1,rfl,HBz.out,by rw [HY.out];exact ⟨by omega,rfl,_,HWz.out⟩⟩
   | false =>
    have HY:Hid (T=some (sayH h i 3 a b 2)):=HYY.out
    have HSy:=hideIt (HSyA.out 2)
    clear HSyA
    go_upto_region 13 with fail
    go_wp2_with (go_at_call 50;refine HSy.out.mono ?_;rintro e w8 ⟨rfl,⟨g8,c8,hk⟩,b8⟩;refine Hid.out ?_)
    refine hidp20 ?_
    have HK6:=hideIt hk
    have b56:Below W.heap.size W w8:=HBv.out.trans ((HB5.out.mono HBv.out.size).trans b8)
    have HX6:Hid (BxA w8 (w.heap.size+1+1) 35 (hC zeroH zeroP)):=HXs.out.2.2.up b56
    have HB6:=hideIt (HB.out.trans (b56.mono HB.out.size))
    clear hk b56 b8 c0 c1 c2 c3
    go_upto_region 14 with fail
    refine wp_region_lit ?_
    go_step
    refine wp_loadH HK6.out.bx rfl rfl ?_
    go_step
    go_step
    refine wp_storeH HX6.out rfl rfl rfl ?_
    intro vz XZ gz zz
    have HXZ:=hideIt XZ
    have HBz:=hideIt (below_grB HB6.out gz (show w.heap.size≤w.heap.size+1+1 by omega) (Nat.le_refl _))
    have HWz:=hideIt ((HK6.out.hw.grB gz (show w.heap.size+1+1<W.heap.size by have:=HL3.out;omega)).low HB.out.size)
    clear XZ gz zz
    go_wp2
    exact bodyPost_ret (results_H2 Tryz.results21 rfl rfl HXZ.out) rfl ⟨_,_,1,rfl,HBz.out,by rw [HY.out];exact ⟨by omega,rfl,_,HWz.out⟩⟩
  ·by_cases h4:o=4
   ·have hb0:=HP.out
    have ho:=HIv.out.ownAt hb0.1 hb0.2.1
    have hsS:=HIv.out.s
    have hns:=HIv.out.num.1
    have hln7:=HIv.out.lens HRv.out.inn
    obtain ⟨x,hx⟩:∃ x,O.atI h.own a=x:=⟨_,rfl⟩
    have HY2:Hid (tkH h i o a b=(if x=b then sayH h i 4 a b 2 else ordH h i 4 a b x 3 [] a)):=by show _=_;unfold tkH;rw [HRg.out,if_neg (by decide),if_neg h3,if_pos h4,h4,hx]
    rw [HY2.out] at HY
    rw [hx] at ho
    obtain ⟨s,rfl⟩:∃ s:Nat,x=(s:Int)+1:=⟨(x - 1).toNat,by omega⟩
    have hs3:s≤2:=by omega
    have hsN:s<h.nums.length:=by omega
    obtain ⟨bo,oo,ea,hbo,hco⟩:∃ bo oo,p.o.a=some ⟨bo,oo,none⟩∧bo<w6.heap.size∧w6.cell? ⟨bo,oo+a.toNat,none⟩=some (.int .i64 ((s:Int)+1)):=by
     have hI:=(HRv.out.up HB5.out).inn.o
     rcases hI.2 with h0 | ⟨bo,oo,e,hb,hc⟩
     ·have:=(List.getElem?_eq_some_iff.1 ho.2).1;have:=hI.1;omega
     ·exact ⟨bo,oo,e,hb,hc _ _ ho.2⟩
    have k1:a<(p.o.n:Int):=by omega
    have k3:0≤a:=hb0.1
    have g1:w6.cell? ⟨w.heap.size,1,none⟩=some (.slice p.o.a p.o.n p.o.c):=(HXv.out.1.up HB5.out).cell 1 rfl
    have HEa:=hideIt ea
    have HboG:Hid (bo≠G):=fun e=>by
     have hGW:=HK.out.ge
     have hlt:=HL3.out
     rcases HIo.out.2 with h0 | ⟨b',o',e',hb',_⟩
     ·omega
     ·rw [ea] at e'
      simp at e'
      try omega
    rw [ea] at g1
    subst h4
    clear hb0 ho hsS hns hln7 hx HY2 ea h3
    by_cases hxb:(s:Int)+1=b
    ·rw [if_pos hxb] at HY
     have ee:((s:Int)+1 == b)=true:=by simpa using hxb
     have HXB:=hideIt hxb
     clear hxb
     go_upto_region 16 with fail
     go_region_held3 (fun u=>(u.cell? ⟨w.heap.size+1,2,none⟩=some (.int .i64 a)∧u.cell? ⟨w.heap.size+1,3,none⟩=some (.int .i64 b))∧u.cell? ⟨w.heap.size,1,none⟩=some (.slice (some ⟨bo,oo,none⟩) p.o.n p.o.c)∧u.cell? ⟨bo,oo+a.toNat,none⟩=some (.int .i64 ((s:Int)+1))) (exact ⟨⟨c2,c3⟩,g1,hco⟩) (fail)
     obtain ⟨wq,hwq⟩:=ex0 (w6.drew)
     have bq:Below w6.heap.size w6 wq:=by rw [hwq];exact (Below.refl _ _).drew
     rw [← hwq]
     clear hwq c0 c1 c2 c3 g1 hco
     replace HB5:=hideIt (HB5.out.trans (bq.mono HB5.out.size))
     have HK5:=hideIt (HK.out.up HB5.out)
     have A7:=HXv.out.2.1.up HB5.out
     have c0:=A7.cell 0 rfl
     have c1:=A7.cell 1 rfl
     have c2:=A7.cell 2 rfl
     have c3:=A7.cell 3 rfl
     clear A7 bq
     have HSy:=hideIt (sSay_any i 4 a b 2 wq HK5.out (Nat.le_trans HBv.out.size HB5.out.size) (by omega))
     go_upto_region 17 with fail
     go_wp2_with (go_at_call 50;refine HSy.out.mono ?_;rintro e w8 ⟨rfl,⟨g8,c8,hk⟩,b8⟩;refine Hid.out ?_)
     refine hidp20 ?_
     have HK6:=hideIt hk
     have b56:Below W.heap.size W w8:=HBv.out.trans ((HB5.out.mono HBv.out.size).trans b8)
     have HX6:Hid (BxA w8 (w.heap.size+1+1) 35 (hC zeroH zeroP)):=HXs.out.2.2.up b56
     have HB6:=hideIt (HB.out.trans (b56.mono HB.out.size))
     clear hk b56 b8 c0 c1 c2 c3
     go_upto_region 18 with fail
     refine wp_region_lit ?_
     go_step
     refine wp_loadH HK6.out.bx rfl rfl ?_
     go_step
     go_step
     refine wp_storeH HX6.out rfl rfl rfl ?_
     intro vz XZ gz zz
     have HXZ:=hideIt XZ
     have HBz:=hideIt (below_grB HB6.out gz (show w.heap.size≤w.heap.size+1+1 by omega) (Nat.le_refl _))
     have HWz:=hideIt ((HK6.out.hw.grB gz (show w.heap.size+1+1<W.heap.size by have:=HL3.out;omega)).low HB.out.size)
     clear XZ gz zz
     go_wp2
     exact bodyPost_ret (results_H2 Tryz.results21 rfl rfl HXZ.out) rfl ⟨_,_,1,rfl,HBz.out,by rw [HY.out];exact ⟨by omega,rfl,_,HWz.out⟩⟩
    ·rw [if_neg hxb] at HY
     have ee:((s:Int)+1 == b)=false:=by simpa using hxb
     have HXB:=hideIt hxb
     clear hxb
     go_upto_region 16 with fail
     go_region_held3 (fun u=>(u.cell? ⟨w.heap.size+1,2,none⟩=some (.int .i64 a)∧u.cell? ⟨w.heap.size+1,3,none⟩=some (.int .i64 b))∧u.cell? ⟨w.heap.size,1,none⟩=some (.slice (some ⟨bo,oo,none⟩) p.o.n p.o.c)∧u.cell? ⟨bo,oo+a.toNat,none⟩=some (.int .i64 ((s:Int)+1))) (exact ⟨⟨c2,c3⟩,g1,hco⟩) (fail)
     have HCo:=hideIt hco
     obtain ⟨wq,hwq⟩:=ex0 (w6.drew)
     have bq:Below w6.heap.size w6 wq:=by rw [hwq];exact (Below.refl _ _).drew
     rw [← hwq]
     clear hwq c0 c1 c2 c3 g1 hco
     replace HB5:=hideIt (HB5.out.trans (bq.mono HB5.out.size))
     have HK5:=hideIt (HK.out.up HB5.out)
     have hboq:bo<wq.heap.size:=Nat.lt_of_lt_of_le hbo bq.size
     have hcq:wq.cell? ⟨bo,oo+a.toNat,none⟩=some (.int .i64 ((s:Int)+1)):=by rw [bq.cell (p:=⟨bo,oo+a.toNat,none⟩) hbo];exact HCo.out
     have HSv:Hid (∀ v:World,(∀ b,b<wq.heap.size→b≠G→v.heap[b]?=wq.heap[b]?)→((v.cell? ⟨w.heap.size+1,0,none⟩=some (.int .i64 i)∧v.cell? ⟨w.heap.size+1,1,none⟩=some (.int .i64 4))∧v.cell? ⟨w.heap.size+1,2,none⟩=some (.int .i64 a)∧v.cell? ⟨w.heap.size+1,3,none⟩=some (.int .i64 b))∧v.cell? ⟨w.heap.size,1,none⟩=some (.slice (some ⟨bo,oo,none⟩) p.o.n p.o.c)∧v.cell? ⟨bo,oo+a.toNat,none⟩=some (.int .i64 ((s:Int)+1))):=fun v hv=>by
      have hGW:=HK.out.ge
      have hL:=HL3.out
      have A:=HXv.out.2.1.up HB5.out
      have E:=HXv.out.1.up HB5.out
      have hA:BxA v (w.heap.size+1) 28 #[.int .i64 i,.int .i64 4,.int .i64 a,.int .i64 b]:=by unfold BxA;rw [hv _ A.lt (by omega)];exact A
      have hE:BxA v w.heap.size 35 (hC h p):=by unfold BxA;rw [hv _ E.lt (by omega)];exact E
      have hp1:(hC h p)[1]?=some (.slice (some ⟨bo,oo,none⟩) p.o.n p.o.c):=by rw [← HEa.out];rfl
      refine ⟨⟨⟨hA.cell 0 rfl,hA.cell 1 rfl⟩,hA.cell 2 rfl,hA.cell 3 rfl⟩,hE.cell 1 hp1,?_⟩
      rw [World.cell?_of_block (hv bo hboq HboG.out)]
      exact hcq
     have c0':Below wq.heap.size wq wq:=Below.refl _ _
     have HSb:Hid (∀ v:World,Below wq.heap.size wq v→((v.cell? ⟨w.heap.size+1,0,none⟩=some (.int .i64 i)∧v.cell? ⟨w.heap.size+1,1,none⟩=some (.int .i64 4))∧v.cell? ⟨w.heap.size+1,2,none⟩=some (.int .i64 a)∧v.cell? ⟨w.heap.size+1,3,none⟩=some (.int .i64 b))∧v.cell? ⟨w.heap.size,1,none⟩=some (.slice (some ⟨bo,oo,none⟩) p.o.n p.o.c)∧v.cell? ⟨bo,oo+a.toNat,none⟩=some (.int .i64 ((s:Int)+1))):=fun v hv=>HSv.out v fun b hb _=>hv.block b hb
     have HOr:Hid (∀ x:World,Below wq.heap.size wq x→Calls Tryz.prog 52 #[.pointer (some ⟨G,0,none⟩),.agg #[.int .i64 i,.int .i64 4,.int .i64 a,.int .i64 b],.int .i64 ((s:Int)+1),.agg #[.int .i64 0,.int .i64 3,.slice none 0 0,.int .i64 a]] x fun e v=>e=.returned (.int .i64 2)∧(HX W.heap.size v G (ordH h i 4 a b ((s:Int)+1) 3 [] a) (ordP p' ⟨none,0,0⟩) R∧Below W.heap.size wq v)∧((v.cell? ⟨w.heap.size+1,0,none⟩=some (.int .i64 i)∧v.cell? ⟨w.heap.size+1,1,none⟩=some (.int .i64 4))∧v.cell? ⟨w.heap.size+1,2,none⟩=some (.int .i64 a)∧v.cell? ⟨w.heap.size+1,3,none⟩=some (.int .i64 b))∧v.cell? ⟨w.heap.size,1,none⟩=some (.slice (some ⟨bo,oo,none⟩) p.o.n p.o.c)∧v.cell? ⟨bo,oo+a.toNat,none⟩=some (.int .i64 ((s:Int)+1))):=fun x bx =>
      (sTask_any i 4 a b s 0 3 a [] none 0 0 _ (HK5.out.up bx) (Nat.le_trans HBv.out.size (Nat.le_trans HB5.out.size bx.size)) hsN hs3 HNm.out (World.ownsRow_nil _ _ _ _) (fun b h1 h2=>by simp [Value.ownBlock] at h2)).mono fun e v ⟨h1,h2,h3,h4⟩=>⟨h1,⟨h2,(bx.mono (Nat.le_trans HBv.out.size HB5.out.size)).trans h3⟩,HSv.out v (fun b hb hG=>(h4 b (Nat.lt_of_lt_of_le hb bx.size) hG).trans (bx.block b hb))⟩
     go_upto_region 19 with fail
     go_region_held3 (fun v=>((v.cell? ⟨w.heap.size+1,0,none⟩=some (.int .i64 i)∧v.cell? ⟨w.heap.size+1,1,none⟩=some (.int .i64 4))∧v.cell? ⟨w.heap.size+1,2,none⟩=some (.int .i64 a)∧v.cell? ⟨w.heap.size+1,3,none⟩=some (.int .i64 b))∧v.cell? ⟨w.heap.size,1,none⟩=some (.slice (some ⟨bo,oo,none⟩) p.o.n p.o.c)∧v.cell? ⟨bo,oo+a.toNat,none⟩=some (.int .i64 ((s:Int)+1)))
      (first | assumption | exact HSb.out _ c0'.drew)
      ((go_at_call 52;refine (HOr.out _ c0'.drew).mono ?_;rintro e w8 ⟨rfl,⟨hk,b8⟩,hS8⟩))
     clear hcq c0' hS8
     have HK6:=hideIt hk
     have b56:Below W.heap.size W w8:=HBv.out.trans ((HB5.out.mono HBv.out.size).trans b8)
     have HX6:Hid (BxA w8 (w.heap.size+1+1) 35 (hC zeroH zeroP)):=HXs.out.2.2.up b56
     have HB6:=hideIt (HB.out.trans (b56.mono HB.out.size))
     clear hk b56 b8
     go_upto_region 20 with fail
     refine wp_region_lit ?_
     go_step
     refine wp_loadH HK6.out.bx rfl rfl ?_
     go_step
     go_step
     go_step
     go_step
     go_step
     refine wp_storeH HX6.out rfl rfl rfl ?_
     intro vz XZ gz zz
     have HXZ:=hideIt XZ
     have HBz:=hideIt (below_grB HB6.out gz (show w.heap.size≤w.heap.size+1+1 by omega) (Nat.le_refl _))
     have HWz:=hideIt ((HK6.out.hw.grB gz (show w.heap.size+1+1<W.heap.size by have:=HL3.out;omega)).low HB.out.size)
     clear XZ gz zz
     go_wp2
     exact bodyPost_ret (results_H2 Tryz.results21 rfl rfl HXZ.out) rfl ⟨_,_,2,rfl,HBz.out,by rw [HY.out];exact ⟨by omega,rfl,_,HWz.out⟩⟩
   ·have hc:=HP.out
    have ha0:0≤a∧a<h.N:=⟨hc.1,hc.2.1⟩
    have hb0:(0≤b∧b<h.N)∧a≠b:=by omega
    have ho:o=1∨o=2:=by omega
    have HY2:Hid (tkH h i o a b=chgH h i o a b):=by show _=_;unfold tkH;rw [HRg.out,if_neg (by decide),if_neg h3,if_neg h4]
    rw [HY2.out] at HY
    have hcc:chgC h a b=1∨chgC h a b=2:=by unfold chgC;split <;> omega
    have HCh:Hid (Calls Tryz.prog 53 #[.pointer (some ⟨G,0,none⟩),.agg #[.int .i64 i,.int .i64 o,.int .i64 a,.int .i64 b]] w6 fun e v=>MvA W.heap.size w6 G (chgH h i o a b) (chgC h a b) e v):=by
     rcases ho with rfl | rfl
     ·exact sChgA i a b w6 HK5.out HIv.out (Nat.le_trans HBv.out.size HB5.out.size) ha0 hb0.1 hb0.2
     ·exact sChgT i a b w6 HK5.out HIv.out (Nat.le_trans HBv.out.size HB5.out.size) ha0 hb0.1 hb0.2
    obtain ⟨cc,hcc2⟩:=ex0 (chgC h a b)
    rw [← hcc2] at hcc HCh
    have HCc:=hideIt hcc
    have o3:(o == 3)=false:=by simpa using h3
    have o4:(o == 4)=false:=by simpa using h4
    clear hc ha0 hb0 ho HY2 hcc hcc2 h3 h4
    go_upto_region 21 with fail
    go_wp2_with (go_at_call 53;refine HCh.out.mono ?_;rintro e w8 ⟨rfl,⟨p8,R8,hk⟩,b8⟩;refine Hid.out ?_)
    refine hidp20 ?_
    have hcc:=HCc.out
    have HCc2:=hideIt hcc
    clear hcc
    have HK6:=hideIt hk
    have b56:Below W.heap.size W w8:=HBv.out.trans ((HB5.out.mono HBv.out.size).trans b8)
    have HX6:Hid (BxA w8 (w.heap.size+1+1) 35 (hC zeroH zeroP)):=HXs.out.2.2.up b56
    have HB6:=hideIt (HB.out.trans (b56.mono HB.out.size))
    clear hk b56 b8 c0 c1 c2 c3
    go_upto_region 22 with fail
    refine wp_region_lit ?_
    go_step
    refine wp_loadH HK6.out.bx rfl rfl ?_
    go_step
    go_step
    go_step
    go_step
    go_step
    refine wp_storeH HX6.out rfl rfl rfl ?_
    intro vz XZ gz zz
    have HXZ:=hideIt XZ
    have HBz:=hideIt (below_grB HB6.out gz (show w.heap.size≤w.heap.size+1+1 by omega) (Nat.le_refl _))
    have HWz:=hideIt ((HK6.out.hw.grB gz (show w.heap.size+1+1<W.heap.size by have:=HL3.out;omega)).low HB.out.size)
    clear XZ gz zz
    go_wp2
    exact bodyPost_ret (results_H2 Tryz.results21 rfl rfl HXZ.out) rfl ⟨_,_,cc,rfl,HBz.out,by rw [HY.out];exact ⟨HCc2.out,rfl,_,HWz.out⟩⟩
theorem sTake_inv {S:Nat} {h:Hd} {p:Hp} (i o a b:Int) (w:World) (R0:HR S w h p) :
  Calls Tryz.prog 21 #[.agg (hC h p),.agg #[.int .i64 i,.int .i64 o,.int .i64 a,.int .i64 b]] w fun e w'=>TkA w (takeR h i o a b) e w':=by
 cases hb:tkB h i with
 | false=>exact sTake_no i o a b w R0 hb
 | true=>exact sTake_yes i o a b w R0 hb
set_option maxRecDepth 100000 in
set_option maxHeartbeats 8000000 in
theorem sHeadNew_any (n sh:Int) (w:World):Calls Tryz.prog 20 #[.int .i64 n,.int .i64 sh] w fun e w'=>HnA w n sh e w':=by
 have HV:=hideIt l01In_any
 have HB0:=hideIt (belA w (.cells #[.int .i64 0,.slice none 0 0,.slice none 0 0,.slice none 0 0,.slice none 0 0,.int .i64 0,.int .i64 0,.int .i64 0,.int .i64 0,.int .i64 0,.int .i64 0,.int .i64 0,.slice none 0 0,.int .i64 0,.slice none 0 0] 35))
 by_cases h1:1≤n∧n≤12
 case neg =>
  have r1:decide (1≤n∧n≤12)=false:=decide_eq_false h1
  have HH:=hideIt h1
  clear h1
  go_enter Tryz.func20,Tryz.ntmps20
  go_wp2_with (go_at_call 44;refine (HV.out _ _ _ _).mono ?_;rintro e w1 ⟨rfl,rfl⟩)
  exact bodyPost_ret (v:=.tuple #[.agg #[.int .i64 0,.slice none 0 0,.slice none 0 0,.slice none 0 0,.slice none 0 0,.int .i64 0,.int .i64 0,.int .i64 0,.int .i64 0,.int .i64 0,.int .i64 0,.int .i64 0,.slice none 0 0,.int .i64 0,.slice none 0 0],.bool false]) (by simp [results,Tryz.results20,go_sem]) rfl (hna_no (fun h=>HH.out h.1) HB0.out)
 case pos =>
  by_cases h2:1≤sh∧sh≤3
  case neg =>
   have r1:decide (1≤n∧n≤12)=true:=decide_eq_true h1
   have r2:decide (1≤sh∧sh≤3)=false:=decide_eq_false h2
   have HH:=hideIt h2
   clear h1 h2
   go_enter Tryz.func20,Tryz.ntmps20
   go_wp2_with (go_at_call 44;refine (HV.out _ _ _ _).mono ?_;rintro e w1 ⟨rfl,rfl⟩)
   exact bodyPost_ret (v:=.tuple #[.agg #[.int .i64 0,.slice none 0 0,.slice none 0 0,.slice none 0 0,.slice none 0 0,.int .i64 0,.int .i64 0,.int .i64 0,.int .i64 0,.int .i64 0,.int .i64 0,.int .i64 0,.slice none 0 0,.int .i64 0,.slice none 0 0],.bool false]) (by simp [results,Tryz.results20,go_sem]) rfl (hna_no (fun h=>HH.out h.2) HB0.out)
  case pos =>
   obtain ⟨nn,rfl⟩:∃ nn:Nat,n=(nn:Int):=⟨n.toNat,by omega⟩
   obtain ⟨s,rfl⟩:∃ s:Nat,sh=(s:Int):=⟨sh.toNat,by omega⟩
   have r1:decide (1≤(nn:Int)∧(nn:Int)≤12)=true:=decide_eq_true h1
   have r2:decide (1≤(s:Int)∧(s:Int)≤3)=true:=decide_eq_true h2
   have hn1:1≤nn∧nn≤12:=by omega
   have hs1:1≤s∧s≤3:=by omega
   have HY:=hideIt (hn_yes ⟨hn1,hs1⟩)
   obtain ⟨i0,hi,hz0,hz1,hz2⟩:=info_parts info3i
   obtain ⟨i1,hi',hy0,hy1,hy2⟩:=info_parts infoIT
   have hmk:∀ u:World,(Instr.makeSlice 24 (.int .i64 (s:Int)) (.int .i64 (s:Int))).run Tryz.prog u =
     .ok (.slice (some ⟨u.heap.size,0,none⟩) s s) (u.alloc (.cells (madeCells #[.int .i64 0] s) 3)):=fun u=>by
    have h:=run_make (P:=Tryz.prog) u 24 3 i0 _ Tryz.underlying24 hi hz0 .i64 .i64 (s:Int) (s:Int) (by omega) (by omega) (by rw [hz2];omega) (by omega)
    rw [Int.toNat_natCast] at h
    simpa [hz1,Value.cells] using h
   obtain ⟨W1,hW1⟩:=ex0 (((w.alloc (.cells #[.int .i64 0,.slice none 0 0,.slice none 0 0,.slice none 0 0,.slice none 0 0,.int .i64 0,.int .i64 0,.int .i64 0,.int .i64 0,.int .i64 0,.int .i64 0,.int .i64 0,.slice none 0 0,.int .i64 0,.slice none 0 0] 35)).alloc (.cells (madeCells #[.int .i64 0] s) 3)).alloc (.cells (hnC (nn:Int) none 0 0 none 0 0 (some ⟨w.heap.size+1,0,none⟩) s) 35))
   have N1:HN w nn s 0 none 0 [] 0 none 0 W1:=by
    have q1:=((BxA.new w 35 #[.int .i64 0,.slice none 0 0,.slice none 0 0,.slice none 0 0,.slice none 0 0,.int .i64 0,.int .i64 0,.int .i64 0,.int .i64 0,.int .i64 0,.int .i64 0,.int .i64 0,.slice none 0 0,.int .i64 0,.slice none 0 0]).up (belA _ (.cells (madeCells #[.int .i64 0] s) 3))).up (belA _ (.cells (hnC (nn:Int) none 0 0 none 0 0 (some ⟨w.heap.size+1,0,none⟩) s) 35))
    have q2:=BxA.new ((w.alloc (.cells #[.int .i64 0,.slice none 0 0,.slice none 0 0,.slice none 0 0,.slice none 0 0,.int .i64 0,.int .i64 0,.int .i64 0,.int .i64 0,.int .i64 0,.int .i64 0,.int .i64 0,.slice none 0 0,.int .i64 0,.slice none 0 0] 35)).alloc (.cells (madeCells #[.int .i64 0] s) 3)) 35 (hnC (nn:Int) none 0 0 none 0 0 (some ⟨w.heap.size+1,0,none⟩) s)
    have q3:=own_up (World.ownsRow_lit (base:=(w.alloc (.cells #[.int .i64 0,.slice none 0 0,.slice none 0 0,.slice none 0 0,.slice none 0 0,.int .i64 0,.int .i64 0,.int .i64 0,.int .i64 0,.int .i64 0,.int .i64 0,.int .i64 0,.slice none 0 0,.int .i64 0,.slice none 0 0] 35)).heap.size) (e:=3) (size:=1) (w.alloc (.cells #[.int .i64 0,.slice none 0 0,.slice none 0 0,.slice none 0 0,.slice none 0 0,.int .i64 0,.int .i64 0,.int .i64 0,.int .i64 0,.int .i64 0,.int .i64 0,.int .i64 0,.slice none 0 0,.int .i64 0,.slice none 0 0] 35)) (madeCells #[.int .i64 0] s) s (Nat.le_refl _) (by unfold maxLen;omega) (by simp [madeCells])) (belA _ (.cells (hnC (nn:Int) none 0 0 none 0 0 (some ⟨w.heap.size+1,0,none⟩) s) 35))
    rw [← hW1] at q1 q2 q3
    have e1:(w.alloc (.cells #[.int .i64 0,.slice none 0 0,.slice none 0 0,.slice none 0 0,.slice none 0 0,.int .i64 0,.int .i64 0,.int .i64 0,.int .i64 0,.int .i64 0,.int .i64 0,.int .i64 0,.slice none 0 0,.int .i64 0,.slice none 0 0] 35)).heap.size=w.heap.size+1:=by simp
    have e2:((w.alloc (.cells #[.int .i64 0,.slice none 0 0,.slice none 0 0,.slice none 0 0,.slice none 0 0,.int .i64 0,.int .i64 0,.int .i64 0,.int .i64 0,.int .i64 0,.int .i64 0,.int .i64 0,.slice none 0 0,.int .i64 0,.slice none 0 0] 35)).alloc (.cells (madeCells #[.int .i64 0] s) 3)).heap.size=w.heap.size+1+1:=by simp
    rw [e1] at q3
    rw [e2] at q2
    have e3:(madeCells #[Value.int .i64 0] s).toList=ic (List.replicate s 0):=by rw [made1];simp [ic]
    rw [e3] at q3
    refine ⟨q1,q2,q3,FB.nil _ _,rfl,World.ownsRow_nil _ _ _ _,by simp,?_⟩
    rw [hW1]
    exact (((Below.refl _ _).alloc (Nat.le_refl _) _).alloc (by simp) _).alloc (by simp;omega) _
   have hE0:O.EsIn [] nn:=fun e he=>by simp at he
   have HLb:Hid (∀ u (b:Nat),Calls Tryz.prog 45 #[.int .i64 (nn:Int),.slice (some ⟨b,0,none⟩) 0 0] u fun e v=>∃ g c,e=.returned (.slice (some ⟨g,0,none⟩) nn c)∧Hid (v.ownsRow u.heap.size 3 1 (.slice (some ⟨g,0,none⟩) nn c) nn (ic (O.labs [] nn nn)))∧Below u.heap.size u v):=fun u b=>by
    have h:=O.l05Labels_any nn hn1.1 hn1.2 [] hE0 0 (some ⟨b,0,none⟩) 0 (by omega) u ⟨rfl,.inl rfl⟩
    refine h.mono fun e v ⟨a2,m2,c2,h1,h2,h3⟩=>?_
    have hl:(ic (O.labs [] nn nn)).length=m2*1:=h2.1
    rw [ic_len,O.labs_len] at hl
    have hm:m2=nn:=by omega
    subst hm
    rcases h2.2 with ⟨_,h0⟩ | ⟨g,cap,cur,hv,hr⟩
    ·omega
    ·simp at hv
     obtain ⟨rfl,rfl⟩:=hv
     exact ⟨g,c2,h1,h2,h3⟩
   clear h1 h2
   go_enter Tryz.func20,Tryz.ntmps20
   go_wp2_with (go_at_call 44;refine (HV.out _ _ _ _).mono ?_;rintro e w1 ⟨rfl,rfl⟩)
   rw [← hW1]
   clear hW1 hmk
   have hk0:¬ s=0:=by omega
   go_loopw [7] (fun i wr=>∃ (v cO:Nat) (aO:Option Addr),v≤nn∧i=.int .i64 (v:Int)∧Hid (HN w nn s 0 none 0 [] v aO cO wr)) (fun i _=>nn - (intOf i).toNat)
   case atStart=>exact ⟨0,0,none,by omega,rfl,N1⟩
   case round =>
    obtain ⟨v,cO,aO,hv,rfl,HS⟩:=hrel
    clear N1
    by_cases hlt:v<nn
    ·have b2:(v:Int)<(nn:Int):=by omega
     have x1:wr.drew.cell? ⟨w.heap.size+1+1,1,none⟩=some (.slice aO v cO):=HS.out.drew.hb.cell 1 rfl
     have y1:(wr.drew.alloc (.cells #[.int .i64 (1+(v:Int).tmod (s:Int))] 3)).cell? ⟨w.heap.size+1+1,1,none⟩=some (.slice aO v cO):=(HS.out.drew.up (belA _ _)).hb.cell 1 rfl
     rw [drew_alloc13] at y1
     have HOw:=hideIt (HS.out.drew.ow.alloc (.cells #[.int .i64 (1+(v:Int).tmod (s:Int))] 3))
     rw [drew_alloc13] at HOw
     have HNw:=hideIt (newsI wr.drew (1+(v:Int).tmod (s:Int)))
     rw [drew_alloc13] at HNw
     have ht1:0≤(v:Int).tmod (s:Int):=Int.tmod_nonneg _ (by omega)
     have ht2:(v:Int).tmod (s:Int)<3:=by have:=Int.tmod_lt_of_pos (v:Int) (b:=(s:Int)) (by omega);omega
     have hwr:IntKind.i64.wrap (1+(v:Int).tmod (s:Int))=1+(v:Int).tmod (s:Int):=by rw [IntKind.wrap_i64];omega
     go_upto_region 7 with fail
     refine wp_region_any (by kernel_rfl) ?_
     change wpAny _ _ _ _ _ _ _ (World.drew _)
     refine takeOp (i:=0) (v:=?_) rfl (by kernel_rfl) (by kernel_rfl) (by kernel_rfl) (fun _ _ _ h=>h) (by kernel_rfl) ?_ ?_
     rotate_left
     ·intro w;go_simp;try with_reducible rfl
     try simp only [Act.put,pU0]
     refine takeOp (i:=2) (v:=?_) rfl (by kernel_rfl) (by kernel_rfl) (by kernel_rfl) (fun _ _ _ h=>h) (by kernel_rfl) ?_ ?_
     rotate_left
     ·intro w;go_simp;try with_reducible rfl
     try simp only [Act.put,pU0]
     refine takeOp (i:=3) (v:=?_) rfl (by kernel_rfl) (by kernel_rfl) (by kernel_rfl) (fun _ _ _ h=>h) (by kernel_rfl) ?_ ?_
     rotate_left
     ·intro w;go_simp;try with_reducible rfl
     try simp only [Act.put,pU0]
     refine takeOp (i:=4) (v:=?_) rfl (by kernel_rfl) (by kernel_rfl) (by kernel_rfl) (fun _ _ _ h=>h) (by kernel_rfl) ?_ ?_
     rotate_left
     ·intro w;go_simp;try with_reducible rfl
     try simp only [Act.put,pU0]
     refine takeOp (i:=5) (v:=?_) rfl (by kernel_rfl) (by kernel_rfl) (by kernel_rfl) (fun _ _ _ h=>h) (by kernel_rfl) ?_ ?_
     rotate_left
     ·intro w;go_simp;try with_reducible rfl
     try simp only [Act.put,pU0]
     refine wpAny_ready (rs:=[1,6]) (by kernel_rfl) (by simp) ?_
     refine AllReady.cons rfl (fun K hK=>?_) (AllReady.cons rfl (fun K hK=>?_) AllReady.nil)
     ·go_simp
      refine hK _ _ ?_
      clear hK K
      try simp only [Act.put,pU0]
      refine wpAny_ready (rs:=[6]) (by kernel_rfl) (by simp) ?_
      refine AllReady.cons rfl (fun K hK=>?_) AllReady.nil
      go_simp
      refine hK _ _ ?_
      clear hK K
      try simp only [Act.put,pU0]
      refine wpAny_ready (rs:=[7]) (by kernel_rfl) (by simp) ?_
      refine AllReady.cons rfl (fun K hK=>?_) AllReady.nil
      refine step_append_lies _ rfl _ _ 24 rfl (w.heap.size+3) 3 i0 _ 1 8 Tryz.underlying24 hi hz0 hz1 hz2 rfl (by decide) _ _ _ rfl (HOw.out) ⟨wr.heap.size,0,none⟩ 1 1 [.int .i64 (1+(v:Int).tmod (s:Int))] rfl rfl (HNw.out) (by intro u hu;simp at hu;subst hu;rfl) (by omega) (by unfold maxLen;omega) (by omega) (by have:=HS.out.lt;simp;omega) (wr.heap.size+1) (by simp) ?_
      intro g5 c5 w5 hown5 hg5 hat5 hlt5
      rw [← drew_alloc13] at hg5
      have Q5:=HS.out.drew.boxO hg5
      have x5:=Q5.cell 1 rfl
      have f5:=Q5.frozen 1
      have HS5:=hideIt (HS.out.drew.own hown5 hg5 hat5)
      clear hown5 hg5 hat5 hlt5 Q5
      refine hK _ _ ?_
      clear hK K
      try simp only [Act.put,pU0]
      refine wpAny_ready (rs:=[8]) (by kernel_rfl) (by simp) ?_
      refine AllReady.cons rfl (fun K hK=>?_) AllReady.nil
      go_simp
      refine hK _ _ ?_
      clear hK K
      try simp only [Act.put,pU0]
      refine wpAny_ready (rs:=[9]) (by kernel_rfl) (by simp) ?_
      refine AllReady.cons rfl (fun K hK=>?_) AllReady.nil
      go_simp
      refine hK _ _ ?_
      clear hK K
      try simp only [Act.put,pU0]
      refine wpAny_done (by kernel_rfl) ?_ _
      clear x5 f5
      go_wp2
      exact ⟨⟨v+1,c5,some ⟨g5,0,none⟩,by omega,by go_num,HS5⟩,by simp [intOf];omega⟩
     ·go_simp
      refine hK _ _ ?_
      clear hK K
      try simp only [Act.put,pU0]
      refine wpAny_ready (rs:=[1]) (by kernel_rfl) (by simp) ?_
      refine AllReady.cons rfl (fun K hK=>?_) AllReady.nil
      go_simp
      refine hK _ _ ?_
      clear hK K
      try simp only [Act.put,pU0]
      refine wpAny_ready (rs:=[7]) (by kernel_rfl) (by simp) ?_
      refine AllReady.cons rfl (fun K hK=>?_) AllReady.nil
      refine step_append_lies _ rfl _ _ 24 rfl (w.heap.size+3) 3 i0 _ 1 8 Tryz.underlying24 hi hz0 hz1 hz2 rfl (by decide) _ _ _ rfl (HOw.out) ⟨wr.heap.size,0,none⟩ 1 1 [.int .i64 (1+(v:Int).tmod (s:Int))] rfl rfl (HNw.out) (by intro u hu;simp at hu;subst hu;rfl) (by omega) (by unfold maxLen;omega) (by omega) (by have:=HS.out.lt;simp;omega) (wr.heap.size+1) (by simp) ?_
      intro g5 c5 w5 hown5 hg5 hat5 hlt5
      rw [← drew_alloc13] at hg5
      have Q5:=HS.out.drew.boxO hg5
      have x5:=Q5.cell 1 rfl
      have f5:=Q5.frozen 1
      have HS5:=hideIt (HS.out.drew.own hown5 hg5 hat5)
      clear hown5 hg5 hat5 hlt5 Q5
      refine hK _ _ ?_
      clear hK K
      try simp only [Act.put,pU0]
      refine wpAny_ready (rs:=[8]) (by kernel_rfl) (by simp) ?_
      refine AllReady.cons rfl (fun K hK=>?_) AllReady.nil
      go_simp
      refine hK _ _ ?_
      clear hK K
      try simp only [Act.put,pU0]
      refine wpAny_ready (rs:=[9]) (by kernel_rfl) (by simp) ?_
      refine AllReady.cons rfl (fun K hK=>?_) AllReady.nil
      go_simp
      refine hK _ _ ?_
      clear hK K
      try simp only [Act.put,pU0]
      refine wpAny_done (by kernel_rfl) ?_ _
      clear x5 f5
      go_wp2
      exact ⟨⟨v+1,c5,some ⟨g5,0,none⟩,by omega,by go_num,HS5⟩,by simp [intOf];omega⟩
    ·obtain rfl:v=nn:=by omega
     have HS1:=HS
     clear hlt hv HS
     go_wp2
     go_loopw [8] (fun i wr=>∃ (k cL:Nat) (aL:Option Addr) (R:List Rw),k≤s∧i=.int .i64 (k:Int)∧Hid (HN w v s k aL cL R v aO cO wr)) (fun i _=>s - (intOf i).toNat)
     case atStart=>exact ⟨0,0,none,[],by omega,rfl,HS1⟩
     case round =>
      obtain ⟨k,cL,aL,R,hk,rfl,HS⟩:=hrel
      clear HS1
      by_cases hlt:k<s
      ·have b2:(k:Int)<(s:Int):=by omega
       have y3:wr.drew.cell? ⟨w.heap.size+1+1,3,none⟩=some (.slice aL k cL):=HS.out.drew.hb.cell 3 rfl
       have y4:(wr.alloc (.cells #[] 107)).drew.cell? ⟨w.heap.size+1+1,3,none⟩=some (.slice aL k cL):=(HS.out.up (belA _ _)).drew.hb.cell 3 rfl
       have hz3:=HS.out.lt
       go_upto_region 11 with fail
       refine wp_region_any (by kernel_rfl) ?_
       change wpAny _ _ _ _ _ _ _ (World.drew _)
       refine takeOp (i:=0) (v:=?_) rfl (by kernel_rfl) (by kernel_rfl) (by kernel_rfl) (fun _ _ _ h=>h) (by kernel_rfl) ?_ ?_
       rotate_left
       ·intro w;go_simp;try with_reducible rfl
       try simp only [Act.put,pU0]
       refine takeOp (i:=2) (v:=?_) rfl (by kernel_rfl) (by kernel_rfl) (by kernel_rfl) (fun _ _ _ h=>h) (by kernel_rfl) ?_ ?_
       rotate_left
       ·intro w;go_simp;try with_reducible rfl
       try simp only [Act.put,pU0]
       refine wpAny_ready (rs:=[1,3]) (by kernel_rfl) (by simp) ?_
       refine AllReady.cons rfl (fun K hK=>?_) (AllReady.cons rfl (fun K hK=>?_) AllReady.nil)
       ·go_simp
        refine hK _ _ ?_
        clear hK K
        try simp only [Act.put,pU0]
        refine wpAny_ready (rs:=[3]) (by kernel_rfl) (by simp) ?_
        refine AllReady.cons rfl (fun K hK=>?_) AllReady.nil
        go_simp
        refine hK _ _ ?_
        clear hK K
        try simp only [Act.put,pU0]
        refine wpAny_ready (rs:=[4]) (by kernel_rfl) (by simp) ?_
        refine AllReady.cons rfl (fun K hK=>?_) AllReady.nil
        rw [if_pos]
        rotate_left
        ·kernel_rfl
        go_wp2_with (go_at_call 45;refine (HLb.out _ _).mono ?_;rintro e w3 ⟨g,c,rfl,o3,b3⟩;refine Hid.out ?_)
        refine (show ∀ {p:Prop},p→Hid p from fun h=>h) ?_
        have S3:=(HS.out.up (belA _ (.cells #[] 107))).drew.up b3
        have z3:w3.cell? ⟨w.heap.size+1+1,3,none⟩=some (.slice aL k cL):=S3.hb.cell 3 rfl
        have z4:(w3.alloc (.cells #[.slice (some ⟨g,0,none⟩) v c] 24)).cell? ⟨w.heap.size+1+1,3,none⟩=some (.slice aL k cL):=(S3.up (belA _ _)).hb.cell 3 rfl
        have HS3:=hideIt S3
        have HRw:=hideIt (RwB.of_own o3.out)
        have HRl:Hid (w.heap.size+3≤g∧∀ x ∈ R,x.g≠g):=⟨by have h1:=(o3.out.lt g rfl).1;simp at h1;omega,fun x hx e=>by have h1:=(o3.out.lt g rfl).1;have h2:=(HS.out.fb.ins x hx).2.2;simp at h1;omega⟩
        have HRz:Hid (wr.heap.size≤g):=by show _≤_;have h1:=(o3.out.lt g rfl).1;simp at h1;omega
        clear S3 b3 o3
        refine hK _ _ ?_
        clear hK K
        try simp only [Act.put,pU0]
        refine wpAny_ready (rs:=[5]) (by kernel_rfl) (by simp) ?_
        refine AllReady.cons rfl (fun K hK=>?_) AllReady.nil
        go_simp
        refine hK _ _ ?_
        clear hK K
        try simp only [Act.put,pU0]
        refine wpAny_ready (rs:=[6]) (by kernel_rfl) (by simp) ?_
        refine AllReady.cons rfl (fun K hK=>?_) AllReady.nil
        refine step_append_lies _ rfl _ _ 26 rfl (w.heap.size+3) 24 i1 _ 1 24 Tryz.underlying26 hi' hy0 hy1 hy2 rfl (by decide) _ _ _ rfl (HS3.out.fb.own.alloc (.cells #[.slice (some ⟨g,0,none⟩) v c] 24)) ⟨w3.heap.size,0,none⟩ 1 1 [.slice (some ⟨g,0,none⟩) v c] rfl rfl (newsH w3 _) (by intro u hu;simp at hu;subst hu;rfl) (by omega) (by unfold maxLen;omega) (by omega) (by have:=HS3.out.lt;simp;omega) (w3.heap.size+1) (by simp) ?_
        intro g5 c5 w5 hown5 hg5 hat5 hlt5
        have e5:Rw.hdr ⟨g,c,O.labs [] v v⟩=.slice (some ⟨g,0,none⟩) v c:=by unfold Rw.hdr;rw [O.labs_len]
        have Q5:=HS3.out.boxL hg5
        have x5:=Q5.cell 3 rfl
        have f5:=Q5.frozen 3
        rw [← e5] at hown5
        have HS5:=hideIt (HS3.out.lab (r:=⟨g,c,O.labs [] v v⟩) HRw.out HRl.out.1 HRl.out.2 (fun e=>by have h1:g<wr.heap.size:=(HS.out.ow.lt _ e).2;have h2:=HRz.out;omega) rfl hown5 hg5)
        clear hown5 hg5 hat5 hlt5 Q5 e5 HRw HRl HRz z3 z4
        refine hK _ _ ?_
        clear hK K
        try simp only [Act.put,pU0]
        refine wpAny_ready (rs:=[7]) (by kernel_rfl) (by simp) ?_
        refine AllReady.cons rfl (fun K hK=>?_) AllReady.nil
        go_simp
        refine hK _ _ ?_
        clear hK K
        try simp only [Act.put,pU0]
        refine wpAny_ready (rs:=[8]) (by kernel_rfl) (by simp) ?_
        refine AllReady.cons rfl (fun K hK=>?_) AllReady.nil
        go_simp
        refine hK _ _ ?_
        clear hK K
        try simp only [Act.put,pU0]
        refine wpAny_done (by kernel_rfl) ?_ _
        clear x5 f5 HS3
        go_wp2
        exact ⟨⟨k+1,c5,some ⟨g5,0,none⟩,_,by omega,by go_num,HS5⟩,by simp [intOf];omega⟩
       ·go_simp
        refine hK _ _ ?_
        clear hK K
        try simp only [Act.put,pU0]
        refine wpAny_ready (rs:=[1,4]) (by kernel_rfl) (by simp) ?_
        refine AllReady.cons rfl (fun K hK=>?_) (AllReady.cons rfl (fun K hK=>?_) AllReady.nil)
        ·go_simp
         refine hK _ _ ?_
         clear hK K
         try simp only [Act.put,pU0]
         refine wpAny_ready (rs:=[4]) (by kernel_rfl) (by simp) ?_
         refine AllReady.cons rfl (fun K hK=>?_) AllReady.nil
         rw [if_pos]
         rotate_left
         ·kernel_rfl
         go_wp2_with (go_at_call 45;refine (HLb.out _ _).mono ?_;rintro e w3 ⟨g,c,rfl,o3,b3⟩;refine Hid.out ?_)
         refine (show ∀ {p:Prop},p→Hid p from fun h=>h) ?_
         have S3:=(HS.out.up (belA _ (.cells #[] 107))).drew.up b3
         have z3:w3.cell? ⟨w.heap.size+1+1,3,none⟩=some (.slice aL k cL):=S3.hb.cell 3 rfl
         have z4:(w3.alloc (.cells #[.slice (some ⟨g,0,none⟩) v c] 24)).cell? ⟨w.heap.size+1+1,3,none⟩=some (.slice aL k cL):=(S3.up (belA _ _)).hb.cell 3 rfl
         have HS3:=hideIt S3
         have HRw:=hideIt (RwB.of_own o3.out)
         have HRl:Hid (w.heap.size+3≤g∧∀ x ∈ R,x.g≠g):=⟨by have h1:=(o3.out.lt g rfl).1;simp at h1;omega,fun x hx e=>by have h1:=(o3.out.lt g rfl).1;have h2:=(HS.out.fb.ins x hx).2.2;simp at h1;omega⟩
         have HRz:Hid (wr.heap.size≤g):=by show _≤_;have h1:=(o3.out.lt g rfl).1;simp at h1;omega
         clear S3 b3 o3
         refine hK _ _ ?_
         clear hK K
         try simp only [Act.put,pU0]
         refine wpAny_ready (rs:=[5]) (by kernel_rfl) (by simp) ?_
         refine AllReady.cons rfl (fun K hK=>?_) AllReady.nil
         go_simp
         refine hK _ _ ?_
         clear hK K
         try simp only [Act.put,pU0]
         refine wpAny_ready (rs:=[6]) (by kernel_rfl) (by simp) ?_
         refine AllReady.cons rfl (fun K hK=>?_) AllReady.nil
         refine step_append_lies _ rfl _ _ 26 rfl (w.heap.size+3) 24 i1 _ 1 24 Tryz.underlying26 hi' hy0 hy1 hy2 rfl (by decide) _ _ _ rfl (HS3.out.fb.own.alloc (.cells #[.slice (some ⟨g,0,none⟩) v c] 24)) ⟨w3.heap.size,0,none⟩ 1 1 [.slice (some ⟨g,0,none⟩) v c] rfl rfl (newsH w3 _) (by intro u hu;simp at hu;subst hu;rfl) (by omega) (by unfold maxLen;omega) (by omega) (by have:=HS3.out.lt;simp;omega) (w3.heap.size+1) (by simp) ?_
         intro g5 c5 w5 hown5 hg5 hat5 hlt5
         have e5:Rw.hdr ⟨g,c,O.labs [] v v⟩=.slice (some ⟨g,0,none⟩) v c:=by unfold Rw.hdr;rw [O.labs_len]
         have Q5:=HS3.out.boxL hg5
         have x5:=Q5.cell 3 rfl
         have f5:=Q5.frozen 3
         rw [← e5] at hown5
         have HS5:=hideIt (HS3.out.lab (r:=⟨g,c,O.labs [] v v⟩) HRw.out HRl.out.1 HRl.out.2 (fun e=>by have h1:g<wr.heap.size:=(HS.out.ow.lt _ e).2;have h2:=HRz.out;omega) rfl hown5 hg5)
         clear hown5 hg5 hat5 hlt5 Q5 e5 HRw HRl HRz z3 z4
         refine hK _ _ ?_
         clear hK K
         try simp only [Act.put,pU0]
         refine wpAny_ready (rs:=[7]) (by kernel_rfl) (by simp) ?_
         refine AllReady.cons rfl (fun K hK=>?_) AllReady.nil
         go_simp
         refine hK _ _ ?_
         clear hK K
         try simp only [Act.put,pU0]
         refine wpAny_ready (rs:=[8]) (by kernel_rfl) (by simp) ?_
         refine AllReady.cons rfl (fun K hK=>?_) AllReady.nil
         go_simp
         refine hK _ _ ?_
         clear hK K
         try simp only [Act.put,pU0]
         refine wpAny_done (by kernel_rfl) ?_ _
         clear x5 f5 HS3
         go_wp2
         exact ⟨⟨k+1,c5,some ⟨g5,0,none⟩,_,by omega,by go_num,HS5⟩,by simp [intOf];omega⟩
        ·rw [if_pos]
         rotate_left
         ·kernel_rfl
         go_wp2_with (go_at_call 45;refine (HLb.out _ _).mono ?_;rintro e w3 ⟨g,c,rfl,o3,b3⟩;refine Hid.out ?_)
         refine (show ∀ {p:Prop},p→Hid p from fun h=>h) ?_
         have S3:=(HS.out.up (belA _ (.cells #[] 107))).drew.up b3
         have z3:w3.cell? ⟨w.heap.size+1+1,3,none⟩=some (.slice aL k cL):=S3.hb.cell 3 rfl
         have z4:(w3.alloc (.cells #[.slice (some ⟨g,0,none⟩) v c] 24)).cell? ⟨w.heap.size+1+1,3,none⟩=some (.slice aL k cL):=(S3.up (belA _ _)).hb.cell 3 rfl
         have HS3:=hideIt S3
         have HRw:=hideIt (RwB.of_own o3.out)
         have HRl:Hid (w.heap.size+3≤g∧∀ x ∈ R,x.g≠g):=⟨by have h1:=(o3.out.lt g rfl).1;simp at h1;omega,fun x hx e=>by have h1:=(o3.out.lt g rfl).1;have h2:=(HS.out.fb.ins x hx).2.2;simp at h1;omega⟩
         have HRz:Hid (wr.heap.size≤g):=by show _≤_;have h1:=(o3.out.lt g rfl).1;simp at h1;omega
         clear S3 b3 o3
         refine hK _ _ ?_
         clear hK K
         try simp only [Act.put,pU0]
         refine wpAny_ready (rs:=[1,5]) (by kernel_rfl) (by simp) ?_
         refine AllReady.cons rfl (fun K hK=>?_) (AllReady.cons rfl (fun K hK=>?_) AllReady.nil)
         ·go_simp
          refine hK _ _ ?_
          clear hK K
          try simp only [Act.put,pU0]
          refine wpAny_ready (rs:=[5]) (by kernel_rfl) (by simp) ?_
          refine AllReady.cons rfl (fun K hK=>?_) AllReady.nil
          go_simp
          refine hK _ _ ?_
          clear hK K
          try simp only [Act.put,pU0]
          refine wpAny_ready (rs:=[6]) (by kernel_rfl) (by simp) ?_
          refine AllReady.cons rfl (fun K hK=>?_) AllReady.nil
          refine step_append_lies _ rfl _ _ 26 rfl (w.heap.size+3) 24 i1 _ 1 24 Tryz.underlying26 hi' hy0 hy1 hy2 rfl (by decide) _ _ _ rfl (HS3.out.fb.own.alloc (.cells #[.slice (some ⟨g,0,none⟩) v c] 24)) ⟨w3.heap.size,0,none⟩ 1 1 [.slice (some ⟨g,0,none⟩) v c] rfl rfl (newsH w3 _) (by intro u hu;simp at hu;subst hu;rfl) (by omega) (by unfold maxLen;omega) (by omega) (by have:=HS3.out.lt;simp;omega) (w3.heap.size+1) (by simp) ?_
          intro g5 c5 w5 hown5 hg5 hat5 hlt5
          have e5:Rw.hdr ⟨g,c,O.labs [] v v⟩=.slice (some ⟨g,0,none⟩) v c:=by unfold Rw.hdr;rw [O.labs_len]
          have Q5:=HS3.out.boxL hg5
          have x5:=Q5.cell 3 rfl
          have f5:=Q5.frozen 3
          rw [← e5] at hown5
          have HS5:=hideIt (HS3.out.lab (r:=⟨g,c,O.labs [] v v⟩) HRw.out HRl.out.1 HRl.out.2 (fun e=>by have h1:g<wr.heap.size:=(HS.out.ow.lt _ e).2;have h2:=HRz.out;omega) rfl hown5 hg5)
          clear hown5 hg5 hat5 hlt5 Q5 e5 HRw HRl HRz z3 z4
          refine hK _ _ ?_
          clear hK K
          try simp only [Act.put,pU0]
          refine wpAny_ready (rs:=[7]) (by kernel_rfl) (by simp) ?_
          refine AllReady.cons rfl (fun K hK=>?_) AllReady.nil
          go_simp
          refine hK _ _ ?_
          clear hK K
          try simp only [Act.put,pU0]
          refine wpAny_ready (rs:=[8]) (by kernel_rfl) (by simp) ?_
          refine AllReady.cons rfl (fun K hK=>?_) AllReady.nil
          go_simp
          refine hK _ _ ?_
          clear hK K
          try simp only [Act.put,pU0]
          refine wpAny_done (by kernel_rfl) ?_ _
          clear x5 f5 HS3
          go_wp2
          exact ⟨⟨k+1,c5,some ⟨g5,0,none⟩,_,by omega,by go_num,HS5⟩,by simp [intOf];omega⟩
         ·go_simp
          refine hK _ _ ?_
          clear hK K
          try simp only [Act.put,pU0]
          refine wpAny_ready (rs:=[1]) (by kernel_rfl) (by simp) ?_
          refine AllReady.cons rfl (fun K hK=>?_) AllReady.nil
          go_simp
          refine hK _ _ ?_
          clear hK K
          try simp only [Act.put,pU0]
          refine wpAny_ready (rs:=[6]) (by kernel_rfl) (by simp) ?_
          refine AllReady.cons rfl (fun K hK=>?_) AllReady.nil
          refine step_append_lies _ rfl _ _ 26 rfl (w.heap.size+3) 24 i1 _ 1 24 Tryz.underlying26 hi' hy0 hy1 hy2 rfl (by decide) _ _ _ rfl (HS3.out.fb.own.alloc (.cells #[.slice (some ⟨g,0,none⟩) v c] 24)) ⟨w3.heap.size,0,none⟩ 1 1 [.slice (some ⟨g,0,none⟩) v c] rfl rfl (newsH w3 _) (by intro u hu;simp at hu;subst hu;rfl) (by omega) (by unfold maxLen;omega) (by omega) (by have:=HS3.out.lt;simp;omega) (w3.heap.size+1) (by simp) ?_
          intro g5 c5 w5 hown5 hg5 hat5 hlt5
          have e5:Rw.hdr ⟨g,c,O.labs [] v v⟩=.slice (some ⟨g,0,none⟩) v c:=by unfold Rw.hdr;rw [O.labs_len]
          have Q5:=HS3.out.boxL hg5
          have x5:=Q5.cell 3 rfl
          have f5:=Q5.frozen 3
          rw [← e5] at hown5
          have HS5:=hideIt (HS3.out.lab (r:=⟨g,c,O.labs [] v v⟩) HRw.out HRl.out.1 HRl.out.2 (fun e=>by have h1:g<wr.heap.size:=(HS.out.ow.lt _ e).2;have h2:=HRz.out;omega) rfl hown5 hg5)
          clear hown5 hg5 hat5 hlt5 Q5 e5 HRw HRl HRz z3 z4
          refine hK _ _ ?_
          clear hK K
          try simp only [Act.put,pU0]
          refine wpAny_ready (rs:=[7]) (by kernel_rfl) (by simp) ?_
          refine AllReady.cons rfl (fun K hK=>?_) AllReady.nil
          go_simp
          refine hK _ _ ?_
          clear hK K
          try simp only [Act.put,pU0]
          refine wpAny_ready (rs:=[8]) (by kernel_rfl) (by simp) ?_
          refine AllReady.cons rfl (fun K hK=>?_) AllReady.nil
          go_simp
          refine hK _ _ ?_
          clear hK K
          try simp only [Act.put,pU0]
          refine wpAny_done (by kernel_rfl) ?_ _
          clear x5 f5 HS3
          go_wp2
          exact ⟨⟨k+1,c5,some ⟨g5,0,none⟩,_,by omega,by go_num,HS5⟩,by simp [intOf];omega⟩
      ·obtain rfl:k=s:=by omega
       clear HLb
       have XF:=BxA.setA (l:=[.int .i64 0,.slice none 0 0,.slice none 0 0,.slice none 0 0,.slice none 0 0,.int .i64 0,.int .i64 0,.int .i64 0,.int .i64 0,.int .i64 0,.int .i64 0,.int .i64 0,.slice none 0 0,.int .i64 0,.slice none 0 0]) HS.out.rs 0 [.int .i64 (v:Int),.slice aO v cO,.slice none 0 0,.slice aL k cL,.slice (some ⟨w.heap.size+1,0,none⟩) k k,.int .i64 0,.int .i64 0,.int .i64 0,.int .i64 0,.int .i64 0,.int .i64 0,.int .i64 0,.slice none 0 0,.int .i64 0,.slice none 0 0]
       rw [setV_all [.int .i64 0,.slice none 0 0,.slice none 0 0,.slice none 0 0,.slice none 0 0,.int .i64 0,.int .i64 0,.int .i64 0,.int .i64 0,.int .i64 0,.int .i64 0,.int .i64 0,.slice none 0 0,.int .i64 0,.slice none 0 0] [.int .i64 (v:Int),.slice aO v cO,.slice none 0 0,.slice aL k cL,.slice (some ⟨w.heap.size+1,0,none⟩) k k,.int .i64 0,.int .i64 0,.int .i64 0,.int .i64 0,.int .i64 0,.int .i64 0,.int .i64 0,.slice none 0 0,.int .i64 0,.slice none 0 0] rfl] at XF
       have c0_:=XF.at 0 rfl
       have c1_:=XF.at 1 rfl
       have c2_:=XF.at 2 rfl
       have c3_:=XF.at 3 rfl
       have c4_:=XF.at 4 rfl
       have c5_:=XF.at 5 rfl
       have c6_:=XF.at 6 rfl
       have c7_:=XF.at 7 rfl
       have c8_:=XF.at 8 rfl
       have c9_:=XF.at 9 rfl
       have c10_:=XF.at 10 rfl
       have c11_:=XF.at 11 rfl
       have c12_:=XF.at 12 rfl
       have c13_:=XF.at 13 rfl
       have c14_:=XF.at 14 rfl
       dsimp only [setA] at c0_ c1_ c2_ c3_ c4_ c5_ c6_ c7_ c8_ c9_ c10_ c11_ c12_ c13_ c14_
       have HC:=hideIt (And.intro c0_ (And.intro c1_ (And.intro c2_ (And.intro c3_ (And.intro c4_ (And.intro c5_ (And.intro c6_ (And.intro c7_ (And.intro c8_ (And.intro c9_ (And.intro c10_ (And.intro c11_ (And.intro c12_ (And.intro c13_ c14_))))))))))))))
       have k0:=HS.out.hb.cell 0 rfl
       have r0:=HS.out.rs.cell 0 rfl
       have z0:=HS.out.rs.frozen 0
       have k1:=HS.out.hb.cell 1 rfl
       have r1:=HS.out.rs.cell 1 rfl
       have z1:=HS.out.rs.frozen 1
       have k2:=HS.out.hb.cell 2 rfl
       have r2:=HS.out.rs.cell 2 rfl
       have z2:=HS.out.rs.frozen 2
       have k3:=HS.out.hb.cell 3 rfl
       have r3:=HS.out.rs.cell 3 rfl
       have z3:=HS.out.rs.frozen 3
       have k4:=HS.out.hb.cell 4 rfl
       have r4:=HS.out.rs.cell 4 rfl
       have z4:=HS.out.rs.frozen 4
       have k5:=HS.out.hb.cell 5 rfl
       have r5:=HS.out.rs.cell 5 rfl
       have z5:=HS.out.rs.frozen 5
       have k6:=HS.out.hb.cell 6 rfl
       have r6:=HS.out.rs.cell 6 rfl
       have z6:=HS.out.rs.frozen 6
       have k7:=HS.out.hb.cell 7 rfl
       have r7:=HS.out.rs.cell 7 rfl
       have z7:=HS.out.rs.frozen 7
       have k8:=HS.out.hb.cell 8 rfl
       have r8:=HS.out.rs.cell 8 rfl
       have z8:=HS.out.rs.frozen 8
       have k9:=HS.out.hb.cell 9 rfl
       have r9:=HS.out.rs.cell 9 rfl
       have z9:=HS.out.rs.frozen 9
       have k10:=HS.out.hb.cell 10 rfl
       have r10:=HS.out.rs.cell 10 rfl
       have z10:=HS.out.rs.frozen 10
       have k11:=HS.out.hb.cell 11 rfl
       have r11:=HS.out.rs.cell 11 rfl
       have z11:=HS.out.rs.frozen 11
       have k12:=HS.out.hb.cell 12 rfl
       have r12:=HS.out.rs.cell 12 rfl
       have z12:=HS.out.rs.frozen 12
       have k13:=HS.out.hb.cell 13 rfl
       have r13:=HS.out.rs.cell 13 rfl
       have z13:=HS.out.rs.frozen 13
       have k14:=HS.out.hb.cell 14 rfl
       have r14:=HS.out.rs.cell 14 rfl
       have z14:=HS.out.rs.frozen 14
       have HF:Hid (HOwn (setA wr w.heap.size 0 [.int .i64 (v:Int),.slice aO v cO,.slice none 0 0,.slice aL k cL,.slice (some ⟨w.heap.size+1,0,none⟩) k k,.int .i64 0,.int .i64 0,.int .i64 0,.int .i64 0,.int .i64 0,.int .i64 0,.int .i64 0,.slice none 0 0,.int .i64 0,.slice none 0 0]) w.heap.size (newH v k) ⟨⟨aO,v,cO⟩,nilS,⟨aL,k,cL⟩,⟨some ⟨w.heap.size+1,0,none⟩,k,k⟩,nilS,nilS⟩ R∧Below w.heap.size w (setA wr w.heap.size 0 [.int .i64 (v:Int),.slice aO v cO,.slice none 0 0,.slice aL k cL,.slice (some ⟨w.heap.size+1,0,none⟩) k k,.int .i64 0,.int .i64 0,.int .i64 0,.int .i64 0,.int .i64 0,.int .i64 0,.int .i64 0,.slice none 0 0,.int .i64 0,.slice none 0 0])) :=
        ⟨⟨own_mono (own_setA HS.out.ow (by omega) _ _) (by omega),World.ownsRow_nil _ _ _ _,(FB.setS HS.out.fb (by omega) _ _).lo (by omega),HS.out.rt,own_mono (own_setA HS.out.nu (by omega) _ _) (by omega),World.ownsRow_nil _ _ _ _,World.ownsRow_nil _ _ _ _⟩,below_setA HS.out.bl (by omega) _ _⟩
       have HP:Hid (HSep ⟨⟨aO,v,cO⟩,nilS,⟨aL,k,cL⟩,⟨some ⟨w.heap.size+1,0,none⟩,k,k⟩,nilS,nilS⟩ R):=by
        refine ⟨fun b hb e=>?_,HS.out.ne,fun r hr e=>?_⟩
        ·have h1:=(HS.out.ow.lt b hb).1
         simp [Value.ownBlock] at e
         omega
        ·have h1:=(HS.out.fb.ins r hr).2.1
         simp [Value.ownBlock] at e
         omega
       dsimp only [setA] at HF
       clear XF HS c0_ c1_ c2_ c3_ c4_ c5_ c6_ c7_ c8_ c9_ c10_ c11_ c12_ c13_ c14_
       go_wp2
       obtain ⟨c0_,c1_,c2_,c3_,c4_,c5_,c6_,c7_,c8_,c9_,c10_,c11_,c12_,c13_,c14_⟩:=HC.out
       exact bodyPost_ret (v:=.tuple #[.agg #[.int .i64 (v:Int),.slice aO v cO,.slice none 0 0,.slice aL k cL,.slice (some ⟨w.heap.size+1,0,none⟩) k k,.int .i64 0,.int .i64 0,.int .i64 0,.int .i64 0,.int .i64 0,.int .i64 0,.int .i64 0,.slice none 0 0,.int .i64 0,.slice none 0 0],.bool true]) (by simp [results,Tryz.results20,go_sem,c0_,c1_,c2_,c3_,c4_,c5_,c6_,c7_,c8_,c9_,c10_,c11_,c12_,c13_,c14_]) rfl ⟨aO,v,cO,aL,k,cL,_,R,by rw [HY.out.1,HY.out.2];rfl,by rw [HY.out.1];exact HF.out.1,HP.out,HF.out.2⟩
theorem tka_hd {wr u v:World} {T:Option Hd} {e:Ending} (hu:Below wr.heap.size wr u) (h:TkA u T e v):∃ (g':Hd) (p':Hp) (c':Int),e=.returned (.tuple #[.agg (hC g' p'),.int .i64 c'])∧Below wr.heap.size wr v∧Hid ((c' != 0)=T.isSome∧HdAt T v wr.heap.size g' p'):=by
 obtain ⟨g,p,c,h1,h2,h3⟩:=h
 refine ⟨g,p,c,h1,hu.trans (h2.mono hu.size),?_⟩
 cases T with
 | none=>dsimp only at h3;subst h3;exact ⟨rfl,trivial⟩
 | some h' =>
  obtain ⟨h4,h5,R,h6⟩:=h3
  exact ⟨by rcases h4 with h4 | h4 <;> subst h4 <;> rfl,h5,R,h6.low hu.size⟩
structure LvT (w wr:World) (G:Nat) (o:Option Hd) (rs:List O.RecV) (r:Option Hd) (g:Hd) (p:Hp):Prop where
 run:runO o rs=r
 hd:HdAt r wr w.heap.size g p
 bx:BxA wr G 35 (hC g p)
 rz:BxA wr w.heap.size 35 (hC zeroH zeroP)
 bel:Below w.heap.size w wr
set_option maxRecDepth 100000 in
set_option maxHeartbeats 16000000 in
theorem sHeadFrom_any (n sh:Int) (qs:List Q.RQ) (m:Nat) (hm:m≤1048576) (a:Option Addr) (c:Nat) (w:World) (hr:Q.RL w w.heap.size a m qs) (hg:∀ q ∈ qs,RG q) :
  Calls Tryz.prog 6 #[.int .i64 n,.int .i64 sh,.slice a m c] w fun e w'=>FrA w.heap.size w (runO (newO n sh) (qs.map (·.r))) e w':=by
 obtain ⟨o,ho⟩:=ex0 (newO n sh)
 have hi:∀ h,o=some h→HInv sh.toNat h:=by rw [ho];exact newO_inv
 rw [← ho]
 obtain ⟨k,hk⟩:∃ k:Bool,k=o.isSome:=⟨_,rfl⟩
 have Hk:=hideIt hk
 obtain ⟨W,hW⟩:=ex0 (w.alloc (.cells #[.int .i64 0,.slice none 0 0,.slice none 0 0,.slice none 0 0,.slice none 0 0,.int .i64 0,.int .i64 0,.int .i64 0,.int .i64 0,.int .i64 0,.int .i64 0,.int .i64 0,.slice none 0 0,.int .i64 0,.slice none 0 0] 35))
 have bW:Below w.heap.size w W:=by rw [hW];exact belA _ _
 have X0:Hid (BxA W w.heap.size 35 (hC zeroH zeroP)):=by rw [hW];exact BxA.new w _ _
 have lW:w.heap.size<W.heap.size:=X0.out.lt
 have HB:=hideIt bW
 have HN:Hid (Calls Tryz.prog 20 #[.int .i64 n,.int .i64 sh] W fun e w'=>∃ (g:Hd) (p:Hp),e=.returned (.tuple #[.agg (hC g p),.bool k])∧Below W.heap.size W w'∧HdAt o w' W.heap.size g p):=by
  rw [hk,ho]
  exact (sHeadNew_any n sh W).mono fun e w' h=>hna_hd h
 have HRl:=hideIt hr
 have HGr:=hideIt hg
 have HI:=hideIt hi
 have hlen:=hr.len
 clear ho hr hg hi bW hk
 go_enter Tryz.func6,Tryz.ntmps6
 go_upto_region 1 with fail
 rw [← hW]
 clear hW
 go_wp2_with (go_at_call 20;refine HN.out.mono ?_;rintro e w1 ⟨g,p,rfl,b1,hd⟩;refine Hid.out ?_)
 refine hidp20 ?_
 go_step
 go_step
 go_step
 go_step
 go_step
 go_step
 go_step
 go_step
 go_step
 go_step
 go_step
 go_step
 go_step
 go_step
 have T0:BxA (w1.alloc (.cells #[.int .i64 0,.slice none 0 0,.slice none 0 0,.slice none 0 0,.slice none 0 0,.int .i64 0,.int .i64 0,.int .i64 0,.int .i64 0,.int .i64 0,.int .i64 0,.int .i64 0,.slice none 0 0,.int .i64 0,.slice none 0 0] 35)) w1.heap.size 35 (hC zeroH zeroP):=BxA.new w1 _ _
 refine wp_storeH T0 rfl rfl rfl ?_
 intro v XV gv zv
 obtain ⟨G,hG⟩:=ex0 (w1.heap.size)
 have bv:Below w1.heap.size w1 v:=below_grB (belA w1 _) gv (Nat.le_refl _) (Nat.le_refl _)
 have bWv:Below W.heap.size W v:=b1.trans (bv.mono b1.size)
 have bwv:Below w.heap.size w v:=HB.out.trans (bWv.mono HB.out.size)
 rw [← hG] at XV
 rw [← hG]
 have LGw:Hid (w.heap.size+1≤G):=by have:=b1.size;show _≤_;omega
 have HV:Hid (LvT w v G o [] o g p):=⟨rfl,(hd.up bv).low HB.out.size,XV,X0.out.up bWv,bwv⟩
 clear T0 XV gv zv hG bv bWv bwv b1 hd HN X0
 go_wp2
 go_loopw [9,10] (fun kk i wr=>∃ (j:Nat) (r:Option Hd) (g:Hd) (p:Hp),j≤m∧i=.int .i64 (j:Int)∧kk=.bool r.isSome∧Hid (LvT w wr G o ((qs.take j).map (·.r)) r g p)) (fun _ i _=>m - (intOf i).toNat)
 case atStart=>exact ⟨0,o,g,p,by omega,rfl,by rw [Hk.out],HV⟩
 case round =>
  obtain ⟨j,r,g,p,hj,rfl,rfl,hst⟩:=hrel
  clear HV
  cases r with
  | none =>
   have HN:Hid (runO o (qs.map (·.r))=none):=by
    show _=_
    have h1:=hst.out.run
    rw [← List.take_append_drop j qs,List.map_append,runO_app,h1,runO_none]
   dsimp only [Option.isSome]
   by_cases hlt:j<m
   ·go_upto_region 13 with fail
    refine wp_region_lit ?_
    go_step
    go_step
    go_step
    go_step
    refine wp_storeH (h:=zeroH) (p:=zeroP) hst.out.rz rfl rfl rfl ?_
    intro vz XZ gz zz
    have HXZ:=hideIt XZ
    have HBz:Hid (Below w.heap.size w vz):=below_grB hst.out.bel gz (Nat.le_refl _) (Nat.le_refl _)
    clear XZ gz zz hst
    go_wp2
    exact bodyPost_ret (results_H2 Tryz.results6 rfl rfl HXZ.out) rfl ⟨zeroH,zeroP,by rw [HN.out];rfl,HBz.out,by rw [HN.out];exact trivial,fun _=>⟨rfl,rfl⟩⟩
   ·go_upto_region 13 with fail
    refine wp_region_lit ?_
    go_step
    go_step
    go_step
    go_step
    refine wp_storeH (h:=zeroH) (p:=zeroP) hst.out.rz rfl rfl rfl ?_
    intro vz XZ gz zz
    have HXZ:=hideIt XZ
    have HBz:Hid (Below w.heap.size w vz):=below_grB hst.out.bel gz (Nat.le_refl _) (Nat.le_refl _)
    clear XZ gz zz hst
    go_wp2
    exact bodyPost_ret (results_H2 Tryz.results6 rfl rfl HXZ.out) rfl ⟨zeroH,zeroP,by rw [HN.out];rfl,HBz.out,by rw [HN.out];exact trivial,fun _=>⟨rfl,rfl⟩⟩
  | some h =>
   dsimp only [Option.isSome]
   have hInv:HInv sh.toNat h:=HInv.run _ HI.out hst.out.run
   by_cases hlt:j<m
   ·obtain ⟨b,off,q,rfl,hbl,hq,hc,hv⟩:=(HRl.out.up hst.out.bel).at hlt
    obtain ⟨b',off',q',e',hbl',hq',hc',_⟩:=HRl.out.at hlt
    simp only [Option.some.injEq,Addr.mk.injEq,and_true] at e'
    obtain ⟨rfl,rfl⟩:=e'
    rw [hq] at hq'
    simp only [Option.some.injEq] at hq'
    subst hq'
    have hq1:=HGr.out q (List.mem_of_getElem? hq)
    have b1:(0:Int)≤(j:Int):=by omega
    have b2:(j:Int)<(m:Int):=by omega
    have HB:=hideIt hst.out.bel
    have c0:Below wr.heap.size wr wr:=Below.refl _ _
    have HAt:Hid (∀ u,Below w.heap.size w u→Q.RcAt u b (off+j*14) q):=fun u hu=>Q.rcAt fun o v hx=>by rw [hu.cell hbl'];exact hc' o v hx
    obtain ⟨T,hT⟩:=ex0 (stepR h q.r)
    obtain ⟨h0,R,hw⟩:=hst.out.hd
    have HX:=hideIt hst.out.bx
    have HRz:=hideIt hst.out.rz
    have Hlt:Hid (G<wr.heap.size):=hst.out.bx.lt
    have HGl:Hid (w.heap.size≤G):=by have:=LGw.out;show _≤_;omega
    have HT:Hid (runO o ((qs.take (j+1)).map (·.r))=T):=by
     show _=_
     rw [take_snocF qs j q hq,List.map_append,hT]
     show runO o ((qs.take j).map (·.r) ++ [q.r])=_
     rw [runO_snoc,hst.out.run]
     rfl
    have HRe:Hid (∀ u,Below wr.heap.size wr u→HR sh.toNat u g p):=fun u hu=>(hw.up hu).re (by rw [h0];exact hInv)
    have HVr:=hideIt hv
    have y0:wr.cell? ⟨b,off+j*14,none⟩=some (.int .i64 q.r.kind):=(HAt.out wr HB.out).1
    clear hq hc hc' hv hw hst hbl hbl' hInv
    by_cases hk1:q.r.kind=1
    ·have hkd:=hk1
     have HBe:Hid (∀ u,Below wr.heap.size wr u→Calls Tryz.prog 21 #[.agg (hC g p),.agg #[.int .i64 q.r.id,.int .i64 q.r.op,.int .i64 q.r.a,.int .i64 q.r.b]] u fun e v=>∃ (g':Hd) (p':Hp) (c':Int),e=.returned (.tuple #[.agg (hC g' p'),.int .i64 c'])∧Below wr.heap.size wr v∧Hid ((c' != 0)=T.isSome∧HdAt T v wr.heap.size g' p')):=fun u hu=>by
      have h1:=sTake_inv q.r.id q.r.op q.r.a q.r.b u (HRe.out u hu)
      rw [show takeR g q.r.id q.r.op q.r.a q.r.b=T by rw [hT,h0];unfold stepR;rw [if_pos hkd]] at h1
      exact h1.mono fun e v h2=>tka_hd hu h2
     have HSv:Hid (∀ u,Below w.heap.size w u→(fun u=>(u.cell? ⟨b,off+j*14+1,none⟩=some (.int .i64 q.r.id)∧u.cell? ⟨b,off+j*14+1+1,none⟩=some (.int .i64 q.r.op))∧u.cell? ⟨b,off+j*14+1+2,none⟩=some (.int .i64 q.r.a)∧u.cell? ⟨b,off+j*14+1+3,none⟩=some (.int .i64 q.r.b)) u):=fun u hu=>by
      obtain ⟨t0,t1,t2,t3,t4,_⟩:=HAt.out u hu
      exact ⟨⟨t1,t2⟩,t3,t4⟩
     have HS:Hid (∀ u,Below wr.heap.size wr u→(fun u=>(u.cell? ⟨b,off+j*14+1,none⟩=some (.int .i64 q.r.id)∧u.cell? ⟨b,off+j*14+1+1,none⟩=some (.int .i64 q.r.op))∧u.cell? ⟨b,off+j*14+1+2,none⟩=some (.int .i64 q.r.a)∧u.cell? ⟨b,off+j*14+1+3,none⟩=some (.int .i64 q.r.b)) u):=fun u hu=>HSv.out u (HB.out.trans (hu.mono HB.out.size))
     rw [hk1] at y0
     clear hT h0 hkd hk1 HVr HRe HAt hq1
     go_upto_region 8 with fail
     (
     refine wp_region_held_drew (S:=(fun u=>(u.cell? ⟨b,off+j*14+1,none⟩=some (.int .i64 q.r.id)∧u.cell? ⟨b,off+j*14+1+1,none⟩=some (.int .i64 q.r.op))∧u.cell? ⟨b,off+j*14+1+2,none⟩=some (.int .i64 q.r.a)∧u.cell? ⟨b,off+j*14+1+3,none⟩=some (.int .i64 q.r.b))) (by kernel_rfl) (HS.out _ c0.drew) (fun hHeld=>?_)
     refine tq0 (i:=1) (v:=?_) rfl ?_ (by assumption) ?_
     rotate_left
     ·intro w hSw;obtain ⟨⟨s1,s2⟩,s3,s4⟩:=hSw;go_simp;try with_reducible rfl
     try simp only [Act.put,pU0]
     refine tq0 (i:=2) (v:=?_) rfl ?_ (by assumption) ?_
     rotate_left
     ·intro w hSw;obtain ⟨⟨s1,s2⟩,s3,s4⟩:=hSw;go_simp;try with_reducible rfl
     try simp only [Act.put,pU0]
     refine tq0 (i:=3) (v:=?_) rfl ?_ (by assumption) ?_
     rotate_left
     ·intro w hSw;obtain ⟨⟨s1,s2⟩,s3,s4⟩:=hSw;go_simp;try with_reducible rfl
     try simp only [Act.put,pU0]
     refine tq0 (i:=4) (v:=?_) rfl ?_ (by assumption) ?_
     rotate_left
     ·intro w hSw;obtain ⟨⟨s1,s2⟩,s3,s4⟩:=hSw;go_simp;try with_reducible rfl
     try simp only [Act.put,pU0]
     refine tq0 (i:=5) (v:=?_) rfl ?_ (by assumption) ?_
     rotate_left
     ·intro w hSw;obtain ⟨⟨s1,s2⟩,s3,s4⟩:=hSw;go_simp;try with_reducible rfl
     try simp only [Act.put,pU0]
     refine wr0 (i:=0) rfl (fun K hK=>?_)
     rw [if_pos]
     rotate_left
     ·kernel_rfl
     refine wp_loadH (HX.out.up c0.drew) rfl rfl ?_
     refine hK.out _ _ (HS.out _ c0.drew) (fun hHeld=>?_)
     clear hK K
     try simp only [pU0]
     refine wr0 (i:=6) rfl (fun K hK=>?_)
     rw [if_pos]
     rotate_left
     ·kernel_rfl
     go_wp2_with (go_at_call 21;refine (HBe.out _ c0.drew).mono ?_;rintro e w3 ⟨g',p3,c3,rfl,b3,hres⟩;refine Hid.out ?_)
     refine hidp20 ?_
     refine hK.out _ _ (HS.out _ b3) (fun hHeld=>?_)
     clear hK K
     try simp only [pU0]
     refine tq0 (i:=7) (v:=?_) rfl ?_ (by assumption) ?_
     rotate_left
     ·intro w hSw;obtain ⟨⟨s1,s2⟩,s3,s4⟩:=hSw;go_simp;try with_reducible rfl
     try simp only [Act.put,pU0]
     refine tq0 (i:=8) (v:=?_) rfl ?_ (by assumption) ?_
     rotate_left
     ·intro w hSw;obtain ⟨⟨s1,s2⟩,s3,s4⟩:=hSw;go_simp;try with_reducible rfl
     try simp only [Act.put,pU0]
     refine tq0 (i:=9) (v:=?_) rfl ?_ (by assumption) ?_
     rotate_left
     ·intro w hSw;obtain ⟨⟨s1,s2⟩,s3,s4⟩:=hSw;go_simp;try with_reducible rfl
     try simp only [Act.put,pU0]
     refine wr0 (i:=10) rfl (fun K hK=>?_)
     rw [if_pos]
     rotate_left
     ·kernel_rfl
     refine wp_storeH (HX.out.up b3) rfl rfl rfl ?_
     intro v XV gv zv
     have bv:Below w.heap.size w v:=below_grB (HB.out.trans (b3.mono HB.out.size)) gv HGl.out (Nat.le_refl _)
     refine hK.out _ _ (HSv.out _ bv) (fun hHeld=>?_)
     clear hK K
     try simp only [pU0]
     refine tq0 (i:=11) (v:=?_) rfl ?_ (by assumption) ?_
     rotate_left
     ·intro w hSw;obtain ⟨⟨s1,s2⟩,s3,s4⟩:=hSw;go_simp;try with_reducible rfl
     try simp only [Act.put,pU0]
     refine wpAnyH_done (by kernel_rfl) ?_ _
     clear hHeld
     have hf1:=hres.out.1
     have HV:Hid (LvT w v G o ((qs.take (j+1)).map (·.r)) T g' p3):=⟨HT.out,((hres.out.2.grB gv Hlt.out).low (by have:=HGl.out;have:=Hlt.out;omega)),XV,((HRz.out.up b3).grown gv (by have:=LGw.out;simp;omega)),bv⟩
     clear b3 hres XV gv zv bv HBe HX HRz HS HSv HB HT c0 y0
     go_wp2
     exact ⟨⟨j+1,T,g',p3,by omega,by go_num,by first | rfl | rw [hf1],HV⟩,by simp [intOf];omega⟩
     )
    ·by_cases hk2:q.r.kind=2
     ·have hkd:=And.intro hk1 hk2
      have HBe:Hid (∀ u,Below wr.heap.size wr u→Calls Tryz.prog 22 #[.agg (hC g p),.int .i64 q.r.sh,.agg #[.int .i64 q.r.an.num,.bool q.r.an.ok,.slice q.a1 q.k1 q.c1,.slice q.a2 q.k2 q.c2]] u fun e v=>∃ (g':Hd) (p':Hp) (c':Int),e=.returned (.tuple #[.agg (hC g' p'),.int .i64 c'])∧Below wr.heap.size wr v∧Hid ((c' != 0)=T.isSome∧HdAt T v wr.heap.size g' p')):=fun u hu=>by
       have h1:=sHear_inv q.r.sh q.r.an.num q.r.an.ok q.r.an.es q.r.an.ls q.a1 q.k1 q.c1 q.a2 q.k2 q.c2 u (HRe.out u hu) (HVr.out.e1.up hu) ((show Is wr wr.heap.size q.a2 q.k2 q.r.an.ls from HVr.out.e2).up hu) hq1.1 hq1.2.1 hq1.2.2.1 hq1.2.2.2
       rw [show hearR g q.r.sh q.r.an=T by rw [hT,h0];unfold stepR;rw [if_neg hkd.1,if_pos hkd.2]] at h1
       exact h1.mono fun e v h2=>tka_hd hu h2
      have HSv:Hid (∀ u,Below w.heap.size w u→(fun u=>u.cell? ⟨b,off+j*14+5,none⟩=some (.int .i64 q.r.sh)∧(u.cell? ⟨b,off+j*14+6,none⟩=some (.int .i64 q.r.an.num)∧u.cell? ⟨b,off+j*14+6+1,none⟩=some (.bool q.r.an.ok))∧u.cell? ⟨b,off+j*14+6+2,none⟩=some (.slice q.a1 q.k1 q.c1)∧u.cell? ⟨b,off+j*14+6+3,none⟩=some (.slice q.a2 q.k2 q.c2)) u):=fun u hu=>by
       obtain ⟨t0,t1,t2,t3,t4,t5,t6,t7,t8,t9,_⟩:=HAt.out u hu
       exact ⟨t5,⟨t6,t7⟩,t8,t9⟩
      have HS:Hid (∀ u,Below wr.heap.size wr u→(fun u=>u.cell? ⟨b,off+j*14+5,none⟩=some (.int .i64 q.r.sh)∧(u.cell? ⟨b,off+j*14+6,none⟩=some (.int .i64 q.r.an.num)∧u.cell? ⟨b,off+j*14+6+1,none⟩=some (.bool q.r.an.ok))∧u.cell? ⟨b,off+j*14+6+2,none⟩=some (.slice q.a1 q.k1 q.c1)∧u.cell? ⟨b,off+j*14+6+3,none⟩=some (.slice q.a2 q.k2 q.c2)) u):=fun u hu=>HSv.out u (HB.out.trans (hu.mono HB.out.size))
      rw [hk2] at y0
      clear hT h0 hkd hk1 hk2 HVr HRe HAt hq1
      go_upto_region 10 with fail
      (
      refine wp_region_held_drew (S:=(fun u=>u.cell? ⟨b,off+j*14+5,none⟩=some (.int .i64 q.r.sh)∧(u.cell? ⟨b,off+j*14+6,none⟩=some (.int .i64 q.r.an.num)∧u.cell? ⟨b,off+j*14+6+1,none⟩=some (.bool q.r.an.ok))∧u.cell? ⟨b,off+j*14+6+2,none⟩=some (.slice q.a1 q.k1 q.c1)∧u.cell? ⟨b,off+j*14+6+3,none⟩=some (.slice q.a2 q.k2 q.c2))) (by kernel_rfl) (HS.out _ c0.drew) (fun hHeld=>?_)
      refine tq0 (i:=1) (v:=?_) rfl ?_ (by assumption) ?_
      rotate_left
      ·intro w hSw;obtain ⟨s1,⟨s2,s3⟩,s4,s5⟩:=hSw;go_simp;try with_reducible rfl
      try simp only [Act.put,pU0]
      refine tq0 (i:=2) (v:=?_) rfl ?_ (by assumption) ?_
      rotate_left
      ·intro w hSw;obtain ⟨s1,⟨s2,s3⟩,s4,s5⟩:=hSw;go_simp;try with_reducible rfl
      try simp only [Act.put,pU0]
      refine tq0 (i:=3) (v:=?_) rfl ?_ (by assumption) ?_
      rotate_left
      ·intro w hSw;obtain ⟨s1,⟨s2,s3⟩,s4,s5⟩:=hSw;go_simp;try with_reducible rfl
      try simp only [Act.put,pU0]
      refine tq0 (i:=4) (v:=?_) rfl ?_ (by assumption) ?_
      rotate_left
      ·intro w hSw;obtain ⟨s1,⟨s2,s3⟩,s4,s5⟩:=hSw;go_simp;try with_reducible rfl
      try simp only [Act.put,pU0]
      refine tq0 (i:=5) (v:=?_) rfl ?_ (by assumption) ?_
      rotate_left
      ·intro w hSw;obtain ⟨s1,⟨s2,s3⟩,s4,s5⟩:=hSw;go_simp;try with_reducible rfl
      try simp only [Act.put,pU0]
      refine tq0 (i:=6) (v:=?_) rfl ?_ (by assumption) ?_
      rotate_left
      ·intro w hSw;obtain ⟨s1,⟨s2,s3⟩,s4,s5⟩:=hSw;go_simp;try with_reducible rfl
      try simp only [Act.put,pU0]
      refine tq0 (i:=7) (v:=?_) rfl ?_ (by assumption) ?_
      rotate_left
      ·intro w hSw;obtain ⟨s1,⟨s2,s3⟩,s4,s5⟩:=hSw;go_simp;try with_reducible rfl
      try simp only [Act.put,pU0]
      refine tq0 (i:=8) (v:=?_) rfl ?_ (by assumption) ?_
      rotate_left
      ·intro w hSw;obtain ⟨s1,⟨s2,s3⟩,s4,s5⟩:=hSw;go_simp;try with_reducible rfl
      try simp only [Act.put,pU0]
      refine tq0 (i:=9) (v:=?_) rfl ?_ (by assumption) ?_
      rotate_left
      ·intro w hSw;obtain ⟨s1,⟨s2,s3⟩,s4,s5⟩:=hSw;go_simp;try with_reducible rfl
      try simp only [Act.put,pU0]
      refine tq0 (i:=10) (v:=?_) rfl ?_ (by assumption) ?_
      rotate_left
      ·intro w hSw;obtain ⟨s1,⟨s2,s3⟩,s4,s5⟩:=hSw;go_simp;try with_reducible rfl
      try simp only [Act.put,pU0]
      refine wr0 (i:=0) rfl (fun K hK=>?_)
      rw [if_pos]
      rotate_left
      ·kernel_rfl
      refine wp_loadH (HX.out.up c0.drew) rfl rfl ?_
      refine hK.out _ _ (HS.out _ c0.drew) (fun hHeld=>?_)
      clear hK K
      try simp only [pU0]
      refine wr0 (i:=11) rfl (fun K hK=>?_)
      rw [if_pos]
      rotate_left
      ·kernel_rfl
      go_wp2_with (go_at_call 22;refine (HBe.out _ c0.drew).mono ?_;rintro e w3 ⟨g',p3,c3,rfl,b3,hres⟩;refine Hid.out ?_)
      refine hidp20 ?_
      refine hK.out _ _ (HS.out _ b3) (fun hHeld=>?_)
      clear hK K
      try simp only [pU0]
      refine tq0 (i:=12) (v:=?_) rfl ?_ (by assumption) ?_
      rotate_left
      ·intro w hSw;obtain ⟨s1,⟨s2,s3⟩,s4,s5⟩:=hSw;go_simp;try with_reducible rfl
      try simp only [Act.put,pU0]
      refine tq0 (i:=13) (v:=?_) rfl ?_ (by assumption) ?_
      rotate_left
      ·intro w hSw;obtain ⟨s1,⟨s2,s3⟩,s4,s5⟩:=hSw;go_simp;try with_reducible rfl
      try simp only [Act.put,pU0]
      refine tq0 (i:=14) (v:=?_) rfl ?_ (by assumption) ?_
      rotate_left
      ·intro w hSw;obtain ⟨s1,⟨s2,s3⟩,s4,s5⟩:=hSw;go_simp;try with_reducible rfl
      try simp only [Act.put,pU0]
      refine wr0 (i:=15) rfl (fun K hK=>?_)
      rw [if_pos]
      rotate_left
      ·kernel_rfl
      refine wp_storeH (HX.out.up b3) rfl rfl rfl ?_
      intro v XV gv zv
      have bv:Below w.heap.size w v:=below_grB (HB.out.trans (b3.mono HB.out.size)) gv HGl.out (Nat.le_refl _)
      refine hK.out _ _ (HSv.out _ bv) (fun hHeld=>?_)
      clear hK K
      try simp only [pU0]
      refine tq0 (i:=16) (v:=?_) rfl ?_ (by assumption) ?_
      rotate_left
      ·intro w hSw;obtain ⟨s1,⟨s2,s3⟩,s4,s5⟩:=hSw;go_simp;try with_reducible rfl
      try simp only [Act.put,pU0]
      refine wpAnyH_done (by kernel_rfl) ?_ _
      clear hHeld
      have hf1:=hres.out.1
      have HV:Hid (LvT w v G o ((qs.take (j+1)).map (·.r)) T g' p3):=⟨HT.out,((hres.out.2.grB gv Hlt.out).low (by have:=HGl.out;have:=Hlt.out;omega)),XV,((HRz.out.up b3).grown gv (by have:=LGw.out;simp;omega)),bv⟩
      clear b3 hres XV gv zv bv HBe HX HRz HS HSv HB HT c0 y0
      go_wp2
      exact ⟨⟨j+1,T,g',p3,by omega,by go_num,by first | rfl | rw [hf1],HV⟩,by simp [intOf];omega⟩
      )
     ·have hTn:T=none:=by rw [hT];unfold stepR;rw [if_neg hk1,if_neg hk2]
      subst hTn
      have d1:(q.r.kind == 1)=false:=by simpa using hk1
      have d2:(q.r.kind == 2)=false:=by simpa using hk2
      have HV:Hid (LvT w wr G o ((qs.take (j+1)).map (·.r)) none g p):=⟨HT.out,trivial,HX.out,HRz.out,HB.out⟩
      clear hT h0 hk1 hk2 HVr HRe HAt hq1 HX HRz HB HT c0
      go_wp2
      exact ⟨⟨j+1,none,g,p,by omega,by go_num,rfl,HV⟩,by simp [intOf];omega⟩
   ·have HN:Hid (runO o (qs.map (·.r))=some h):=by
     show _=_
     have h1:=hst.out.run
     rw [List.take_of_length_le (by omega)] at h1
     exact h1
    obtain ⟨h0,R,hw⟩:=hst.out.hd
    have HCp:=hideIt (l12Copy_inv wr (hw.re (by rw [h0];exact hInv)))
    have HH0:=hideIt h0
    clear hw h0 hInv
    go_upto_region 14 with fail
    refine wp_region_lit ?_
    go_step
    refine wp_loadH hst.out.bx rfl rfl ?_
    go_wp2_with (go_at_call 23;refine HCp.out.mono ?_;rintro e w2 ⟨p',R',rfl,hw2,b2⟩;refine Hid.out ?_)
    refine hidp20 ?_
    go_step
    go_step
    refine wp_storeH (hst.out.rz.up b2) rfl rfl rfl ?_
    intro vz XZ gz zz
    have HXZ:=hideIt XZ
    have HBz:Hid (Below w.heap.size w vz):=below_grB (hst.out.bel.trans (b2.mono hst.out.bel.size)) gz (Nat.le_refl _) (Nat.le_refl _)
    have HDz:Hid (HdAt (some h) vz w.heap.size g p'):=⟨HH0.out,R',(hw2.keepBx (hst.out.rz.up b2) gz).low hst.out.bel.size⟩
    clear XZ gz zz hst hw2 b2 HCp
    go_wp2
    exact bodyPost_ret (results_H2 Tryz.results6 rfl rfl HXZ.out) rfl ⟨g,p',by rw [HN.out];rfl,HBz.out,by rw [HN.out];exact HDz.out,fun e=>by rw [HN.out] at e;cases e⟩
theorem markSaidS_zero (a:Option Addr) (c:Nat) (k0:Int) (w:World) :
  Calls Tryz.prog 17 #[.slice a 0 c,.int .i64 k0] w fun e w'=>e=.returned (.int .i64 k0)∧w'=w:=by
 go_enter Tryz.func17,Tryz.ntmps17
 go_wp2
 refine wp_loop_rounds 1 ?_
 rw [rounds_succ]
 go_wp2
 go_ret
 exact ⟨rfl,rfl⟩
theorem markI13 {u:World} {base n c k0:Nat} {a:Option Addr} {xs:List Value} (hn:n≤1048576) (hk:k0≤10000000) (h:u.ownsRow base 3 1 (.slice a n c) n xs) :
  Calls Tryz.prog 34 #[.slice a n c,.int .i64 (k0:Int)] u fun e v=>e=.returned (.int .i64 ((k0:Int)+(n:Int)))∧v.ownsRow base 3 1 (.slice a n c) n (ic (imarks k0 n))∧u.grownBy v (Value.slice a n c).ownBlock:=by
 rcases h.2 with ⟨hv,h0⟩ | ⟨g,cap,cur,hv,_⟩
 ·simp at hv
  obtain ⟨rfl,rfl,rfl⟩:=hv
  refine (markIntS_zero none 0 (k0:Int) u).mono fun e v ⟨he,hw⟩=>?_
  subst hw
  exact ⟨by rw [he];simp,World.ownsRow_nil _ _ _ _,grown_of_below (Below.refl _ _) _⟩
 ·simp at hv
  obtain ⟨rfl,rfl⟩:=hv
  exact markIntS_any base g c n k0 xs hn hk u h
theorem mkR_g {k:Nat} {R:List Rw} {x:Rw} (h:x ∈ mkR k R):∃ r ∈ R,r.g=x.g:=by
 induction R generalizing k with
 | nil=>simp [mkR] at h
 | cons r R ih =>
  rw [mkR] at h
  rcases List.mem_cons.1 h with rfl | h
  ·exact ⟨r,by simp,rfl⟩
  ·obtain ⟨y,hy,e⟩:=ih h
   exact ⟨y,by simp [hy],e⟩
theorem own_tur {u v:World} {R:List Rw} {base e s n:Nat} {x:Value} {xs:List Value} (h:u.ownsRow base e s x n xs) (ht:Tur R u v) (hne:∀ r ∈ R,x.ownBlock≠some r.g):v.ownsRow base e s x n xs:=by
 refine ⟨h.1,?_⟩
 rcases h.2 with h3 | ⟨g,cap,cur,hv,hg,hcur,hrest⟩
 ·exact .inl h3
 ·have hgl:=h.lt g (by rw [hv];rfl)
  refine .inr ⟨g,cap,cur,hv,hg,?_,hrest⟩
  rw [ht.block g hgl.2 fun r hr e=>hne r hr (by rw [hv,e];rfl)]
  exact hcur
def mkS (q:Nat):Sd:=⟨(q:Int),(q:Int)+1,(q:Int)+1+1,(q:Int)+1+1+1,(q:Int)+1+1+1+1,(q:Int)+1+1+1+1+1⟩
def marksS (k0 n:Nat):List Sd:=(List.range n).map fun t=>mkS (k0+t*6)
theorem marksS_snoc (k0 n:Nat):marksS k0 (n+1)=marksS k0 n ++ [mkS (k0+n*6)]:=by simp [marksS,List.range_succ]
theorem marksS_at (k0 n j:Nat) (h:j<n):(marksS k0 n)[j]?=some (mkS (k0+j*6)):=by simp [marksS,h]
set_option maxRecDepth 100000 in
set_option maxHeartbeats 4000000 in
theorem markSaidS_any (base g c n k0:Nat) (ss:List Sd) (hn:n≤1000) (hk1:k0≤1000000) (w:World) (h:w.ownsRow base 82 6 (.slice (some ⟨g,0,none⟩) n c) n (scells ss)) :
  Calls Tryz.prog 17 #[.slice (some ⟨g,0,none⟩) n c,.int .i64 (k0:Int)] w fun e w'=>e=.returned (.int .i64 ((k0+n*6:Nat):Int)) ∧
   w'.ownsRow base 82 6 (.slice (some ⟨g,0,none⟩) n c) n (scells (marksS k0 n))∧w.grownBy w' (some g):=by
 have HO0:=hideIt h
 clear h
 go_enter Tryz.func17,Tryz.ntmps17
 go_wp2
 go_loopw [1,5] (fun kk i wr=>∃ (j q:Nat) (xs:List Value),j≤n∧i=.int .i64 (j:Int)∧kk=.int .i64 (q:Int)∧Hid (q=k0+j*6)∧Hid (xs.take (j*6)=scells (marksS k0 j)) ∧
   wr.ownsRow base 82 6 (.slice (some ⟨g,0,none⟩) n c) n xs∧w.grownBy wr (some g)) (fun _ i _=>n - (intOf i).toNat)
 case atStart=>exact ⟨0,k0,_,by omega,rfl,rfl,by show _=_;omega,by show _=_;simp [scells,marksS],HO0.out,⟨rfl,rfl,rfl,Nat.le_refl _,fun _ _ _=>rfl⟩⟩
 case round =>
  obtain ⟨j,q,xs,hj,rfl,rfl,hq,hx,hown,hgr⟩:=hrel
  clear HO0
  have hl3:xs.length=n*6:=hown.1
  by_cases hlt:j<n
  ·have b1:(0:Int)≤(j:Int):=by omega
   have b2:(j:Int)<(n:Int):=by omega
   have hqb:q≤1010000:=by have:=hq.out;omega
   have fz:=hown.frozenAt
   have xc:∀ o,o<6→wr.cell? ⟨g,j*6+o,none⟩=some (xs[j*6+o]?.getD default):=fun o ho=>by rw [hown.cellAt (j*6+o) (by omega),List.getElem?_eq_getElem (by omega)];rfl
   have f0:=fz (j*6)
   have f1:=fz (j*6+1)
   have f2:=fz (j*6+2)
   have f3:=fz (j*6+3)
   have f4:=fz (j*6+4)
   have f5:=fz (j*6+5)
   have x0:=xc 0 (by omega)
   rw [Nat.add_zero] at x0
   have x1:=xc 1 (by omega)
   have x2:=xc 2 (by omega)
   have x3:=xc 3 (by omega)
   have x4:=xc 4 (by omega)
   have x5:=xc 5 (by omega)
   obtain ⟨W1,e1⟩:∃ W,W=wr.setCell ⟨g,j*6,none⟩ (.int .i64 (q:Int)):=⟨_,rfl⟩
   have s0:=hown.stored (j*6) (.int .i64 (q:Int))
   rw [← e1] at s0
   obtain ⟨W2,e2⟩:∃ W,W=W1.setCell ⟨g,j*6+1,none⟩ (.int .i64 ((q:Int)+1)):=⟨_,rfl⟩
   have s1:=s0.1.stored (j*6+1) (.int .i64 ((q:Int)+1))
   rw [← e2] at s1
   obtain ⟨W3,e3⟩:∃ W,W=W2.setCell ⟨g,j*6+1+1,none⟩ (.int .i64 ((q:Int)+1+1)):=⟨_,rfl⟩
   have s2:=s1.1.stored (j*6+1+1) (.int .i64 ((q:Int)+1+1))
   rw [← e3] at s2
   obtain ⟨W4,e4⟩:∃ W,W=W3.setCell ⟨g,j*6+1+2,none⟩ (.int .i64 ((q:Int)+1+1+1)):=⟨_,rfl⟩
   have s3:=s2.1.stored (j*6+1+2) (.int .i64 ((q:Int)+1+1+1))
   rw [← e4] at s3
   obtain ⟨W5,e5⟩:∃ W,W=W4.setCell ⟨g,j*6+1+3,none⟩ (.int .i64 ((q:Int)+1+1+1+1)):=⟨_,rfl⟩
   have s4:=s3.1.stored (j*6+1+3) (.int .i64 ((q:Int)+1+1+1+1))
   rw [← e5] at s4
   obtain ⟨W6,e6⟩:∃ W,W=W5.setCell ⟨g,j*6+5,none⟩ (.int .i64 ((q:Int)+1+1+1+1+1)):=⟨_,rfl⟩
   have s5:=s4.1.stored (j*6+5) (.int .i64 ((q:Int)+1+1+1+1+1))
   rw [← e6] at s5
   have HO2:=hideIt s5.1
   have HG2:=hideIt (grown_trans (grown_trans (grown_trans (grown_trans (grown_trans (grown_trans hgr s0.2) s1.2) s2.2) s3.2) s4.2) s5.2)
   have HX:Hid (((((((xs.set (j*6) (.int .i64 (q:Int))).set (j*6+1) (.int .i64 ((q:Int)+1))).set (j*6+1+1) (.int .i64 ((q:Int)+1+1))).set (j*6+1+2) (.int .i64 ((q:Int)+1+1+1))).set (j*6+1+3) (.int .i64 ((q:Int)+1+1+1+1))).set (j*6+5) (.int .i64 ((q:Int)+1+1+1+1+1))).take ((j+1)*6)=scells (marksS k0 (j+1))):=by
    show _=_
    rw [show (j+1)*6=j*6+6 by omega,show j*6+1+1=j*6+2 by omega,show j*6+1+2=j*6+3 by omega,show j*6+1+3=j*6+4 by omega,take_set6 _ _ _ _ _ _ _ _ (by omega),hx.out,marksS_snoc,scells_snoc,← hq.out]
    rfl
   clear s0 s1 s2 s3 s4 s5 hx hown hgr fz xc
   go_upto_region 3 with fail
   rw [← e1,← e2,← e3,← e4,← e5,← e6]
   clear e1 e2 e3 e4 e5 e6 x0 x1 x2 x3 x4 x5 f0 f1 f2 f3 f4 f5 W1 W2 W3 W4 W5
   go_wp2
   exact ⟨⟨j+1,q+6,_,by omega,by go_num,by go_num,by have:=hq.out;show _=_;omega,HX,HO2.out,HG2.out⟩,by simp [intOf];omega⟩
  ·obtain rfl:j=n:=by omega
   have HX:Hid (xs=scells (marksS k0 j)):=by
    show _=_
    have:=hx.out
    rw [List.take_of_length_le (by omega)] at this
    exact this
   have HO:=hideIt hown
   clear hx hown
   go_wp2
   go_ret
   exact ⟨by rw [hq.out];rfl,by rw [← HX.out];exact HO.out,hgr⟩
set_option maxRecDepth 100000 in
set_option maxHeartbeats 4000000 in
theorem heldSaidS_any (n k0:Nat) (a:Option Addr) (c:Nat) (hn:n≤1000) (hk1:k0≤1000000) (w:World) (h:Ss w w.heap.size a n (marksS k0 n)) :
  Calls Tryz.prog 18 #[.slice a n c,.int .i64 (k0:Int)] w fun e w'=>e=.returned (.int .i64 ((k0+n*6:Nat):Int))∧w'=w:=by
 have HR:=hideIt h
 clear h
 go_enter Tryz.func18,Tryz.ntmps18
 go_wp2
 go_loopw [1,5] (fun kk i wr=>∃ (j q:Nat),j≤n∧i=.int .i64 (j:Int)∧kk=.int .i64 (q:Int)∧Hid (q=k0+j*6)∧w=wr) (fun _ i _=>n - (intOf i).toNat)
 case atStart=>exact ⟨0,k0,by omega,rfl,rfl,by show _=_;omega,by first | rfl | trivial⟩
 case round =>
  obtain ⟨j,q,hj,rfl,rfl,hq,rfl⟩:=hrel
  by_cases hlt:j<n
  ·obtain ⟨b,off,x,rfl,hbl,hxk,hat⟩:=HR.out.at hlt
   rw [marksS_at k0 n j hlt,← hq.out] at hxk
   simp only [Option.some.injEq] at hxk
   subst hxk
   obtain ⟨e0,e1,e2,e3,e4,e5⟩:=hat
   simp only [mkS] at e0 e1 e2 e3 e4 e5
   have b1:(0:Int)≤(j:Int):=by omega
   have b2:(j:Int)<(n:Int):=by omega
   have hqb:q≤1010000:=by have:=hq.out;omega
   go_wp2
   exact ⟨⟨j+1,q+6,by omega,by go_num,by go_num,by have:=hq.out;show _=_;omega,by first | rfl | trivial⟩,by simp [intOf];omega⟩
  ·obtain rfl:j=n:=by omega
   go_wp2
   go_ret
   exact ⟨by rw [hq.out];rfl,by first | rfl | trivial⟩
structure HK (u:World) (lo hi:Nat) (aO:Option Addr) (v cO:Nat) (aL:Option Addr) (k cL:Nat) (aN:Option Addr) (R:List Rw) (os ns:List Int):Prop where
 o:u.ownsRow lo 3 1 (.slice aO v cO) v (ic os)
 l:FB u lo hi aL k cL R
 n:u.ownsRow lo 3 1 (.slice aN k k) k (ic ns)
 oh:∀ g,(Value.slice aO v cO).ownBlock=some g→g<hi
 nh:∀ g,(Value.slice aN k k).ownBlock=some g→g<hi
 s:HSep (nwP aO v cO aL k cL aN) R
section
variable {u x:World} {lo hi l2 h2:Nat} {aO:Option Addr} {v cO:Nat} {aL:Option Addr} {k cL:Nat} {aN:Option Addr} {R:List Rw} {os ns:List Int}
theorem fb_grown {u x:World} {lo hi:Nat} {a:Option Addr} {n c:Nat} {R:List Rw} {v:Value} {m B:Nat} {xs:List Value} (h:FB u lo hi a n c R) (ho:u.ownsRow B 3 1 v m xs) (hg:u.grownBy x v.ownBlock) (hne:∀ r ∈ R,v.ownBlock≠some r.g):FB x lo hi a n c R:=by
 refine ⟨h.len,World.ownsRow.kept h.own hg ?_,h.row,Nat.le_trans h.there hg.size,fun r hr=>⟨(h.ins r hr).1.grown hg (hne r hr),(h.ins r hr).2⟩,h.nod⟩
 cases hb:(Value.slice a n c).ownBlock with
 | none=>exact .inl rfl
 | some b=>exact .inr fun e=>rowsNe h.own ho (by decide) b hb e.symm
end
end Go.Proofs.YtnagchanokbgdaaGreat
