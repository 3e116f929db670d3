/- The program's ReadOrder. Records as bytes, and how they are read: no program is named here. The specification's WholeLabels of right lists and cuts. -/
import Derived.Test.YtnagchanokbgdaaGreatJCon11
import Derived.Test.YtnagchanokbgdaaGreatJRd10
import Derived.Test.YtnagchanokbgdaaGreatJUn11
namespace Go.Proofs.YtnagchanokbgdaaGreat.O
open Go.RowKit Vt
theorem own_block {w:World} {B T S n cap:Nat} {a:Option Addr} {xs:List Value} {W:World} (h:w.ownsRow B T S (.slice a n cap) n xs) (hb:∀ g,B≤g→g<w.heap.size→W.heap[g]?=w.heap[g]?):W.ownsRow B T S (.slice a n cap) n xs:=by
 refine ⟨h.1,h.2.imp id ?_⟩
 rintro ⟨g,cp,cur,hv,hg,hc,rest⟩
 exact ⟨g,cp,cur,hv,hg,by rw [hb g hg (Array.getElem?_eq_some_iff.1 hc).1];exact hc,rest⟩
structure RecV where
 kind:Int
 id:Int
 op:Int
 a:Int
 b:Int
 sh:Int
 an:AnsV
 o:OrdV
end Go.Proofs.YtnagchanokbgdaaGreat.O
namespace Go.Proofs.YtnagchanokbgdaaGreat.O
open Go.RowKit
set_option maxRecDepth 100000 in
set_option maxHeartbeats 8000000 in
theorem sWholeLabels_yes (n:Nat) (hn1:1≤n) (hn:n≤12) (lss:List (List Int)) (q:Nat) (hq:q≤3) (a:Option Addr) (c:Nat) (cuts:List EdgeV) (m:Nat) (hm:m≤1000) (ac:Option Addr) (cc:Nat) (hl:∀ l ∈ lss,LOk n l) (hc:∀ e ∈ cuts,eB (n:Int) e=true) (w:World) (h:Ts w w.heap.size a q lss) (hE:Es w w.heap.size ac m cuts) :
  Calls Tryz.prog 51 #[.int .i64 (n:Int),.slice a q c,.slice ac m cc] w fun e w'=>∃ a' m' c',e=.returned (.tuple #[.slice a' m' c',.bool true])∧w'.ownsRow w.heap.size 3 1 (.slice a' m' c') m' (ic (labs (uE lss n ++ cuts) n n))∧Below w.heap.size w w':=by
 obtain ⟨i0,hi,hz0,hz1,hz2⟩:=info_parts infoIE
 have hEI:EsIn (uE lss n ++ cuts) n:=by
  intro e he
  rcases List.mem_append.1 he with h1 | h1
  ·unfold uE at h1
   obtain ⟨l,hl1,h2⟩:=List.mem_flatMap.1 h1
   unfold lE at h2
   obtain ⟨v,hv,h3⟩:=List.mem_flatMap.1 h2
   rw [List.mem_range] at hv
   have h4:=(hl l hl1).2 v hv
   by_cases h5:atI l (v:Int)<(v:Int)
   ·rw [if_pos h5] at h3
    simp at h3
    subst h3
    exact ⟨h4.1,h5,by show (v:Int)<(n:Int);omega⟩
   ·rw [if_neg h5] at h3
    simp at h3
  ·have:=(eB_iff (n:Int) e).1 (hc e h1);omega
 have HI:=hideIt l01In_any
 obtain ⟨hlen,hrow⟩:=h
 obtain ⟨hclen,hcrow⟩:=hE
 have HR:=hideIt hrow
 have HCr:=hideIt hcrow
 have HL:=hideIt hl
 have HC:=hideIt hc
 have HEI:=hideIt hEI
 have HLn:=hideIt hlen
 have HCn:=hideIt hclen
 have r0:decide (1≤(n:Int)∧(n:Int)≤12)=true:=decide_eq_true (by omega)
 have d1:decide ((3:Int)<(q:Int))=false:=decide_eq_false (by omega)
 have d2:decide ((1000:Int)<(m:Int))=false:=decide_eq_false (by omega)
 clear hrow hcrow hl hc hEI hlen hclen
 go_enter Tryz.func51,Tryz.ntmps51
 go_wp2_with (go_at_call 44;refine (HI.out _ _ _ _).mono ?_;rintro e w1 ⟨rfl,e9⟩;have e8:=e9.symm;subst e8)
 go_loopw [8,9] (fun v i wr=>∃ (k m':Nat) (a':Option Addr) (c':Nat) (gs:List EdgeV),k≤q∧i=.int .i64 (k:Int)∧v=.slice a' m' c'∧m'≤k*12∧Hid (gs=uE (lss.take k) n)∧ESt w a' m' c' gs wr) (fun _ i _=>q - (intOf i).toNat)
 case atStart=>exact ⟨0,0,_,_,[],by omega,rfl,rfl,by omega,by show _=_;simp [uE],ESt.start w⟩
 case round =>
  obtain ⟨k,m',a',c',gs,hk,rfl,rfl,hm,hgs,hst⟩:=hrel
  by_cases hlt:k<q
  ·rcases HR.out with hz | ⟨b,off,rfl,hbl,hcl⟩
   ·omega
   ·obtain ⟨l,hf⟩:∃ l,lss[k]?=some l:=⟨lss[k]'(by have:=HLn.out;omega),List.getElem?_eq_getElem (by have:=HLn.out;omega)⟩
    obtain ⟨a1,c1,e0',hIs,_⟩:=hcl k l hf
    obtain ⟨hl1,hl2⟩:=HL.out l (List.mem_of_getElem? hf)
    rw [hl1] at e0' hIs
    have b1:(0:Int)≤(k:Int):=by omega
    have b2:(k:Int)<(q:Int):=by omega
    have e0:wr.cell? ⟨b,off+k,none⟩=some (.slice a1 n c1):=by rw [hst.bel.cell (p:=⟨b,off+k,none⟩) hbl];exact e0'
    have d0:((n:Int) != (n:Int))=false:=by simp
    obtain ⟨_,hirow⟩:=hIs
    have HIr:=hideIt hirow
    have HL2:=hideIt hl2
    have HL1:=hideIt hl1
    have HU:=hideIt (uE_succ lss n k l hf)
    have He0:=hideIt e0'
    clear hcl hf hirow hl2 hl1 e0'
    go_wp2
    go_loopw [8,10] (fun v i wr=>∃ (j m2:Nat) (a2:Option Addr) (c2:Nat) (gs2:List EdgeV),j≤n∧i=.int .i64 (j:Int)∧v=.slice a2 m2 c2∧m2≤k*12+j∧Hid (gs2=gs ++ lE l j)∧ESt w a2 m2 c2 gs2 wr) (fun _ i _=>n - (intOf i).toNat)
    case atStart=>exact ⟨0,m',a',c',gs,by omega,rfl,rfl,by omega,by show _=_;simp [lE],hst⟩
    case round =>
     obtain ⟨j,m2,a2,c2,gs2,hj,rfl,rfl,hm2,hgs2,hst2⟩:=hrel
     clear hst e0
     by_cases hlv:j<n
     ·rcases HIr.out with hz | ⟨bi,offi,rfl,hbi,hci⟩
      ·omega
      ·have hx:l[j]?=some (atI l (j:Int)):=atI_some (by have:=HL1.out;omega)
       have e2:wr.cell? ⟨bi,offi+j,none⟩=some (.int .i64 (atI l (j:Int))):=by rw [hst2.bel.cell (p:=⟨bi,offi+j,none⟩) hbi];exact hci j _ hx
       have e0:wr.cell? ⟨b,off+k,none⟩=some (.slice (some ⟨bi,offi,none⟩) n c1):=by rw [hst2.bel.cell (p:=⟨b,off+k,none⟩) hbl];exact He0.out
       obtain ⟨g1,g2⟩:=HL2.out j hlv
       have b3:(0:Int)≤(j:Int):=by omega
       have b4:(j:Int)<(n:Int):=by omega
       have HLE:=hideIt (lE_succ l j)
       generalize atI l (j:Int)=y at *
       have r1:decide (0≤y∧y≤(j:Int))=true:=decide_eq_true (by omega)
       clear hci hx
       have z1:=hst2.size
       by_cases hy:y<(j:Int)
       ·have d3:decide (y<(j:Int))=true:=decide_eq_true hy
        have HG:Hid (gs2 ++ [(y,(j:Int))]=gs ++ lE l (j+1)):=by show _=_;rw [HLE.out,hgs2.out,if_pos hy,List.append_assoc]
        clear HLE hgs2
        go_wp2_with (first | (go_at_call 44;refine (HI.out _ _ _ _).mono ?_;rintro e w1 ⟨rfl,e9⟩;have e8:=e9.symm;subst e8) | (at_builtin;refine wpList_append_own _ rfl _ _ 25 rfl w.heap.size 107 i0 _ 2 16 Tryz.underlying25 hi hz0 hz1 hz2 rfl (by decide) _ _ _ rfl (hst2.own.alloc _) ⟨wr.heap.size,0,none⟩ 1 1 [.int .i64 y,.int .i64 (j:Int)] rfl (by simp) (by have:=news2 wr (y,(j:Int));simpa using this) (by intro u hu;simp at hu;rcases hu with rfl | rfl <;> rfl) (by unfold maxLen;omega) (by omega) (by simp;omega) ?_))
        intro v2 w2 hown2 hg2 hn2
        obtain ⟨a3,c3,rfl,hst3⟩:=hst2.app (x:=(y,(j:Int))) hown2 hg2
        clear hown2 hg2 hn2 hst2 e0 e2
        go_wp2
        exact ⟨⟨j+1,m2+1,a3,c3,gs2 ++ [(y,(j:Int))],by omega,by go_num,rfl,by omega,HG,hst3⟩,by simp [intOf];omega⟩
       ·have d3:decide (y<(j:Int))=false:=decide_eq_false hy
        have HG:Hid (gs2=gs ++ lE l (j+1)):=by show _=_;rw [HLE.out,hgs2.out,if_neg hy,List.append_nil]
        clear HLE hgs2
        go_wp2_with (go_at_call 44;refine (HI.out _ _ _ _).mono ?_;rintro e w1 ⟨rfl,e9⟩;have e8:=e9.symm;subst e8)
        exact ⟨⟨j+1,m2,a2,c2,gs2,by omega,by go_num,rfl,by omega,HG,hst2⟩,by simp [intOf];omega⟩
     ·obtain rfl:j=n:=by omega
      have HG:Hid (gs2=uE (lss.take (k+1)) j):=by show _=_;rw [HU.out,hgs2.out,hgs.out]
      clear hgs2 hgs HU
      go_wp2
      exact ⟨⟨k+1,m2,a2,c2,gs2,by omega,by go_num,rfl,by omega,HG,hst2⟩,by simp [intOf];omega⟩
  ·have HG:Hid (gs=uE lss n):=by show _=_;rw [hgs.out,List.take_of_length_le (by have:=HLn.out;omega)]
   have hm36:m'≤36:=by omega
   clear hgs HR HL hm
   go_wp2
   go_loopw [8,11] (fun v i wr=>∃ (j m2:Nat) (a2:Option Addr) (c2:Nat) (gs2:List EdgeV),j≤m∧i=.int .i64 (j:Int)∧v=.slice a2 m2 c2∧m2≤36+j∧Hid (gs2=gs ++ cuts.take j)∧ESt w a2 m2 c2 gs2 wr) (fun _ i _=>m - (intOf i).toNat)
   case atStart=>exact ⟨0,m',a',c',gs,by omega,rfl,rfl,by omega,by show _=_;simp,hst⟩
   case round =>
    obtain ⟨j,m2,a2,c2,gs2,hj,rfl,rfl,hm2,hgs2,hst2⟩:=hrel
    clear hst
    by_cases hlv:j<m
    ·rcases HCr.out with hz | ⟨b,off,rfl,hbl,hcl⟩
     ·omega
     ·obtain ⟨f,hf⟩:∃ f,cuts[j]?=some f:=⟨cuts[j]'(by have:=HCn.out;omega),List.getElem?_eq_getElem (by have:=HCn.out;omega)⟩
      obtain ⟨c0,c1⟩:=hcl j f hf
      have b1:(0:Int)≤(j:Int):=by omega
      have b2:(j:Int)<(m:Int):=by omega
      have e0:wr.cell? ⟨b,off+j*2,none⟩=some (.int .i64 f.1):=by rw [hst2.bel.cell hbl];exact c0
      have e1:wr.cell? ⟨b,off+j*2+1,none⟩=some (.int .i64 f.2):=by rw [hst2.bel.cell hbl];exact c1
      have he:=HC.out f (List.mem_of_getElem? hf)
      have HOk:Hid (Calls Tryz.prog 76 #[.int .i64 (n:Int),.agg #[.int .i64 f.1,.int .i64 f.2]] wr fun x w'=>x=.returned (.bool true)∧Below wr.heap.size wr w'):=by
       have:=sEdgeOk_any (n:Int) f wr
       rw [he] at this
       exact this
      have HG:Hid (gs2 ++ [f]=gs ++ cuts.take (j+1)):=by show _=_;rw [take_snocF cuts j f hf,hgs2.out,List.append_assoc]
      have Hc0:=hideIt c0
      have Hc1:=hideIt c1
      clear hcl hf c0 c1 he hgs2
      go_wp2_with (go_at_call 76;refine HOk.out.mono ?_;rintro e w3 ⟨rfl,b3⟩;refine Hid.out ?_)
      refine (show ∀ {p:Prop},p→Hid p from fun h=>h) ?_
      have hst3:=hst2.up b3
      have z1:=hst3.size
      have e0:w3.cell? ⟨b,off+j*2,none⟩=some (.int .i64 f.1):=by rw [hst3.bel.cell hbl];exact Hc0.out
      have e1:w3.cell? ⟨b,off+j*2+1,none⟩=some (.int .i64 f.2):=by rw [hst3.bel.cell hbl];exact Hc1.out
      clear b3 hst2 HOk
      go_wp2_with (at_builtin;refine wpList_append_own _ rfl _ _ 25 rfl w.heap.size 107 i0 _ 2 16 Tryz.underlying25 hi hz0 hz1 hz2 rfl (by decide) _ _ _ rfl (hst3.own.alloc _) ⟨w3.heap.size,0,none⟩ 1 1 [.int .i64 f.1,.int .i64 f.2] rfl (by simp) (by have:=news2 w3 f;simpa using this) (by intro u hu;simp at hu;rcases hu with rfl | rfl <;> rfl) (by unfold maxLen;omega) (by omega) (by simp;omega) ?_)
      intro v2 w2 hown2 hg2 hn2
      obtain ⟨a3,c3,rfl,hst4⟩:=hst3.app (x:=f) hown2 hg2
      clear hown2 hg2 hn2 hst3 e0 e1
      go_wp2
      exact ⟨⟨j+1,m2+1,a3,c3,gs2 ++ [f],by omega,by go_num,rfl,by omega,HG,hst4⟩,by simp [intOf];omega⟩
    ·have HG2:Hid (gs2=uE lss n ++ cuts):=by show _=_;rw [hgs2.out,HG.out,List.take_of_length_le (by have:=HCn.out;omega)]
     have HLb:=hideIt (l05Labels_any n hn1 hn (uE lss n ++ cuts) HEI.out m2 a2 c2 (by omega) wr (by rw [← HG2.out];exact Es_of_own hst2.own))
     have hb:=hst2.bel
     clear hgs2 hst2 HG HG2
     go_wp2_with (go_at_call 45;refine HLb.out.mono ?_;rintro e w3 ⟨a4,m4,c4,rfl,ho4,b3⟩;refine Hid.out ?_)
     refine (show ∀ {p:Prop},p→Hid p from fun h=>h) ?_
     have HO:=hideIt (own_mono ho4 hb.size)
     have HB:=hideIt (hb.trans (b3.mono hb.size))
     clear ho4 b3
     go_wp2
     exact bodyPost_ret (v:=.tuple #[.slice a4 m4 c4,.bool true]) (by simp [results,Tryz.results51,go_sem]) rfl ⟨a4,m4,c4,rfl,HO.out,HB.out⟩
end Go.Proofs.YtnagchanokbgdaaGreat.O
