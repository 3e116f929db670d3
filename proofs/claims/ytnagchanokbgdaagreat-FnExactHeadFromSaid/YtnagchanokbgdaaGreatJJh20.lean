/- The program's HeadFrom, its Decided. The specification's head behind an answer to an order to release. The specification's look at a question and a task of a head that records lead to. The specification's look at the task of a head that records lead to. The specification's look at a head that records lead to. The specification's Hear, of a head that records lead to. -/
import Derived.Test.YtnagchanokbgdaaGreatJHg21
import Derived.Test.YtnagchanokbgdaaGreatJGo20
import Derived.Test.YtnagchanokbgdaaGreatJSq1
import Derived.Test.YtnagchanokbgdaaGreatJHx20
import Derived.Test.YtnagchanokbgdaaGreatJCon11
import Derived.BigQuiet
import Derived.Test.YtnagchanokbgdaaGreatJLawB10
import Derived.Test.YtnagchanokbgdaaGreatJCq20
namespace Go.Proofs.YtnagchanokbgdaaGreat
open Go.RowKit
theorem HdAt.keepBx {o:Option Hd} {u v:World} {lo G:Nat} {g:Hd} {p:Hp} {cs:Array Value} (h:HdAt o u lo g p) (X:BxA u G 35 cs) (hg:u.grownBy v (some G)):HdAt o v lo g p:=by
 cases o with
 | none=>trivial
 | some h'=>obtain ⟨h1,R,h2⟩:=h;exact ⟨h1,R,h2.keepBx X hg⟩
def newO (n sh:Int):Option Hd:=if (1≤n∧n≤12)∧1≤sh∧sh≤3 then some (newH n.toNat sh.toNat) else none
theorem newO_inv {n sh:Int}:∀ h,newO n sh=some h→HInv sh.toNat h:=by
 intro h e
 unfold newO at e
 split at e
 ·rename_i hc
  cases e
  exact HInv.new (by omega)
 ·cases e
theorem hna_hd {w:World} {n sh:Int} {e:Ending} {w':World} (h:HnA w n sh e w'):∃ (g:Hd) (p:Hp),e=.returned (.tuple #[.agg (hC g p),.bool (newO n sh).isSome])∧Below w.heap.size w w'∧HdAt (newO n sh) w' w.heap.size g p:=by
 obtain ⟨aO,v,cO,aL,k,cL,aN,R,h1,h2,h3,h4⟩:=h
 refine ⟨hnH n sh,nwP aO v cO aL k cL aN,?_,h4,?_⟩
 ·rw [h1]
  by_cases hc:(1≤n∧n≤12)∧1≤sh∧sh≤3
  ·have e1:hnH n sh=newH n.toNat sh.toNat:=by unfold hnH;rw [if_pos hc]
   have e2:hnB n sh=true:=by unfold hnB;exact decide_eq_true hc
   have e3:newO n sh=some (newH n.toNat sh.toNat):=by unfold newO;rw [if_pos hc]
   rw [e1,e2,e3]
   rfl
  ·have e1:=hn_no hc
   have e3:newO n sh=none:=by unfold newO;rw [if_neg hc]
   rw [e1.1,e1.2,e3]
   rfl
 ·by_cases hc:(1≤n∧n≤12)∧1≤sh∧sh≤3
  ·have e1:hnH n sh=newH n.toNat sh.toNat:=by unfold hnH;rw [if_pos hc]
   have e3:newO n sh=some (newH n.toNat sh.toNat):=by unfold newO;rw [if_pos hc]
   rw [e3]
   exact ⟨e1,R,h2,h3,fun b hb=>by simp [Value.ownBlock] at hb⟩
  ·have e3:newO n sh=none:=by unfold newO;rw [if_neg hc]
   rw [e3]
   trivial
set_option maxRecDepth 100000 in
set_option maxHeartbeats 8000000 in
theorem iHeadFrom_any (n sh:Int) (qs:List Q.RQ) (m:Nat) (hm:m≤1048576) (a:Option Addr) (c:Nat) (w:World) (hr:Q.RL w w.heap.size a m qs) (hg:∀ q ∈ qs,RG q) :
  Calls Tryz.prog 8 #[.int .i64 n,.int .i64 sh,.slice a m c] w fun e w'=>FrA w.heap.size w (runO (newO n sh) (qs.map (·.r))) e w':=by
 obtain ⟨o,ho⟩:∃ o,o=newO n sh:=⟨_,rfl⟩
 have hi:∀ h,o=some h→HInv sh.toNat h:=by rw [ho];exact newO_inv
 rw [← ho]
 obtain ⟨r,hr2⟩:∃ r,r=runO o (qs.map (·.r)):=⟨_,rfl⟩
 rw [← hr2]
 obtain ⟨W,hW⟩:∃ W,W=w.alloc (.cells #[.int .i64 0,.slice none 0 0,.slice none 0 0,.slice none 0 0,.slice none 0 0,.int .i64 0,.int .i64 0,.int .i64 0,.int .i64 0,.int .i64 0,.int .i64 0,.int .i64 0,.slice none 0 0,.int .i64 0,.slice none 0 0] 35):=⟨_,rfl⟩
 have bW:Below w.heap.size w W:=by rw [hW];exact belA _ _
 have X0:Hid (BxA W w.heap.size 35 (hC zeroH zeroP)):=by rw [hW];exact BxA.new w _ _
 have lW:w.heap.size<W.heap.size:=X0.out.lt
 have HB:=hideIt bW
 have HN:Hid (Calls Tryz.prog 25 #[.int .i64 n,.int .i64 sh] W fun e w'=>∃ (g:Hd) (p:Hp),e=.returned (.tuple #[.agg (hC g p),.bool o.isSome])∧Below W.heap.size W w'∧HdAt o w' W.heap.size g p):=by
  rw [ho]
  exact (iHeadNew_any n sh W).mono fun e w' h=>hna_hd h
 have HR:=hideIt hr
 have HGr:=hideIt hg
 have HI:=hideIt hi
 clear ho hr hg hi bW
 go_enter Tryz.func8,Tryz.ntmps8
 go_upto_region 1 with fail
 rw [← hW]
 clear hW
 go_wp2_with (go_at_call 25;refine HN.out.mono ?_;rintro e w1 ⟨g,p,rfl,b1,hd⟩;refine Hid.out ?_)
 refine hidp20 ?_
 go_step
 go_step
 go_step
 go_step
 go_step
 go_step
 go_step
 go_step
 go_step
 go_step
 go_step
 go_step
 go_step
 go_step
 have T0:BxA (w1.alloc (.cells #[.int .i64 0,.slice none 0 0,.slice none 0 0,.slice none 0 0,.slice none 0 0,.int .i64 0,.int .i64 0,.int .i64 0,.int .i64 0,.int .i64 0,.int .i64 0,.int .i64 0,.slice none 0 0,.int .i64 0,.slice none 0 0] 35)) w1.heap.size 35 (hC zeroH zeroP):=BxA.new w1 _ _
 refine wp_storeH T0 rfl rfl rfl ?_
 intro v XV gv zv
 obtain ⟨G,hG⟩:∃ G,G=w1.heap.size:=⟨_,rfl⟩
 have bv:Below w1.heap.size w1 v:=below_grB (belA w1 _) gv (Nat.le_refl _) (Nat.le_refl _)
 have bWv:Below W.heap.size W v:=b1.trans (bv.mono b1.size)
 have bwv:Below w.heap.size w v:=HB.out.trans (bWv.mono HB.out.size)
 rw [← hG] at XV
 rw [← hG]
 have HX:=hideIt XV
 have HL:=hideIt (lived_any (S:=sh.toNat) o g p qs m a c w.heap.size v bwv.size HI.out ((hd.up bv).low HB.out.size) (HR.out.up bwv) HGr.out hm)
 have HRz:=hideIt (X0.out.up bWv)
 have HBv:=hideIt bwv
 rw [← hr2] at HL
 clear T0 XV gv zv hG bv bWv bwv b1 hd HN HR HGr HI X0 hr2
 go_upto_region 2 with fail
 refine wp_region_lit ?_
 go_step
 refine wp_loadH HX.out rfl rfl ?_
 go_wp2_with (go_at_call 26;refine HL.out.mono ?_;rintro e w2 ⟨g2,p2,rfl,b2,hd2,hz2⟩;refine Hid.out ?_)
 refine hidp20 ?_
 go_step
 go_step
 go_step
 go_step
 go_step
 go_step
 go_step
 go_step
 refine wp_storeH (HRz.out.up b2) rfl rfl rfl ?_
 intro vz XZ gz zz
 have HXZ:=hideIt XZ
 have HBz:Hid (Below w.heap.size w vz):=below_grB (HBv.out.trans (b2.mono HBv.out.size)) gz (Nat.le_refl _) (Nat.le_refl _)
 have HDz:Hid (HdAt r vz w.heap.size g2 p2):=hd2.keepBx (HRz.out.up b2) gz
 have HZz:=hideIt hz2
 clear XZ gz zz hd2 b2 hz2 HL HX
 go_wp2
 exact bodyPost_ret (results_H2 Tryz.results8 rfl rfl HXZ.out) rfl ⟨g2,p2,rfl,HBz.out,HDz.out,HZz.out⟩
structure Cu (lo L0 L1:Nat) (W:World) (pe:Value) (a:Option Addr) (m c:Nat) (gs:List O.EdgeV) (x:World):Prop where
 own:x.ownsRow lo 107 2 (.slice a m c) m (O.ecells gs)
 ne:∀ b,(Value.slice a m c).ownBlock=some b→pe.ownBlock≠some b
 out:∀ b,(Value.slice a m c).ownBlock=some b→b<L0∨L1≤b
 bel:Below W.heap.size W x
theorem Cu.next {lo L0 L1:Nat} {W x v:World} {pe:Value} {a a':Option Addr} {m c m' c':Nat} {gs gs':List O.EdgeV} (k:Cu lo L0 L1 W pe a m c gs x) (hl:lo≤W.heap.size) (h1:L1≤W.heap.size) (hp:∀ b,pe.ownBlock=some b→b<W.heap.size)
  (ho:v.ownsRow x.heap.size 107 2 (.slice a' m' c') m' (O.ecells gs')) (hb:Below x.heap.size x v):Cu lo L0 L1 W pe a' m' c' gs' v :=
 ⟨own_mono ho (Nat.le_trans hl k.bel.size),fun b e1 e2=>by have:=hp b e2;have:=(ho.lt b e1).1;have:=k.bel.size;omega,fun b e1=>.inr (by have:=(ho.lt b e1).1;have:=k.bel.size;omega),k.bel.trans (hb.mono k.bel.size)⟩
theorem Cu.up {lo L0 L1:Nat} {W x v:World} {pe:Value} {a:Option Addr} {m c:Nat} {gs:List O.EdgeV} (k:Cu lo L0 L1 W pe a m c gs x) (hb:Below x.heap.size x v):Cu lo L0 L1 W pe a m c gs v:=⟨own_up k.own hb,k.ne,k.out,k.bel.trans (hb.mono k.bel.size)⟩
theorem Cu.len {lo L0 L1:Nat} {W x:World} {pe:Value} {a:Option Addr} {m c:Nat} {gs:List O.EdgeV} (k:Cu lo L0 L1 W pe a m c gs x):gs.length=m:=by have:=k.own.1;rw [O.ecells_length] at this;omega
theorem fold_putOk {n:Int} {cs es:List O.EdgeV} (hc:O.eOk n cs=true) (he:O.eOk n es=true) (k:Nat):O.eOk n ((es.take k).foldl O.putE cs)=true:=by
 have c:=O.eOk_parts hc
 have e:=O.eOk_parts he
 refine O.eOk_of (fun x hx=>?_) (O.fold_asc _ cs c.2.1)
 rcases (O.fold_mem _ cs x).1 hx with h1 | h1
 ·exact c.1 x h1
 ·exact e.1 x (List.mem_of_mem_take h1)
theorem fold_outOk {n:Int} {cs es:List O.EdgeV} (hc:O.eOk n cs=true):O.eOk n (es.foldl O.outE cs)=true:=by rw [O.fold_out];exact O.eOk_filter _ hc
theorem fold_snoc {es:List O.EdgeV} {k:Nat} {f:O.EdgeV} (hf:es[k]?=some f) (g:List O.EdgeV→O.EdgeV→List O.EdgeV) (cs:List O.EdgeV):(es.take (k+1)).foldl g cs=g ((es.take k).foldl g cs) f:=by
 rw [take_snocF es k f hf,List.foldl_append]
 rfl
structure MoT (lo:Nat) (u:World) (G bA:Nat) (i:Int) (av s:Nat) (h:Hd) (fs ins:List O.EdgeV) (ia:Option Addr) (im ic2:Nat) (x:World):Prop where
 say:im=0→Calls Tryz.prog 50 #[.pointer (some ⟨G,0,none⟩),.agg #[.int .i64 i,.int .i64 4,.int .i64 (av:Int),.int .i64 ((s:Int)+1)],.int .i64 1] x fun e v=>e=.returned (.tuple #[])∧MvA lo u G (sayH (ownH h (av:Int) ((s:Int)+1) (mvC h (av:Int) ((s:Int)+1) fs)) i 4 (av:Int) ((s:Int)+1) 1) 1 (.returned (.int .i64 1)) v
 task:im≠0→Calls Tryz.prog 52 #[.pointer (some ⟨G,0,none⟩),.agg #[.int .i64 i,.int .i64 4,.int .i64 (av:Int),.int .i64 ((s:Int)+1)],.int .i64 ((s:Int)+1),.agg #[.int .i64 0,.int .i64 4,.slice ia im ic2,.int .i64 0]] x fun e v=>e=.returned (.int .i64 2)∧MvA lo u G (ordH (ownH h (av:Int) ((s:Int)+1) (mvC h (av:Int) ((s:Int)+1) fs)) i 4 (av:Int) ((s:Int)+1) ((s:Int)+1) 4 ins 0) 2 e v
 cells:x.cell? ⟨bA,0,none⟩=some (.int .i64 i)∧x.cell? ⟨bA,1,none⟩=some (.int .i64 4)∧x.cell? ⟨bA,2,none⟩=some (.int .i64 (av:Int))∧x.cell? ⟨bA,3,none⟩=some (.int .i64 ((s:Int)+1))
set_option maxRecDepth 100000 in
set_option maxHeartbeats 16000000 in
theorem sMoved_any {lo G S:Nat} {h:Hd} {p:Hp} {R:List Rw} (i a b:Int) (es:List O.EdgeV) (aE:Option Addr) (nE cE:Nat) (U:World) (k:HX lo U G h p R) (q:HQ S h) (hl:lo≤U.heap.size) (ha:0≤a∧a<h.N) (hb:1≤b∧b≤(S:Int)) (hnum:∀ y ∈ h.nums,0≤y∧y≤1000) (hsl:p.s.n≤1000) (hes:O.eOk h.N es=true) (hE:O.Es U U.heap.size aE nE es) :
  Calls Tryz.prog 55 #[.pointer (some ⟨G,0,none⟩),.agg #[.int .i64 i,.int .i64 4,.int .i64 a,.int .i64 b],.slice aE nE cE] U fun e v=>MvA lo U G (mvH h i a b es).1 (mvH h i a b es).2 e v:=by
 obtain ⟨av,rfl⟩:∃ v:Nat,a=(v:Int):=⟨a.toNat,by omega⟩
 obtain ⟨s,rfl⟩:∃ s:Nat,b=(s:Int)+1:=⟨(b - 1).toNat,by omega⟩
 have hsS:=q.s
 have hs3:s≤2:=by omega
 have hsN:s<h.nums.length:=by have:=q.num.1;omega
 have he2:=O.eOk_parts hes
 have hc2:=O.eOk_parts q.cut
 have hlE:nE≤66:=by have:=hE.1;omega
 have hlC:p.c.n≤66:=by have:=k.hw.ow.inn.c.1;omega
 have hlO:av<p.o.n∧p.o.n≤12:=by have:=k.hw.ow.inn.o.1;have:=q.own.1;have:=q.n;omega
 obtain ⟨T,hT⟩:=ex0 (mvH h i (av:Int) ((s:Int)+1) es)
 rw [← hT]
 obtain ⟨W,hW⟩:=ex0 (U.alloc (.cells #[.int .i64 i,.int .i64 4,.int .i64 (av:Int),.int .i64 ((s:Int)+1)] 28))
 have bW:Below U.heap.size U W:=by rw [hW];exact belA _ _
 have XA:BxA W U.heap.size 28 #[.int .i64 i,.int .i64 4,.int .i64 (av:Int),.int .i64 ((s:Int)+1)]:=by rw [hW];exact BxA.new _ _ _
 have HK:=hideIt (k.up bW)
 have HXA:=hideIt XA
 have HB:Hid (Below lo U W):=bW.mono hl
 have HL:Hid (lo≤W.heap.size):=Nat.le_trans hl bW.size
 have HLU:Hid (U.heap.size<W.heap.size):=XA.lt
 have HNm:=hideIt hnum
 have HlU:=hideIt hl
 have HPe:Hid (∀ b,p.e.v.ownBlock=some b→b<W.heap.size):=fun b hb=>Nat.lt_of_lt_of_le (k.hw.ow.e.lt b hb).2 bW.size
 have HCu:Hid (Cu lo 0 0 W p.e.v p.c.a p.c.n p.c.c h.cuts W):=⟨(k.up bW).hw.ow.c,k.hw.ce,fun b _=>.inr (Nat.zero_le _),Below.refl _ _⟩
 have HEw:=hE.up bW
 have HEr:=hideIt HEw.2
 have HEl:=hideIt HEw.1
 have HQq:=hideIt q
 have Hes:=hideIt hes
 have Hasc:=hideIt he2.2.1
 have HT:=hideIt hT
 have HHa:=hideIt ha
 have HHb:=hideIt hb
 have HlO:=hideIt hlO
 have HUG:Hid (U.heap.size≠G):=fun e=>by have h1:=k.bx.lt;omega
 have g2:W.cell? ⟨G,2,none⟩=some (.slice p.c.a p.c.n p.c.c):=(k.bx.up bW).cell 2 rfl
 clear k q hl ha hb hnum hes hE bW XA he2 hc2 hT hsS hlO HEw
 go_enter Tryz.func55,Tryz.ntmps55
 go_upto_region 1 with fail
 rw [← hW]
 clear hW
 go_wp2
 clear g2
 go_loopw [7,8] (fun v i wr=>∃ (k m':Nat) (a':Option Addr) (c':Nat) (gs:List O.EdgeV),k≤nE∧i=.int .i64 (k:Int)∧v=.slice a' m' c'∧m'≤66∧Hid (gs=(es.take k).foldl O.putE h.cuts∧∀ e ∈ es.take k,O.hasB h.cuts e=false)∧Hid (Cu lo 0 0 W p.e.v a' m' c' gs wr)) (fun _ i _=>nE - (intOf i).toNat)
 case atStart=>exact ⟨0,_,_,_,h.cuts,by omega,rfl,rfl,hlC,⟨by simp,by simp⟩,HCu⟩
 case round =>
  obtain ⟨k,m',a',c',gs,hk,rfl,rfl,hm,hgs,hst⟩:=hrel
  by_cases hlt:k<nE
  ·rcases HEr.out with hz | ⟨b,off,rfl,hbl,hc⟩
   ·omega
   ·obtain ⟨f,hf⟩:∃ f,es[k]?=some f:=⟨es[k]'(by have:=HEl.out;omega),List.getElem?_eq_getElem (by have:=HEl.out;omega)⟩
    obtain ⟨c0,c1⟩:=hc k f hf
    have HEc:Hid (∀ v,Below W.heap.size W v→v.cell? ⟨b,off+k*2,none⟩=some (.int .i64 f.1)∧v.cell? ⟨b,off+k*2+1,none⟩=some (.int .i64 f.2)):=fun v hv=>⟨by rw [hv.cell (by have:=HLU.out;show b<_;omega)];exact c0,by rw [hv.cell (by have:=HLU.out;show b<_;omega)];exact c1⟩
    obtain ⟨e0,e1⟩:=HEc.out wr hst.out.bel
    have b1:(0:Int)≤(k:Int):=by omega
    have b2:(k:Int)<(nE:Int):=by omega
    have HHas:Hid (Calls Tryz.prog 78 #[.slice a' m' c',.agg #[.int .i64 f.1,.int .i64 f.2]] wr fun x w'=>x=.returned (.bool (O.hasB h.cuts f))∧Below wr.heap.size wr w'):=by
     have h1:=O.l05Has_any gs f m' a' c' (by omega) wr (O.Es_of_own hst.out.own)
     rw [show O.hasB gs f=O.hasB h.cuts f by rw [hgs.out.1];exact O.has_fold Hasc.out hf] at h1
     exact h1
    cases hh:O.hasB h.cuts f with
    | true =>
     have HT2:Hid (T=(sayH h i 4 (av:Int) ((s:Int)+1) 3,1)):=by
      show T=_
      rw [HT.out]
      unfold mvH
      rw [show O.mvE h.cuts es=none by unfold O.mvE;rw [if_pos (List.any_eq_true.2 ⟨f,List.mem_of_getElem? hf,hh⟩)]]
     rw [hh] at HHas
     have HSy:Hid (∀ v,Below wr.heap.size wr v→Calls Tryz.prog 50 #[.pointer (some ⟨G,0,none⟩),.agg #[.int .i64 i,.int .i64 4,.int .i64 (av:Int),.int .i64 ((s:Int)+1)],.int .i64 3] v fun e v=>e=.returned (.tuple #[])∧(∃ g c,HX lo v G (sayH h i 4 (av:Int) ((s:Int)+1) 3) (sayP p g (p.s.n+1) c) R)∧Below lo U v):=fun v hv=>by
      have h2:=hst.out.bel.trans (hv.mono hst.out.bel.size)
      exact (sSay_any i 4 (av:Int) ((s:Int)+1) 3 v (HK.out.up h2) (Nat.le_trans HL.out h2.size) hsl).mono fun e v ⟨h3,h4,h5⟩=>⟨h3,h4,(HB.out.trans (h2.mono HL.out)).trans h5⟩
     have HXv:Hid (∀ v,Below wr.heap.size wr v→BxA v U.heap.size 28 #[.int .i64 i,.int .i64 4,.int .i64 (av:Int),.int .i64 ((s:Int)+1)]):=fun v hv=>HXA.out.up (hst.out.bel.trans (hv.mono hst.out.bel.size))
     clear hf hc c0 c1 hgs hst hh
     go_wp2_with (first | (go_at_call 78;refine HHas.out.mono ?_;rintro e v1 ⟨rfl,g1⟩;have X1:=HXv.out v1 g1;have a0:=X1.cell 0 rfl;have a1:=X1.cell 1 rfl;have a2:=X1.cell 2 rfl;have a3:=X1.cell 3 rfl;clear X1 e0 e1) | (go_at_call 50;refine (HSy.out _ g1).mono ?_;rintro e v2 ⟨rfl,⟨g,c,hk2⟩,hb2⟩))
     go_ret
     rw [HT2.out]
     exact ⟨rfl,⟨_,_,hk2⟩,hb2⟩
    | false =>
     rw [hh] at HHas
     have HG:Hid (O.putE gs f=(es.take (k+1)).foldl O.putE h.cuts∧∀ e ∈ es.take (k+1),O.hasB h.cuts e=false):=⟨by rw [fold_snoc hf,hgs.out.1],fun e he=>by
      rw [take_snocF es k f hf] at he
      rcases List.mem_append.1 he with h1 | h1
      ·exact hgs.out.2 e h1
      ·rw [List.mem_singleton.1 h1];exact hh⟩
     have HPut:Hid (∀ v,Below wr.heap.size wr v→Calls Tryz.prog 80 #[.slice a' m' c',.agg #[.int .i64 f.1,.int .i64 f.2]] v fun x w'=>∃ a2 m2 c2,x=.returned (.slice a2 m2 c2)∧m2≤66∧Hid (Cu lo 0 0 W p.e.v a2 m2 c2 (O.putE gs f) w')):=fun v hv =>
      (O.l05Put_any gs f m' a' c' (by omega) v (O.Es_of_own (hst.out.up hv).own)).mono fun x w' ⟨a2,m2,c2,h1,h2,h3⟩=>by
       have h4:=(hst.out.up hv).next HL.out (Nat.zero_le _) HPe.out h2 h3
       exact ⟨a2,m2,c2,h1,by have h5:=h4.len;have h6:=(O.eOk_parts (fold_putOk HQq.out.cut Hes.out (k+1))).2.2;rw [← HG.out.1] at h6;omega,h4⟩
     have Hbel:Hid (Below W.heap.size W wr):=hst.out.bel
     clear hf hc c0 c1 hgs hst hh
     go_wp2_with (first | (go_at_call 78;refine HHas.out.mono ?_;rintro e v1 ⟨rfl,g1⟩;clear e0 e1;obtain ⟨e0,e1⟩:=HEc.out v1 (Hbel.out.trans (g1.mono Hbel.out.size))) | (go_at_call 80;refine (HPut.out _ g1).mono ?_;rintro e v2 ⟨a2,m2,c2,rfl,hm2,hcu⟩))
     exact ⟨⟨k+1,m2,a2,c2,_,by omega,by go_num,rfl,hm2,HG,hcu⟩,by simp [intOf];omega⟩
  ·have HG:gs=es.foldl O.putE h.cuts:=by rw [hgs.out.1,List.take_of_length_le (by have:=HEl.out;omega)]
   have hany:¬ es.any (fun e=>O.hasB h.cuts e)=true:=fun hx=>by
    obtain ⟨e,h1,h2⟩:=List.any_eq_true.1 hx
    have h3:=hgs.out.2 e (by rw [List.take_of_length_le (by have:=HEl.out;omega)];exact h1)
    rw [h3] at h2
    cases h2
   have hmv:O.mvE h.cuts es=some gs:=by unfold O.mvE;rw [if_neg hany,HG]
   have hT':T=mvH h i (av:Int) ((s:Int)+1) es:=HT.out
   unfold mvH at hT'
   rw [hmv] at hT'
   dsimp only at hT'
   have hfs:O.eOk h.N gs=true:=O.mvE_ok HQq.out.cut Hes.out hmv
   have Hfs:=hideIt hfs
   obtain ⟨ins,hins⟩:=ex0 (mvI h (av:Int) ((s:Int)+1) gs)
   rw [← hins] at hT'
   have HTs:=hideIt hT'
   have Hins:=hideIt hins
   have HK3:=hideIt (HK.out.up hst.out.bel)
   have HX3:=hideIt (HXA.out.up hst.out.bel)
   have HO3:=hideIt hst.out.own
   have HOn:=hideIt hst.out.ne
   have HB3:Hid (Below lo U wr):=HB.out.trans (hst.out.bel.mono HL.out)
   have HL3:Hid (lo≤wr.heap.size):=Nat.le_trans HL.out hst.out.bel.size
   have HP3:Hid (∀ b,p.e.v.ownBlock=some b→b<wr.heap.size):=fun b hb=>Nat.lt_of_lt_of_le (HPe.out b hb) hst.out.bel.size
   clear hany hmv HT hfs hT' hins HG hgs hst HCu HEr HEl HB HPe HXA HK
   obtain ⟨bo,ea⟩:∃ bo,p.o.a=some ⟨bo,0,none⟩:=by
    rcases HK3.out.hw.ow.o.2 with ⟨hv,h0⟩ | ⟨g,cap,cur,hv,_⟩
    ·have:=HlO.out;omega
    ·simp [Sx.v] at hv;exact ⟨g,hv.1⟩
   have hov:p.o.v=.slice (some ⟨bo,0,none⟩) p.o.n p.o.c:=by unfold Sx.v;rw [ea]
   have hoB:p.o.v.ownBlock=some bo:=by rw [hov];rfl
   have lbo:bo<wr.heap.size:=(HK3.out.hw.ow.o.lt bo hoB).2
   have HboG:Hid (bo≠G):=fun e=>own_neB HK3.out.hw.ow.o HK3.out.bx (by decide) (by rw [hoB,e])
   have HboA:Hid (bo≠U.heap.size):=fun e=>row_neB HK3.out.hw.ow.o HX3.out (by decide) (by rw [hoB,e])
   have g1:wr.cell? ⟨G,1,none⟩=some (.slice (some ⟨bo,0,none⟩) p.o.n p.o.c):=by rw [← hov];exact HK3.out.bx.cell 1 rfl
   obtain ⟨x0,hx0⟩:∃ x0,wr.cell? ⟨bo,av,none⟩=some x0:=by
    have h1:=HK3.out.hw.ow.o
    rw [hov] at h1
    have h2:=h1.1
    exact ⟨_,by rw [h1.cellAt av (by have:=HlO.out;omega)];exact List.getElem?_eq_getElem (by have:=HlO.out;omega)⟩
   have f0:wr.frozen? ⟨bo,av,none⟩=false:=by
    have h1:=HK3.out.hw.ow.o
    rw [hov] at h1
    exact h1.frozenAt av
   have a2:=HX3.out.cell 2 rfl
   have a3:=HX3.out.cell 3 rfl
   have q1:(0:Int)≤(av:Int):=by omega
   have q2:(av:Int)<(p.o.n:Int):=by have:=HlO.out;omega
   have S8:(wr.cell? ⟨G,1,none⟩=some (.slice (some ⟨bo,0,none⟩) p.o.n p.o.c)∧wr.cell? ⟨U.heap.size,2,none⟩=some (.int .i64 (av:Int))∧wr.cell? ⟨U.heap.size,3,none⟩=some (.int .i64 ((s:Int)+1))):=⟨g1,a2,a3⟩
   have HS8:Hid (∀ z:Value,((wr.setCell ⟨bo,av,none⟩ z).drew.cell? ⟨G,1,none⟩=some (.slice (some ⟨bo,0,none⟩) p.o.n p.o.c)∧(wr.setCell ⟨bo,av,none⟩ z).drew.cell? ⟨U.heap.size,2,none⟩=some (.int .i64 (av:Int))∧(wr.setCell ⟨bo,av,none⟩ z).drew.cell? ⟨U.heap.size,3,none⟩=some (.int .i64 ((s:Int)+1)))):=fun z=>by
    have X:=((HX3.out).setO (G:=bo) (j:=av) z (by first | exact HboA.out | exact HboA.out.symm))
    have Y:=((HK3.out).bx.setO (G:=bo) (j:=av) z (by first | exact HboG.out | exact HboG.out.symm))
    exact ⟨by rw [← hov];exact Y.cell 1 rfl,X.cell 2 rfl,X.cell 3 rfl⟩
   have HEa:=hideIt (And.intro ea (And.intro hov hoB))
   clear g1 a2 a3 ea hov hoB
   go_upto_region 9 with fail
   have hx0':wr.drew.cell? ⟨bo,av,none⟩=some x0:=hx0
   have f0':wr.drew.frozen? ⟨bo,av,none⟩=false:=f0
   go_region_held3 (fun v=>v.cell? ⟨G,1,none⟩=some (.slice (some ⟨bo,0,none⟩) p.o.n p.o.c)∧v.cell? ⟨U.heap.size,2,none⟩=some (.int .i64 (av:Int))∧v.cell? ⟨U.heap.size,3,none⟩=some (.int .i64 ((s:Int)+1))) (first | exact S8 | exact HS8.out _) (fail)
   obtain ⟨w4,hw4⟩:=ex0 ((wr.setCell ⟨bo,av,none⟩ (.int .i64 ((s:Int)+1))).drew)
   rw [← hw4]
   have bd:=(Below.refl (wr.setCell ⟨bo,av,none⟩ (.int .i64 ((s:Int)+1))).heap.size (wr.setCell ⟨bo,av,none⟩ (.int .i64 ((s:Int)+1)))).drew
   have gs4:=grownSet wr bo av (.int .i64 ((s:Int)+1))
   have s3:(wr.setCell ⟨bo,av,none⟩ (.int .i64 ((s:Int)+1))).heap.size=wr.heap.size:=by simp [World.setCell]
   have HK4:Hid (HX lo w4 G (ownS h av ((s:Int)+1)) p R):=by rw [hw4];exact (HK3.out.setOwn HEa.out.1 av _).up bd
   have HX4:Hid (BxA w4 U.heap.size 28 #[.int .i64 i,.int .i64 4,.int .i64 (av:Int),.int .i64 ((s:Int)+1)]):=by rw [hw4];exact (HX3.out.setO (G:=bo) (j:=av) _ (by first | exact HboA.out | exact HboA.out.symm)).up bd
   have HO4:Hid (w4.ownsRow lo 107 2 (.slice a' m' c') m' (O.ecells gs)):=by
    rw [hw4]
    exact own_up (own_keepR HO3.out HK3.out.hw.ow.o (by decide) (by rw [HEa.out.2.2];exact gs4)) bd
   have s4:w4.heap.size=wr.heap.size:=by rw [hw4];exact s3
   have HB4:Hid (Below lo U w4):=by
    rw [hw4]
    exact (Below.setCell HB3.out (p:=⟨bo,av,none⟩) (HK3.out.hw.ow.o.lt bo HEa.out.2.2).1 _).trans (bd.mono (by rw [s3];exact HL3.out))
   have HL4:Hid (lo≤w4.heap.size):=by show _≤_;rw [s4];exact HL3.out
   have HP4:Hid (∀ b,p.e.v.ownBlock=some b→b<w4.heap.size):=by show ∀ b,_;rw [s4];exact HP3.out
   clear hw4 bd gs4 s3 hx0 hx0' f0 f0' S8 HS8 HK3 HX3 HO3 HB3 HL3 HP3 s4 lbo
   have HS9:Hid (∀ u,Below w4.heap.size w4 u→u.cell? ⟨G,1,none⟩=some (.slice (some ⟨bo,0,none⟩) p.o.n p.o.c)∧u.cell? ⟨U.heap.size,3,none⟩=some (.int .i64 ((s:Int)+1))∧Below w4.heap.size w4 u):=fun u hu=>⟨by rw [← HEa.out.2.1];exact (HK4.out.up hu).bx.cell 1 rfl,(HX4.out.up hu).cell 3 rfl,hu⟩
   have c0:Below w4.heap.size w4 w4:=Below.refl _ _
   have HIn:Hid (∀ u,Below w4.heap.size w4 u→Calls Tryz.prog 81 #[.slice (some ⟨bo,0,none⟩) p.o.n p.o.c,.slice a' m' c',.int .i64 ((s:Int)+1)] u fun e v=>∃ ia im ic2,e=.returned (.slice ia im ic2)∧Hid (v.ownsRow w4.heap.size 107 2 (.slice ia im ic2) im (O.ecells ins)∧im≤66)∧Below w4.heap.size w4 v):=fun u hu=>by
    have hI:=(HK4.out.up hu).hw.ow.inn.o
    rw [HEa.out.1] at hI
    have h1:=O.sInside_any (ownS h av ((s:Int)+1)).own p.o.n (some ⟨bo,0,none⟩) p.o.c gs m' a' c' ((s:Int)+1) (by have:=HlO.out;omega) (by omega) u hI (O.Es_of_own (own_up HO4.out hu))
    rw [show O.insE (ownS h av ((s:Int)+1)).own gs ((s:Int)+1)=ins by rw [Hins.out];unfold mvI ownS;rw [Int.toNat_natCast]] at h1
    refine h1.mono fun e v h2=>?_
    obtain ⟨ia,im,ic2,h3,h4,h5⟩:=h2
    exact ⟨ia,im,ic2,h3,⟨own_mono h4 hu.size,by have:=h4.1;rw [O.ecells_length] at this;have h6:=(O.eOk_parts (mvI_ok (h:=h) (a:=(av:Int)) (b:=(s:Int)+1) Hfs.out)).2.2;rw [← Hins.out] at h6;omega⟩,hu.trans (h5.mono hu.size)⟩
   go_upto_region 10 with fail
   go_region_held3 (fun v=>v.cell? ⟨G,1,none⟩=some (.slice (some ⟨bo,0,none⟩) p.o.n p.o.c)∧v.cell? ⟨U.heap.size,3,none⟩=some (.int .i64 ((s:Int)+1))∧Below w4.heap.size w4 v)
    (exact HS9.out _ (by first | assumption | exact c0.drew))
    ((go_at_call 81;refine (HIn.out _ c0.drew).mono ?_;rintro e w5 ⟨ia,im,ic2,rfl,oi,b5⟩))
   have him:im≤66:=oi.out.2
   have HK5:=hideIt (HK4.out.up b5)
   have HX5:=hideIt (HX4.out.up b5)
   have HI5:=hideIt oi.out.1
   have HIl:Hid (ins.length=im):=by show _=_;have:=oi.out.1.1;rw [O.ecells_length] at this;omega
   have HB5:Hid (Below lo U w5):=HB4.out.trans (b5.mono HL4.out)
   have HL5:Hid (lo≤w5.heap.size):=Nat.le_trans HL4.out b5.size
   have HP5:Hid (∀ b,p.e.v.ownBlock=some b→b<w5.heap.size):=fun b hb=>Nat.lt_of_lt_of_le (HP4.out b hb) b5.size
   have HC5:Hid (Cu lo w4.heap.size w5.heap.size w5 p.e.v a' m' c' gs w5):=⟨own_up HO4.out b5,HOn.out,fun b hb=>.inl (HO4.out.lt b hb).2,Below.refl _ _⟩
   have HIr:=hideIt (O.Es_of_own oi.out.1).2
   have HGs:Hid (w4.heap.size≤w5.heap.size):=b5.size
   clear oi b5 HK4 HX4 HB4 HP4 HO4 HOn HIn HS9 c0
   go_wp2
   go_loopw [7,10] (fun v i wr=>∃ (j m2:Nat) (a2:Option Addr) (c2:Nat) (gs2:List O.EdgeV),j≤im∧i=.int .i64 (j:Int)∧v=.slice a2 m2 c2∧m2≤66∧Hid (gs2=(ins.take j).foldl O.outE gs)∧Hid (Cu lo w4.heap.size w5.heap.size w5 p.e.v a2 m2 c2 gs2 wr)) (fun _ i _=>im - (intOf i).toNat)
   case atStart=>exact ⟨0,_,_,_,gs,by omega,rfl,rfl,hm,by show _=_;simp,HC5⟩
   case round =>
    obtain ⟨j,m2,a2,c2,gs2,hj,rfl,rfl,hm2,hgs2,hst2⟩:=hrel
    by_cases hlt2:j<im
    ·rcases HIr.out with hz | ⟨b,off,rfl,hbl,hc⟩
     ·omega
     ·obtain ⟨f,hf⟩:∃ f,ins[j]?=some f:=⟨ins[j]'(by have:=HIl.out;omega),List.getElem?_eq_getElem (by have:=HIl.out;omega)⟩
      obtain ⟨c0,c1⟩:=hc j f hf
      have e0:wr.cell? ⟨b,off+j*2,none⟩=some (.int .i64 f.1):=by rw [hst2.out.bel.cell hbl];exact c0
      have e1:wr.cell? ⟨b,off+j*2+1,none⟩=some (.int .i64 f.2):=by rw [hst2.out.bel.cell hbl];exact c1
      have b1:(0:Int)≤(j:Int):=by omega
      have b2:(j:Int)<(im:Int):=by omega
      have HG:Hid (O.outE gs2 f=(ins.take (j+1)).foldl O.outE gs):=by show _=_;rw [fold_snoc hf,hgs2.out]
      have HPut:Hid (Calls Tryz.prog 79 #[.slice a2 m2 c2,.agg #[.int .i64 f.1,.int .i64 f.2]] wr fun x w'=>∃ a3 m3 c3,x=.returned (.slice a3 m3 c3)∧m3≤66∧Hid (Cu lo w4.heap.size w5.heap.size w5 p.e.v a3 m3 c3 (O.outE gs2 f) w')) :=
       (O.l05Without_any gs2 f m2 a2 c2 (by omega) wr (O.Es_of_own hst2.out.own)).mono fun x w' ⟨a3,m3,c3,h1,h2,h3⟩=>by
        have h4:=hst2.out.next HL5.out (Nat.le_refl _) HP5.out h2 h3
        exact ⟨a3,m3,c3,h1,by have h5:=h4.len;have h6:=(O.eOk_parts (fold_outOk (es:=ins.take (j+1)) Hfs.out)).2.2;rw [← HG.out] at h6;omega,h4⟩
      clear hf hc c0 c1 hgs2 hst2
      go_wp2_with (go_at_call 79;refine HPut.out.mono ?_;rintro e v2 ⟨a3,m3,c3,rfl,hm3,hcu⟩)
      exact ⟨⟨j+1,m3,a3,c3,_,by omega,by go_num,rfl,hm3,HG,hcu⟩,by simp [intOf];omega⟩
    ·have HG:gs2=mvC h (av:Int) ((s:Int)+1) gs:=by rw [hgs2.out,List.take_of_length_le (by have:=HIl.out;omega),O.fold_out];unfold mvC;rw [← Hins.out]
     have KX:=HK5.out.up hst2.out.bel
     have c2':wr.cell? ⟨G,2,none⟩=some (.slice p.c.a p.c.n p.c.c):=KX.bx.cell 2 rfl
     have f2:=KX.bx.frozen 2
     have l2:=KX.bx.lt
     obtain ⟨x3,hx3⟩:=ex0 (wr.setCell ⟨G,2,none⟩ (.slice a2 m2 c2))
     have HMo:Hid (MoT lo U G U.heap.size i av s h gs ins ia im ic2 x3):=by
      have s3:x3.heap.size=wr.heap.size:=by rw [hx3];simp [World.setCell]
      have lx:lo≤x3.heap.size:=by rw [s3];exact Nat.le_trans HL5.out hst2.out.bel.size
      have k3:=KX.cutted hst2.out.own hst2.out.ne
      rw [← hx3,HG,show withCuts (ownS h av ((s:Int)+1)) (mvC h (av:Int) ((s:Int)+1) gs)=ownH h (av:Int) ((s:Int)+1) (mvC h (av:Int) ((s:Int)+1) gs) by rw [ownH_eq,Int.toNat_natCast]] at k3
      have b3:Below lo U x3:=by rw [hx3];exact Below.setCell (HB5.out.trans (hst2.out.bel.mono HL5.out)) (p:=⟨G,2,none⟩) KX.ge _
      have XA3:BxA x3 U.heap.size 28 #[.int .i64 i,.int .i64 4,.int .i64 (av:Int),.int .i64 ((s:Int)+1)]:=by rw [hx3];exact (HX5.out.up hst2.out.bel).setO _ HUG.out
      have oi3:x3.ownsRow w4.heap.size 107 2 (.slice ia im ic2) im (O.ecells ins):=by rw [hx3];exact own_keepG (own_up HI5.out hst2.out.bel) KX.bx (by decide) (grownSet wr G 2 (.slice a2 m2 c2))
      refine ⟨fun _=>?_,fun _=>?_,XA3.cell 0 rfl,XA3.cell 1 rfl,XA3.cell 2 rfl,XA3.cell 3 rfl⟩
      ·exact (sSay_any i 4 (av:Int) ((s:Int)+1) 1 _ k3 lx hsl).mono fun e v ⟨h5,⟨g,c,h6⟩,h7⟩=>⟨h5,rfl,⟨_,_,h6⟩,b3.trans h7⟩
      ·exact (sTask_any i 4 (av:Int) ((s:Int)+1) s 0 4 0 ins ia im ic2 _ k3 lx hsN hs3 HNm.out (own_mono oi3 HL4.out) (fun b h5 h6=>by
        have e1:=HI5.out.lt b h6
        rcases hst2.out.out b h5 with e2 | e2 <;> omega)).mono fun e v ⟨h5,h6,h7,_⟩=>⟨h5,h5,⟨_,_,h6⟩,b3.trans h7⟩
     clear hgs2 hst2 KX HG
     clear HK5 HX5 HI5 HC5 HIr HB5 HP5 HGs Hfs
     go_upto_region 16 with fail
     rw [← hx3]
     clear hx3 f2 c2' l2
     obtain ⟨HSy,HOr,a0,a1,a2',a3⟩:=HMo.out
     have HSO:=hideIt (And.intro HSy HOr)
     clear HMo HSy HOr
     by_cases h0:im=0
     ·have HSy:=hideIt (HSO.out.1 h0)
      have HT0:=hideIt (HTs.out.trans (if_pos (show ins.length=0 by rw [HIl.out];exact h0)))
      have d0:((im:Int) == 0)=true:=by simpa using h0
      clear HSO HIl HTs
      go_upto_region 17 with fail
      go_wp2_with (go_at_call 50;refine HSy.out.mono ?_;rintro e v ⟨rfl,hm⟩;refine Hid.out ?_)
      refine hidp20 ?_
      clear a0 a1 a2' a3
      go_wp2
      go_ret
      rw [HT0.out]
      exact hm
     ·have HOr:=hideIt (HSO.out.2 h0)
      have HT0:=hideIt (HTs.out.trans (if_neg (show ¬ ins.length=0 by rw [HIl.out];exact h0)))
      have d0:((im:Int) == 0)=false:=by simpa using h0
      clear HSO HIl HTs
      go_upto_region 19 with fail
      go_wp2_with (go_at_call 52;refine HOr.out.mono ?_;rintro e v ⟨rfl,hm⟩;refine Hid.out ?_)
      refine hidp20 ?_
      clear a0 a1 a2' a3
      go_wp2
      go_ret
      rw [HT0.out]
      exact hm
theorem SameE20 (c1:Nat) (a1:Option Addr) (w:World):Calls Tryz.prog 144 #[.slice a1 0 c1,.slice none 0 0] w fun e w'=>e=.returned (.bool true)∧w'=w:=by
 go_enter Tryz.func144,Tryz.ntmps144
 go_wp2
 go_loopw [5] (fun q wr=>q=.int .i64 0∧wr=w) (fun _ _=>0)
 case atStart=>exact ⟨rfl,rfl⟩
 case round =>
  obtain ⟨rfl,rfl⟩:=hrel
  go_wp2
  go_ret
  exact ⟨rfl,rfl⟩
theorem SameO20 (a5:Option Addr) (k5:Nat) (w:World):Calls Tryz.prog 120 #[.agg #[.int .i64 0,.int .i64 0,.slice a5 0 k5,.int .i64 0],.agg #[.int .i64 0,.int .i64 0,.slice none 0 0,.int .i64 0]] w fun e w'=>e=.returned (.bool true)∧Below w.heap.size w w':=by
 have HS:=hideIt (SameE20 k5 a5)
 go_enter Tryz.func120,Tryz.ntmps120
 go_wp2_with (go_at_call 144;refine (HS.out _).mono ?_;rintro e w1 ⟨rfl,rfl⟩)
 go_ret
 exact ⟨rfl,((Below.refl _ _).alloc (Nat.le_refl _) _).alloc (by simp) _⟩
theorem blank_yes20 (a5:Option Addr) (k5:Nat) (w:World):Calls Tryz.prog 97 #[.agg #[.int .i64 0,.int .i64 0,.int .i64 0,.int .i64 0,.int .i64 0,.int .i64 0,.int .i64 0,.slice a5 0 k5,.int .i64 0]] w fun e w'=>e=.returned (.bool true)∧Below w.heap.size w w':=by
 have HO:=hideIt (SameO20 a5 k5)
 go_enter Tryz.func97,Tryz.ntmps97
 go_wp2_with (go_at_call 120;refine (HO.out _).mono ?_;rintro e w1 ⟨rfl,hb1⟩)
 go_ret
 exact ⟨rfl,((Below.refl _ _).alloc (Nat.le_refl _) _).trans (hb1.mono (by simp))⟩
theorem blank_no20 (i o a b sh num op v:Int) (a5:Option Addr) (n5 k5:Nat) (hi:1≤i) (w:World):Calls Tryz.prog 97 #[.agg #[.int .i64 i,.int .i64 o,.int .i64 a,.int .i64 b,.int .i64 sh,.int .i64 num,.int .i64 op,.slice a5 n5 k5,.int .i64 v]] w fun e w'=>e=.returned (.bool false)∧Below w.heap.size w w':=by
 have d1:(i == 0)=false:=by simp;omega
 go_enter Tryz.func97,Tryz.ntmps97
 go_wp2
 go_ret
 exact ⟨rfl,(Below.refl _ _).alloc (Nat.le_refl _) _⟩
set_option maxRecDepth 100000 in
set_option maxHeartbeats 4000000 in
theorem right_any20 (h:Hd) (p:Hp) (i o a b:Int) (hN:1≤h.N∧h.N≤12) (w:World) :
  Calls Tryz.prog 49 #[.agg (hC h p),.agg #[.int .i64 i,.int .i64 o,.int .i64 a,.int .i64 b]] w fun e w'=>e=.returned (.bool (rgB h.N p.l.n o a b))∧Below w.heap.size w w':=by
 have X:=(BxA.new w 35 (hC h p)).up (belA _ (.cells #[.int .i64 i,.int .i64 o,.int .i64 a,.int .i64 b] 28))
 have q0:((w.alloc (.cells (hC h p) 35)).alloc (.cells #[.int .i64 i,.int .i64 o,.int .i64 a,.int .i64 b] 28)).cell? ⟨w.heap.size,0,none⟩=some (.int .i64 h.N):=X.cell 0 rfl
 have q3:((w.alloc (.cells (hC h p) 35)).alloc (.cells #[.int .i64 i,.int .i64 o,.int .i64 a,.int .i64 b] 28)).cell? ⟨w.heap.size,3,none⟩=some (.slice p.l.a p.l.n p.l.c):=X.cell 3 rfl
 have HB:Hid (Below w.heap.size w ((w.alloc (.cells (hC h p) 35)).alloc (.cells #[.int .i64 i,.int .i64 o,.int .i64 a,.int .i64 b] 28))):=(belA _ _).alloc (by simp) _
 have HI:=hideIt l01In_any
 clear X
 by_cases h1:1≤o∧o≤4
 ·have d1:decide (1≤o∧o≤4)=true:=decide_eq_true h1
  by_cases h2:0≤a∧a≤h.N - 1
  ·have d2:decide (0≤a∧a≤h.N - 1)=true:=decide_eq_true h2
   by_cases h4:o=4
   ·subst h4
    rw [show rgB h.N p.l.n 4 a b=decide (1≤b∧b≤(p.l.n:Int)) from decide_eq_decide.2 (by omega)]
    go_enter Tryz.func49,Tryz.ntmps49
    go_wp2_with (go_at_call 44;refine (HI.out _ _ _ _).mono ?_;rintro e w1 ⟨rfl,rfl⟩)
    go_ret
    first | exact ⟨rfl,HB.out⟩ | exact ⟨retB20 (by simp),HB.out⟩
   ·have e4:(o == 4)=false:=by simpa using h4
    by_cases h3:o=3
    ·subst h3
     rw [show rgB h.N p.l.n 3 a b=decide (0≤b∧b≤h.N - 1) from decide_eq_decide.2 (by omega)]
     go_enter Tryz.func49,Tryz.ntmps49
     go_wp2_with (go_at_call 44;refine (HI.out _ _ _ _).mono ?_;rintro e w1 ⟨rfl,rfl⟩)
     go_ret
     first | exact ⟨rfl,HB.out⟩ | exact ⟨retB20 (by simp),HB.out⟩
    ·have e3:(o == 3)=false:=by simpa using h3
     by_cases h5:0≤b∧b≤h.N - 1
     ·have d5:decide (0≤b∧b≤h.N - 1)=true:=decide_eq_true h5
      rw [show rgB h.N p.l.n o a b=(a != b) from by
       unfold rgB
       by_cases hab:a=b
       ·rw [decide_eq_false (by omega)];simp [hab]
       ·rw [decide_eq_true (by omega)];simp [hab]]
      go_enter Tryz.func49,Tryz.ntmps49
      go_wp2_with (go_at_call 44;refine (HI.out _ _ _ _).mono ?_;rintro e w1 ⟨rfl,rfl⟩)
      go_ret
      first | exact ⟨rfl,HB.out⟩ | exact ⟨retB20 (by simp),HB.out⟩
     ·have d5:decide (0≤b∧b≤h.N - 1)=false:=decide_eq_false h5
      rw [show rgB h.N p.l.n o a b=false from decide_eq_false (by omega)]
      go_enter Tryz.func49,Tryz.ntmps49
      go_wp2_with (go_at_call 44;refine (HI.out _ _ _ _).mono ?_;rintro e w1 ⟨rfl,rfl⟩)
      go_ret
      first | exact ⟨rfl,HB.out⟩ | exact ⟨retB20 (by simp),HB.out⟩
  ·have d2:decide (0≤a∧a≤h.N - 1)=false:=decide_eq_false h2
   rw [show rgB h.N p.l.n o a b=false from decide_eq_false (by omega)]
   go_enter Tryz.func49,Tryz.ntmps49
   go_wp2_with (go_at_call 44;refine (HI.out _ _ _ _).mono ?_;rintro e w1 ⟨rfl,rfl⟩)
   go_ret
   first | exact ⟨rfl,HB.out⟩ | exact ⟨retB20 (by simp),HB.out⟩
 ·have d1:decide (1≤o∧o≤4)=false:=decide_eq_false h1
  rw [show rgB h.N p.l.n o a b=false from decide_eq_false (by omega)]
  go_enter Tryz.func49,Tryz.ntmps49
  go_wp2_with (go_at_call 44;refine (HI.out _ _ _ _).mono ?_;rintro e w1 ⟨rfl,rfl⟩)
  go_ret
  first | exact ⟨rfl,HB.out⟩ | exact ⟨retB20 (by simp),HB.out⟩
set_option maxRecDepth 100000 in
set_option maxHeartbeats 8000000 in
theorem sTaskOk_inv {S:Nat} {h:Hd} {p:Hp} (w:World) (R:HR S w h p) :
  Calls Tryz.prog 75 #[.agg (hC h p)] w fun e w'=>e=.returned (.bool true)∧Below w.heap.size w w':=by
 have hl:=R.inv.lens R.inn
 have he:=R.elen
 rcases R.inv.tk with t | t
 ·have h5:=R.inn.e.1
  obtain ⟨N,own,cuts,lab,nums,i,o,a,b,sh,num,op,es,v,said⟩:=h
  obtain ⟨sO,sC,sL,sN,⟨a5,n5,k5⟩,sS⟩:=p
  obtain ⟨t1,t2,t3,t4,t5,t6,t7,t8,t9⟩:=t
  dsimp only at t1 t2 t3 t4 t5 t6 t7 t8 t9 h5
  subst t1 t2 t3 t4 t5 t6 t7 t8 t9
  obtain rfl:0=n5:=h5
  have HO:=hideIt (blank_yes20 a5 k5)
  clear R hl he
  obtain ⟨W,hW⟩:∃ W,W=w.alloc (.cells (hC ⟨N,own,cuts,lab,nums,0,0,0,0,0,0,0,[],0,said⟩ ⟨sO,sC,sL,sN,⟨a5,0,k5⟩,sS⟩) 35):=⟨_,rfl⟩
  have bW:Below w.heap.size w W:=by rw [hW];exact belA _ _
  have X:BxA W w.heap.size 35 (hC ⟨N,own,cuts,lab,nums,0,0,0,0,0,0,0,[],0,said⟩ ⟨sO,sC,sL,sN,⟨a5,0,k5⟩,sS⟩):=by rw [hW];exact BxA.new _ _ _
  have HB:=hideIt bW
  have y5:W.cell? ⟨w.heap.size,5,none⟩=some (.int .i64 0):=X.cell 5 rfl
  have y6:W.cell? ⟨w.heap.size,6,none⟩=some (.int .i64 0):=X.cell 6 rfl
  have y7:W.cell? ⟨w.heap.size,7,none⟩=some (.int .i64 0):=X.cell 7 rfl
  have y8:W.cell? ⟨w.heap.size,8,none⟩=some (.int .i64 0):=X.cell 8 rfl
  have y9:W.cell? ⟨w.heap.size,9,none⟩=some (.int .i64 0):=X.cell 9 rfl
  have y10:W.cell? ⟨w.heap.size,10,none⟩=some (.int .i64 0):=X.cell 10 rfl
  have y11:W.cell? ⟨w.heap.size,11,none⟩=some (.int .i64 0):=X.cell 11 rfl
  have y12:W.cell? ⟨w.heap.size,12,none⟩=some (.slice a5 0 k5):=X.cell 12 rfl
  have y13:W.cell? ⟨w.heap.size,13,none⟩=some (.int .i64 0):=X.cell 13 rfl
  clear X bW
  go_enter Tryz.func75,Tryz.ntmps75
  go_upto_region 1 with fail
  rw [← hW]
  clear hW
  go_wp2_with (go_at_call 97;refine (HO.out _).mono ?_;rintro e w1 ⟨rfl,hb1⟩)
  go_ret
  exact ⟨rfl,HB.out.trans (((belA _ _).trans (hb1.mono (by simp))).mono HB.out.size)⟩
 ·have hcap:=R.ss
  have hsl:p.s.n≤p.s.c:=hcap.1
  obtain ⟨⟨a1,n1,k1⟩,⟨a2,n2,k2⟩,⟨a3,n3,k3⟩,⟨a4,n4,k4⟩,⟨a5,n5,k5⟩,⟨a6,n6,k6⟩⟩:=p
  obtain ⟨N,own,cuts,lab,nums,i,o,a,b,sh,num,op,es,v,said⟩:=h
  have s1:=t.sh
  dsimp only at hl he hsl s1
  obtain ⟨s,rfl⟩:∃ s:Nat,sh=(s:Int)+1:=⟨(sh - 1).toNat,by omega⟩
  have tor:=t.or
  have tpl:=t.pl
  have to3:=t.o3
  have tnu:=t.nu
  have tid:=t.id
  have isd:=R.inv.sd.1
  have ss3:=R.inv.s
  have inu:=R.inv.num
  dsimp only at tor tpl to3 tnu tid isd inu
  rw [show (s:Int)+1 - 1=(s:Int) by omega] at tnu
  obtain ⟨W,hW⟩:∃ W,W=(w.alloc (.cells (hC ⟨N,own,cuts,lab,nums,i,o,a,b,(s:Int)+1,num,op,es,v,said⟩ ⟨⟨a1,n1,k1⟩,⟨a2,n2,k2⟩,⟨a3,n3,k3⟩,⟨a4,n4,k4⟩,⟨a5,n5,k5⟩,⟨a6,n6,k6⟩⟩) 35)).alloc (.cells #[.int .i64 i,.int .i64 o,.int .i64 a,.int .i64 b,.int .i64 ((s:Int)+1),.int .i64 num,.int .i64 op,.slice a5 n5 k5,.int .i64 v] 32):=⟨_,rfl⟩
  have X0:=BxA.new w 35 (hC ⟨N,own,cuts,lab,nums,i,o,a,b,(s:Int)+1,num,op,es,v,said⟩ ⟨⟨a1,n1,k1⟩,⟨a2,n2,k2⟩,⟨a3,n3,k3⟩,⟨a4,n4,k4⟩,⟨a5,n5,k5⟩,⟨a6,n6,k6⟩⟩)
  have bW:Below w.heap.size w W:=by rw [hW];exact (belA _ _).alloc (by simp) _
  have X:BxA W w.heap.size 35 (hC ⟨N,own,cuts,lab,nums,i,o,a,b,(s:Int)+1,num,op,es,v,said⟩ ⟨⟨a1,n1,k1⟩,⟨a2,n2,k2⟩,⟨a3,n3,k3⟩,⟨a4,n4,k4⟩,⟨a5,n5,k5⟩,⟨a6,n6,k6⟩⟩):=by rw [hW];exact X0.up (belA _ _)
  have T:BxA W (w.heap.size+1) 32 #[.int .i64 i,.int .i64 o,.int .i64 a,.int .i64 b,.int .i64 ((s:Int)+1),.int .i64 num,.int .i64 op,.slice a5 n5 k5,.int .i64 v]:=by
   have:=BxA.new (w.alloc (.cells (hC ⟨N,own,cuts,lab,nums,i,o,a,b,(s:Int)+1,num,op,es,v,said⟩ ⟨⟨a1,n1,k1⟩,⟨a2,n2,k2⟩,⟨a3,n3,k3⟩,⟨a4,n4,k4⟩,⟨a5,n5,k5⟩,⟨a6,n6,k6⟩⟩) 35)) 32 #[.int .i64 i,.int .i64 o,.int .i64 a,.int .i64 b,.int .i64 ((s:Int)+1),.int .i64 num,.int .i64 op,.slice a5 n5 k5,.int .i64 v]
   rw [show (w.alloc (.cells (hC ⟨N,own,cuts,lab,nums,i,o,a,b,(s:Int)+1,num,op,es,v,said⟩ ⟨⟨a1,n1,k1⟩,⟨a2,n2,k2⟩,⟨a3,n3,k3⟩,⟨a4,n4,k4⟩,⟨a5,n5,k5⟩,⟨a6,n6,k6⟩⟩) 35)).heap.size=w.heap.size+1 by simp] at this
   rw [hW];exact this
  have HB:=hideIt bW
  have HI:=hideIt (R.inn.up bW)
  have HZ:=hideIt (blank_no20 i o a b ((s:Int)+1) num op v a5 n5 k5 tid.1)
  have q1:(0:Int)≤(s:Int):=by omega
  have q2:(s:Int)<(n4:Int):=by omega
  have hm:=(atI_mem (ls:=nums) (v:=(s:Int)) q1 (by have:=hl.2.2.2.2.2.2.2.2;omega)).2
  rw [Int.toNat_natCast] at hm
  have hmb:=inu.2 _ (atI_mem (ls:=nums) (v:=(s:Int)) q1 (by have:=hl.2.2.2.2.2.2.2.2;omega)).1
  obtain ⟨bn,on,e4,hbn,hcn⟩:∃ bn on,a4=some ⟨bn,on,none⟩∧bn<W.heap.size∧W.cell? ⟨bn,on+s,none⟩=some (.int .i64 (O.atI nums ((s:Int)))):=by
   rcases HI.out.n.2 with h0 | ⟨bn,on,e,hb,hc⟩
   ·dsimp only at h0;omega
   ·exact ⟨bn,on,e,hb,hc _ _ hm⟩
  subst e4
  have HX:=hideIt X
  have HT:=hideIt T
  have HC:Hid (∀ u,Below W.heap.size W u→(u.cell? ⟨w.heap.size,0,none⟩=some (.int .i64 N)∧u.cell? ⟨w.heap.size,4,none⟩=some (.slice (some ⟨bn,on,none⟩) n4 k4)∧u.cell? ⟨w.heap.size,14,none⟩=some (.slice a6 n6 k6))∧(u.cell? ⟨w.heap.size+1,0,none⟩=some (.int .i64 i)∧u.cell? ⟨w.heap.size+1,1,none⟩=some (.int .i64 o)∧u.cell? ⟨w.heap.size+1,2,none⟩=some (.int .i64 a)∧u.cell? ⟨w.heap.size+1,3,none⟩=some (.int .i64 b)∧u.cell? ⟨w.heap.size+1,4,none⟩=some (.int .i64 ((s:Int)+1))∧u.cell? ⟨w.heap.size+1,5,none⟩=some (.int .i64 num)∧u.cell? ⟨w.heap.size+1,6,none⟩=some (.int .i64 op)∧u.cell? ⟨w.heap.size+1,7,none⟩=some (.slice a5 n5 k5)∧u.cell? ⟨w.heap.size+1,8,none⟩=some (.int .i64 v))∧u.cell? ⟨bn,on+s,none⟩=some (.int .i64 (O.atI nums ((s:Int))))):=fun u hu =>
   ⟨⟨(HX.out.up hu).cell 0 rfl,(HX.out.up hu).cell 4 rfl,(HX.out.up hu).cell 14 rfl⟩,⟨(HT.out.up hu).cell 0 rfl,(HT.out.up hu).cell 1 rfl,(HT.out.up hu).cell 2 rfl,(HT.out.up hu).cell 3 rfl,(HT.out.up hu).cell 4 rfl,(HT.out.up hu).cell 5 rfl,(HT.out.up hu).cell 6 rfl,(HT.out.up hu).cell 7 rfl,(HT.out.up hu).cell 8 rfl⟩,by rw [hu.cell (p:=⟨bn,on+s,none⟩) hbn];exact hcn⟩
  have H2:Hid (∀ u,Below W.heap.size W u→Calls Tryz.prog 98 #[.int .i64 N,.agg #[.int .i64 num,.int .i64 op,.slice a5 n5 k5,.int .i64 v]] u fun e v=>e=.returned (.bool true)∧Below W.heap.size W v):=fun u hu =>
   (O.sOrderOk_any N num op es v n5 a5 k5 (by omega) u (HI.out.up hu).e).mono fun e v ⟨h1,h2⟩=>⟨by rw [h1,tor],hu.trans (h2.mono hu.size)⟩
  have H3:Hid (∀ u,Below W.heap.size W u→Calls Tryz.prog 47 #[.agg (hC ⟨N,own,cuts,lab,nums,i,o,a,b,(s:Int)+1,num,op,es,v,said⟩ ⟨⟨a1,n1,k1⟩,⟨a2,n2,k2⟩,⟨a3,n3,k3⟩,⟨some ⟨bn,on,none⟩,n4,k4⟩,⟨a5,n5,k5⟩,⟨a6,n6,k6⟩⟩),.int .i64 i] u fun e v=>e=.returned (.int .i64 (-1))∧Below W.heap.size W v):=fun u hu =>
   (l12Said_any ⟨N,own,cuts,lab,nums,i,o,a,b,(s:Int)+1,num,op,es,v,said⟩ ⟨⟨a1,n1,k1⟩,⟨a2,n2,k2⟩,⟨a3,n3,k3⟩,⟨some ⟨bn,on,none⟩,n4,k4⟩,⟨a5,n5,k5⟩,⟨a6,n6,k6⟩⟩ i (by dsimp only;omega) u (HI.out.up hu).s).mono fun e v ⟨h1,h2⟩=>⟨by rw [h1];dsimp only;rw [tpl],hu.trans (h2.mono hu.size)⟩
  have H4:Hid (∀ u,Below W.heap.size W u→Calls Tryz.prog 49 #[.agg (hC ⟨N,own,cuts,lab,nums,i,o,a,b,(s:Int)+1,num,op,es,v,said⟩ ⟨⟨a1,n1,k1⟩,⟨a2,n2,k2⟩,⟨a3,n3,k3⟩,⟨some ⟨bn,on,none⟩,n4,k4⟩,⟨a5,n5,k5⟩,⟨a6,n6,k6⟩⟩),.agg #[.int .i64 i,.int .i64 o,.int .i64 a,.int .i64 b]] u fun e v=>e=.returned (.bool true)∧Below W.heap.size W v):=fun u hu =>
   (right_any20 ⟨N,own,cuts,lab,nums,i,o,a,b,(s:Int)+1,num,op,es,v,said⟩ ⟨⟨a1,n1,k1⟩,⟨a2,n2,k2⟩,⟨a3,n3,k3⟩,⟨some ⟨bn,on,none⟩,n4,k4⟩,⟨a5,n5,k5⟩,⟨a6,n6,k6⟩⟩ i o a b R.inv.n u).mono fun e v ⟨h1,h2⟩=>⟨by rw [h1];dsimp only;rw [show n3=S by omega];rw [show rgB N S o a b=true from t.rg],hu.trans (h2.mono hu.size)⟩
  have HL1:Hid (∀ u,Calls Tryz.prog 44 #[.int .i64 ((s:Int)+1),.int .i64 1,.int .i64 (n3:Int)] u fun e v=>e=.returned (.bool true)∧v=u):=fun u =>
   (O.l01In_any _ _ _ u).mono fun e v ⟨h1,h2⟩=>⟨by rw [h1,decide_eq_true (by omega)],h2⟩
  have HL2:Hid (∀ u,Calls Tryz.prog 44 #[.int .i64 i,.int .i64 1,.int .i64 100000] u fun e v=>e=.returned (.bool true)∧v=u):=fun u =>
   (O.l01In_any _ _ _ u).mono fun e v ⟨h1,h2⟩=>⟨by rw [h1,decide_eq_true tid],h2⟩
  have o3:(o != 3)=true:=by have:=to3;simpa using this
  have o4:(num == O.atI nums ((s:Int))+1)=true:=by rw [tnu];simp
  have b1:O.atI nums ((s:Int))≤1000:=by split at hmb <;> omega
  have b2:0≤O.atI nums ((s:Int)):=hmb.1
  have hAll:Hid (∀ u,Below W.heap.size W u→BxA u w.heap.size 35 (hC ⟨N,own,cuts,lab,nums,i,o,a,b,(s:Int)+1,num,op,es,v,said⟩ ⟨⟨a1,n1,k1⟩,⟨a2,n2,k2⟩,⟨a3,n3,k3⟩,⟨some ⟨bn,on,none⟩,n4,k4⟩,⟨a5,n5,k5⟩,⟨a6,n6,k6⟩⟩)):=fun u hu=>HX.out.up hu
  have w0:IntKind.i64.wrap (s:Int)=(s:Int):=by rw [IntKind.wrap_i64];omega
  have w1:IntKind.i64.wrap ((s:Int)+1 - 1)=(s:Int):=by rw [IntKind.wrap_i64];omega
  have w2:IntKind.i64.wrap (O.atI nums ((s:Int))+1)=O.atI nums ((s:Int))+1:=by rw [IntKind.wrap_i64];omega
  generalize O.atI nums ((s:Int))=xnum at *
  obtain ⟨y0,y1,y2,y3,y4,y5,y6,y7,y8,y9,y10,y11,y12,y13,y14⟩:=X0.all15
  obtain ⟨_,⟨z0,z1,z2,z3,z4,z5,z6,z7,z8⟩,_⟩:=HC.out W (Below.refl _ _)
  clear X T bW R t hl he hcap hsl hm hmb hcn X0 tnu tor tpl to3 tid isd inu ss3
  go_enter Tryz.func75,Tryz.ntmps75
  go_upto_region 2 with fail
  rw [← hW]
  clear hW y0 y1 y2 y3 y4 y5 y6 y7 y8 y9 y10 y11 y12 y13 y14
  go_wp2_with (go_at_call 97;refine (HZ.out _).mono ?_;rintro e w1 ⟨rfl,c1⟩;refine Hid.out ?_)
  refine hidp20 ?_
  have HS:∀ u,Below W.heap.size W u→u.cell? ⟨w.heap.size,0,none⟩=some (.int .i64 N)∧u.cell? ⟨w.heap.size,1,none⟩=some (.slice a1 n1 k1)∧u.cell? ⟨w.heap.size,2,none⟩=some (.slice a2 n2 k2)∧u.cell? ⟨w.heap.size,3,none⟩=some (.slice a3 n3 k3)∧u.cell? ⟨w.heap.size,4,none⟩=some (.slice (some ⟨bn,on,none⟩) n4 k4)∧u.cell? ⟨w.heap.size,5,none⟩=some (.int .i64 i)∧u.cell? ⟨w.heap.size,6,none⟩=some (.int .i64 o)∧u.cell? ⟨w.heap.size,7,none⟩=some (.int .i64 a)∧u.cell? ⟨w.heap.size,8,none⟩=some (.int .i64 b)∧u.cell? ⟨w.heap.size,9,none⟩=some (.int .i64 ((s:Int)+1))∧u.cell? ⟨w.heap.size,10,none⟩=some (.int .i64 num)∧u.cell? ⟨w.heap.size,11,none⟩=some (.int .i64 op)∧u.cell? ⟨w.heap.size,12,none⟩=some (.slice a5 n5 k5)∧u.cell? ⟨w.heap.size,13,none⟩=some (.int .i64 v)∧u.cell? ⟨w.heap.size,14,none⟩=some (.slice a6 n6 k6)∧u.cell? ⟨w.heap.size+1,0,none⟩=some (.int .i64 i)∧u.cell? ⟨w.heap.size+1,1,none⟩=some (.int .i64 o)∧u.cell? ⟨w.heap.size+1,2,none⟩=some (.int .i64 a)∧u.cell? ⟨w.heap.size+1,3,none⟩=some (.int .i64 b)∧u.cell? ⟨w.heap.size+1,4,none⟩=some (.int .i64 ((s:Int)+1))∧u.cell? ⟨w.heap.size+1,5,none⟩=some (.int .i64 num)∧u.cell? ⟨w.heap.size+1,6,none⟩=some (.int .i64 op)∧u.cell? ⟨w.heap.size+1,7,none⟩=some (.slice a5 n5 k5)∧u.cell? ⟨w.heap.size+1,8,none⟩=some (.int .i64 v)∧u.cell? ⟨bn,on+s,none⟩=some (.int .i64 xnum)∧Below W.heap.size W u:=fun u hu=>by
   obtain ⟨y0,y1,y2,y3,y4,y5,y6,y7,y8,y9,y10,y11,y12,y13,y14⟩:=(hAll.out u hu).all15
   obtain ⟨_,⟨z0,z1,z2,z3,z4,z5,z6,z7,z8⟩,zn⟩:=HC.out u hu
   exact ⟨y0,y1,y2,y3,y4,y5,y6,y7,y8,y9,y10,y11,y12,y13,y14,z0,z1,z2,z3,z4,z5,z6,z7,z8,zn,hu⟩
  have HS:=hideIt HS
  clear z0 z1 z2 z3 z4 z5 z6 z7 z8 HC hAll HZ
  go_upto_region 4 with fail
  go_region_held3 (fun u=>u.cell? ⟨w.heap.size,0,none⟩=some (.int .i64 N)∧u.cell? ⟨w.heap.size,1,none⟩=some (.slice a1 n1 k1)∧u.cell? ⟨w.heap.size,2,none⟩=some (.slice a2 n2 k2)∧u.cell? ⟨w.heap.size,3,none⟩=some (.slice a3 n3 k3)∧u.cell? ⟨w.heap.size,4,none⟩=some (.slice (some ⟨bn,on,none⟩) n4 k4)∧u.cell? ⟨w.heap.size,5,none⟩=some (.int .i64 i)∧u.cell? ⟨w.heap.size,6,none⟩=some (.int .i64 o)∧u.cell? ⟨w.heap.size,7,none⟩=some (.int .i64 a)∧u.cell? ⟨w.heap.size,8,none⟩=some (.int .i64 b)∧u.cell? ⟨w.heap.size,9,none⟩=some (.int .i64 ((s:Int)+1))∧u.cell? ⟨w.heap.size,10,none⟩=some (.int .i64 num)∧u.cell? ⟨w.heap.size,11,none⟩=some (.int .i64 op)∧u.cell? ⟨w.heap.size,12,none⟩=some (.slice a5 n5 k5)∧u.cell? ⟨w.heap.size,13,none⟩=some (.int .i64 v)∧u.cell? ⟨w.heap.size,14,none⟩=some (.slice a6 n6 k6)∧u.cell? ⟨w.heap.size+1,0,none⟩=some (.int .i64 i)∧u.cell? ⟨w.heap.size+1,1,none⟩=some (.int .i64 o)∧u.cell? ⟨w.heap.size+1,2,none⟩=some (.int .i64 a)∧u.cell? ⟨w.heap.size+1,3,none⟩=some (.int .i64 b)∧u.cell? ⟨w.heap.size+1,4,none⟩=some (.int .i64 ((s:Int)+1))∧u.cell? ⟨w.heap.size+1,5,none⟩=some (.int .i64 num)∧u.cell? ⟨w.heap.size+1,6,none⟩=some (.int .i64 op)∧u.cell? ⟨w.heap.size+1,7,none⟩=some (.slice a5 n5 k5)∧u.cell? ⟨w.heap.size+1,8,none⟩=some (.int .i64 v)∧u.cell? ⟨bn,on+s,none⟩=some (.int .i64 xnum)∧Below W.heap.size W u) (exact HS.out _ (by first | assumption | exact c1.drew))
   (first
   | (go_at_call_of 44 (Value.int IntKind.i64 100000);refine (HL2.out _).mono ?_;rintro e z9 ⟨rfl,rfl⟩)
   | (go_at_call 44;refine (HL1.out _).mono ?_;rintro e z9 ⟨rfl,rfl⟩)
   | (go_at_call 98;refine (H2.out _ (by first | assumption | exact c1.drew)).mono ?_;rintro e w3 ⟨rfl,c3⟩)
   | (go_at_call 47;refine (H3.out _ (by first | assumption | exact c1.drew)).mono ?_;rintro e w4 ⟨rfl,c4⟩)
   | (go_at_call 49;refine (H4.out _ (by first | assumption | exact c1.drew)).mono ?_;rintro e w5 ⟨rfl,c5⟩))
  all_goals
   go_wp2
   go_ret
   exact ⟨rfl,HB.out.trans (c5.mono HB.out.size)⟩
set_option maxRecDepth 100000 in
set_option maxHeartbeats 16000000 in
theorem sHeadOk_inv {S:Nat} {h:Hd} {p:Hp} (w:World) (R:HR S w h p) :
  Calls Tryz.prog 46 #[.agg (hC h p)] w fun e w'=>e=.returned (.bool (ctB h))∧Below w.heap.size w w':=by
 have hl:=R.inv.lens R.inn
 have hs:=R.inv.s
 have hN:=R.inv.n
 obtain ⟨⟨a1,n1,k1⟩,⟨a2,n2,k2⟩,⟨a3,n3,k3⟩,⟨a4,n4,k4⟩,⟨a5,n5,k5⟩,⟨a6,n6,k6⟩⟩:=p
 dsimp only at hl
 obtain ⟨W,hW⟩:∃ W,W=w.alloc (.cells (hC h ⟨⟨a1,n1,k1⟩,⟨a2,n2,k2⟩,⟨a3,n3,k3⟩,⟨a4,n4,k4⟩,⟨a5,n5,k5⟩,⟨a6,n6,k6⟩⟩) 35):=⟨_,rfl⟩
 have bW:Below w.heap.size w W:=by rw [hW];exact belA _ _
 have X:BxA W w.heap.size 35 (hC h ⟨⟨a1,n1,k1⟩,⟨a2,n2,k2⟩,⟨a3,n3,k3⟩,⟨a4,n4,k4⟩,⟨a5,n5,k5⟩,⟨a6,n6,k6⟩⟩):=by rw [hW];exact BxA.new _ _ _
 have HX:=hideIt X
 have HB:=hideIt bW
 have HR:=hideIt (R.up bW)
 have HE:Hid (h.lab.length=n3∧h.nums.length=n4∧n4=n3∧h.own.length=n1∧(n1:Int)=h.N∧h.said.length=n6∧h.cuts.length=n2∧n3=S):=⟨hl.2.2.2.2.2.2.2.1,hl.2.2.2.2.2.2.2.2,by omega,hl.2.2.2.2.2.2.1,hl.1,hl.2.2.2.2.2.1,R.inn.c.1,hl.2.2.1⟩
 have u1:1≤n3∧n3≤3:=by omega
 have u2:n2≤66:=hl.2.1
 have u3:n6≤80:=by omega
 have u4:n1≤12:=by omega
 have hcut:(O.chk h.N h.cuts && decide (h.cuts.length≤66))=true:=R.inv.cut
 have HL0:Hid (∀ u,Calls Tryz.prog 44 #[.int .i64 h.N,.int .i64 1,.int .i64 12] u fun e v=>e=.returned (.bool true)∧v=u):=fun u =>
  (O.l01In_any _ _ _ u).mono fun e v ⟨h1,h2⟩=>⟨by rw [h1,decide_eq_true hN],h2⟩
 have HL1:Hid (∀ u,Calls Tryz.prog 44 #[.int .i64 (n3:Int),.int .i64 1,.int .i64 3] u fun e v=>e=.returned (.bool true)∧v=u):=fun u =>
  (O.l01In_any _ _ _ u).mono fun e v ⟨h1,h2⟩=>⟨by rw [h1,decide_eq_true (by omega)],h2⟩
 have HE5:Hid (Calls Tryz.prog 73 #[.int .i64 h.N,.slice a2 n2 k2] W fun e v=>e=.returned (.bool true)∧Below W.heap.size W v) :=
  (O.l05Edges_any h.N h.cuts n2 a2 k2 (by omega) W HR.out.inn.c).mono fun e v ⟨h1,h2⟩=>⟨by rw [h1];first | rw [hcut] | exact congrArg (fun b=>Ending.returned (.bool b)) hcut,h2⟩
 have r2:((n4:Int) != (n3:Int))=false:=by rw [HE.out.2.2.1];simp
 have r3:((n1:Int) != h.N)=false:=by rw [HE.out.2.2.2.2.1];simp
 have r4:decide (80<(n6:Int))=false:=decide_eq_false (by omega)
 have HC:Hid (∀ u,Below W.heap.size W u→∀ (Q:Prop),(u.cell? ⟨w.heap.size,0,none⟩=some (.int .i64 h.N)→u.cell? ⟨w.heap.size,1,none⟩=some (.slice a1 n1 k1)→u.cell? ⟨w.heap.size,2,none⟩=some (.slice a2 n2 k2)→u.cell? ⟨w.heap.size,3,none⟩=some (.slice a3 n3 k3)→u.cell? ⟨w.heap.size,4,none⟩=some (.slice a4 n4 k4)→u.cell? ⟨w.heap.size,14,none⟩=some (.slice a6 n6 k6)→Q)→Q):=fun u hu Q hq =>
  hq ((HX.out.up hu).cell 0 rfl) ((HX.out.up hu).cell 1 rfl) ((HX.out.up hu).cell 2 rfl) ((HX.out.up hu).cell 3 rfl) ((HX.out.up hu).cell 4 rfl) ((HX.out.up hu).cell 14 rfl)
 have HInv:=hideIt R.inv
 have b0:=hideIt (Below.refl W.heap.size W)
 refine HC.out W b0.out _ ?_
 intro y0 y1 y2 y3 y4 y14
 clear X bW R hl hs hN hcut
 go_enter Tryz.func46,Tryz.ntmps46
 go_upto_region 1 with fail
 rw [← hW]
 clear hW
 go_wp2_with (first
  | (go_at_call_of 44 (Value.int IntKind.i64 12);refine (HL0.out _).mono ?_;rintro e z0 ⟨rfl,e1⟩;have e2:=e1.symm;subst e2;clear e1)
  | (go_at_call_of 44 (Value.int IntKind.i64 3);refine (HL1.out _).mono ?_;rintro e z0 ⟨rfl,e1⟩;have e2:=e1.symm;subst e2;clear e1)
  | (go_at_call 73;refine HE5.out.mono ?_;rintro e w1 ⟨rfl,c1⟩;refine HC.out _ c1 _ ?_;intro y0 y1 y2 y3 y4 y14;refine Hid.out ?_))
 refine hidp20 ?_
 have C1:=hideIt c1
 clear c1 y0 y1 y2 y3 y4 y14 HL0 HL1 HE5
 refine HC.out _ C1.out _ ?_
 intro y0 y1 y2 y3 y4 y14
 go_wp2
 go_loopw [3] (fun i wr=>∃ j:Nat,j≤n3∧i=.int .i64 (j:Int)∧Hid (Below W.heap.size W wr)) (fun i _=>n3 - (intOf i).toNat)
 case atStart=>exact ⟨0,by omega,rfl,C1⟩
 case round =>
  obtain ⟨j,hj,rfl,hb⟩:=hrel
  clear y0 y1 y2 y3 y4 y14
  refine HC.out _ hb.out _ ?_
  intro y0 y1 y2 y3 y4 y14
  by_cases hlt:j<n3
  ·rcases (HR.out.up hb.out).inn.l.2 with h0 | ⟨b,off,ea,hbl,hc⟩
   ·dsimp only at h0;omega
   rcases (HR.out.up hb.out).inn.n.2 with h0 | ⟨bn,on,en,hbn,hcn⟩
   ·have:=HE.out.2.2.1;dsimp only at h0;omega
   dsimp only at ea en
   obtain ⟨ls,hls⟩:∃ ls,h.lab[j]?=some ls:=⟨h.lab[j]'(by have:=HE.out;omega),List.getElem?_eq_getElem (by have:=HE.out;omega)⟩
   obtain ⟨x,hx⟩:∃ x,h.nums[j]?=some x:=⟨h.nums[j]'(by have:=HE.out;omega),List.getElem?_eq_getElem (by have:=HE.out;omega)⟩
   obtain ⟨al,cl,cx,hIs,_⟩:=hc j _ hls
   have cn:=hcn j _ hx
   have hlb:=HInv.out.lab.2 ls (List.mem_of_getElem? hls)
   have hxb:=HInv.out.num.2 x (List.mem_of_getElem? hx)
   have hl12:ls.length≤1048576:=by
    have:=(O.lB_bytes HInv.out.n.2 hlb).1
    have:=HInv.out.n
    omega
   have HLk:Hid (∀ u,Below wr.heap.size wr u→Calls Tryz.prog 74 #[.int .i64 h.N,.slice al ls.length cl] u fun e v=>e=.returned (.bool true)∧Below wr.heap.size wr v):=fun u hu =>
    (Q.l09Labels_any h.N ls ls.length al cl hl12 u (hIs.up hu)).mono fun e v ⟨h1,h2⟩=>⟨by rw [h1,hlb],hu.trans (h2.mono hu.size)⟩
   have HLn:Hid (∀ u,Calls Tryz.prog 44 #[.int .i64 x,.int .i64 0,.int .i64 99991] u fun e v=>e=.returned (.bool true)∧v=u):=fun u =>
    (O.l01In_any _ _ _ u).mono fun e v ⟨h1,h2⟩=>⟨by rw [h1,decide_eq_true (by have:=HInv.out.sd.1;split at hxb <;> omega)],h2⟩
   have b1:(0:Int)≤(j:Int):=by omega
   have b2:(j:Int)<(n3:Int):=by omega
   have b3:(j:Int)<(n4:Int):=by have:=HE.out;omega
   subst ea en
   have HS:Hid (∀ u,Below wr.heap.size wr u→u.cell? ⟨w.heap.size,0,none⟩=some (.int .i64 h.N)∧u.cell? ⟨w.heap.size,3,none⟩=some (.slice (some ⟨b,off,none⟩) n3 k3)∧u.cell? ⟨w.heap.size,4,none⟩=some (.slice (some ⟨bn,on,none⟩) n4 k4)∧u.cell? ⟨b,off+j,none⟩=some (.slice al ls.length cl)∧u.cell? ⟨bn,on+j,none⟩=some (.int .i64 x)∧Below wr.heap.size wr u):=fun u hu=>by
    have Y:=(HX.out.up hb.out).up hu
    exact ⟨Y.cell 0 rfl,Y.cell 3 rfl,Y.cell 4 rfl,by rw [hu.cell (p:=⟨b,off+j,none⟩) hbl];exact cx,by rw [hu.cell (p:=⟨bn,on+j,none⟩) hbn];exact cn,hu⟩
   have c0:=Below.refl wr.heap.size wr
   clear hc hcn hls hx hIs hlb hxb hl12 cx cn
   go_upto_region 6 with fail
   go_region_held3 (fun u=>u.cell? ⟨w.heap.size,0,none⟩=some (.int .i64 h.N)∧u.cell? ⟨w.heap.size,3,none⟩=some (.slice (some ⟨b,off,none⟩) n3 k3)∧u.cell? ⟨w.heap.size,4,none⟩=some (.slice (some ⟨bn,on,none⟩) n4 k4)∧u.cell? ⟨b,off+j,none⟩=some (.slice al ls.length cl)∧u.cell? ⟨bn,on+j,none⟩=some (.int .i64 x)∧Below wr.heap.size wr u) (exact HS.out _ (by first | assumption | exact c0.drew))
    (first
    | (go_at_call 74;refine (HLk.out _ (by first | assumption | exact c0.drew)).mono ?_;rintro e w2 ⟨rfl,c2⟩)
    | (go_at_call 44;refine (HLn.out _).mono ?_;rintro e z9 ⟨rfl,rfl⟩))
   all_goals
    go_wp2
    exact ⟨⟨j+1,by omega,by go_num,hb.out.trans (c2.mono hb.out.size)⟩,by simp [intOf];omega⟩
  ·obtain rfl:j=n3:=by omega
   have d1:decide ((j:Int)<(j:Int))=false:=by simp
   go_wp2
   go_loopw [4] (fun i wr=>∃ j:Nat,j≤n1∧i=.int .i64 (j:Int)∧Hid (Below W.heap.size W wr)) (fun i _=>n1 - (intOf i).toNat)
   case atStart=>exact ⟨0,by omega,rfl,hb⟩
   case round =>
    obtain ⟨q,hq,rfl,hb2⟩:=hrel
    clear y0 y1 y2 y3 y4 y14 hb hlt
    have hb:=hb2
    clear hb2
    refine HC.out _ hb.out _ ?_
    intro y0 y1 y2 y3 y4 y14
    have eN:h.N=(n1:Int):=HE.out.2.2.2.2.1.symm
    by_cases hlt:q<n1
    ·have dN:decide ((q:Int)<h.N)=true:=decide_eq_true (by omega)
     rcases (HR.out.up hb.out).inn.o.2 with h0 | ⟨b,off,ea,hbl,hc⟩
     ·dsimp only at h0;omega
     dsimp only at ea
     obtain ⟨x,hx⟩:∃ x,h.own[q]?=some x:=⟨h.own[q]'(by have:=HE.out;omega),List.getElem?_eq_getElem (by have:=HE.out;omega)⟩
     have cn:=hc q _ hx
     have hxb:=HInv.out.own.2 x (List.mem_of_getElem? hx)
     have HLn:Hid (∀ u,Calls Tryz.prog 44 #[.int .i64 x,.int .i64 1,.int .i64 (j:Int)] u fun e v=>e=.returned (.bool true)∧v=u):=fun u =>
      (O.l01In_any _ _ _ u).mono fun e v ⟨h1,h2⟩=>⟨by rw [h1,decide_eq_true (by have:=HE.out.2.2.2.2.2.2.2;omega)],h2⟩
     have b1:(0:Int)≤(q:Int):=by omega
     have b2:(q:Int)<(n1:Int):=by omega
     subst ea
     clear hc hx hxb eN
     go_wp2
     go_region_held3 (fun u=>u.cell? ⟨w.heap.size,1,none⟩=some (.slice (some ⟨b,off,none⟩) n1 k1)∧u.cell? ⟨w.heap.size,3,none⟩=some (.slice a3 j k3)∧u.cell? ⟨b,off+q,none⟩=some (.int .i64 x)) (exact ⟨y1,y3,cn⟩)
      ((go_at_call 44;refine (HLn.out _).mono ?_;rintro e z9 ⟨rfl,rfl⟩))
     go_wp2
     exact ⟨⟨q+1,by omega,by go_num,hb.out.drew⟩,by simp [intOf];omega⟩
    ·obtain rfl:q=n1:=by omega
     have dN:decide ((q:Int)<h.N)=false:=decide_eq_false (by omega)
     clear eN
     go_wp2
     go_loopw [5] (fun i wr=>∃ t:Nat,t≤n2∧i=.int .i64 (t:Int)∧Hid (Below W.heap.size W wr)∧Hid (∀ (k:Nat) (e:O.EdgeV),k<t→h.cuts[k]?=some e→(O.atI h.own e.1 == O.atI h.own e.2)=false)) (fun i _=>n2 - (intOf i).toNat)
     case atStart=>exact ⟨0,by omega,rfl,hb,fun k e hk _=>by omega⟩
     case round =>
      obtain ⟨t,ht,rfl,hb2,hok⟩:=hrel
      clear y0 y1 y2 y3 y4 y14 hb hlt dN
      have hb:=hb2
      clear hb2
      refine HC.out _ hb.out _ ?_
      intro y0 y1 y2 y3 y4 y14
      by_cases hlt:t<n2
      ·rcases (HR.out.up hb.out).inn.c.2 with h0 | ⟨b,off,ea,hbl,hc⟩
       ·dsimp only at h0;omega
       rcases (HR.out.up hb.out).inn.o.2 with h0 | ⟨bo,oo,eo,hbo,hco⟩
       ·have:=HE.out.2.2.2.2.1;have:=HInv.out.n;dsimp only at h0;omega
       dsimp only at ea eo
       obtain ⟨⟨ex,ey⟩,hx⟩:∃ x,h.cuts[t]?=some x:=⟨h.cuts[t]'(by have:=HE.out;omega),List.getElem?_eq_getElem (by have:=HE.out;omega)⟩
       obtain ⟨c0,c1⟩:=hc t _ hx
       have hxb:=O.chk_eB (by have:=HInv.out.cut;unfold O.eOk at this;rw [Bool.and_eq_true] at this;exact this.1) (List.mem_of_getElem? hx)
       rw [O.eB_iff'] at hxb
       dsimp only at c0 c1 hxb
       obtain ⟨i1,rfl⟩:∃ i:Nat,ex=(i:Int):=⟨ex.toNat,by omega⟩
       obtain ⟨i2,rfl⟩:∃ i:Nat,ey=(i:Int):=⟨ey.toNat,by omega⟩
       have eN:=HE.out.2.2.2.2.1
       have m1:=(atI_mem (ls:=h.own) (v:=(i1:Int)) (by omega) (by have:=HE.out;omega)).2
       have m2:=(atI_mem (ls:=h.own) (v:=(i2:Int)) (by omega) (by have:=HE.out;omega)).2
       rw [Int.toNat_natCast] at m1 m2
       have v1:=hco i1 _ m1
       have v2:=hco i2 _ m2
       have b1:(0:Int)≤(t:Int):=by omega
       have b2:(t:Int)<(n2:Int):=by omega
       have b3:(0:Int)≤(i1:Int):=by omega
       have b4:(i1:Int)<(q:Int):=by omega
       have b5:(0:Int)≤(i2:Int):=by omega
       have b6:(i2:Int)<(q:Int):=by omega
       subst ea eo
       have Hx:=hideIt hx
       clear hc hco hx hxb eN m1 m2
       cases hv:(O.atI h.own (i1:Int) == O.atI h.own (i2:Int)) with
       | true =>
        have HCt:Hid (ctB h=false):=by
         show _=_
         unfold ctB
         rw [← Bool.not_eq_true,List.all_eq_true]
         intro hall
         have:=hall _ (List.mem_of_getElem? Hx.out)
         dsimp only at this
         rw [hv] at this
         cases this
        generalize O.atI h.own (i1:Int)=x1 at *
        generalize O.atI h.own (i2:Int)=x2 at *
        go_upto_region 16 with fail
        go_region_held3 (fun u=>u.cell? ⟨w.heap.size,1,none⟩=some (.slice (some ⟨bo,oo,none⟩) q k1)∧u.cell? ⟨w.heap.size,2,none⟩=some (.slice (some ⟨b,off,none⟩) n2 k2)∧u.cell? ⟨b,off+t*2,none⟩=some (.int .i64 (i1:Int))∧u.cell? ⟨b,off+t*2+1,none⟩=some (.int .i64 (i2:Int))∧u.cell? ⟨bo,oo+i1,none⟩=some (.int .i64 x1)∧u.cell? ⟨bo,oo+i2,none⟩=some (.int .i64 x2)) (exact ⟨y1,y2,c0,c1,v1,v2⟩) (fail)
        go_wp2
        go_ret
        exact ⟨retB20 HCt.out.symm,HB.out.trans (hb.out.drew.mono HB.out.size)⟩
       | false =>
        have hok2:Hid (∀ (k:Nat) (e:O.EdgeV),k<t+1→h.cuts[k]?=some e→(O.atI h.own e.1 == O.atI h.own e.2)=false):=fun k e hk he=>by
         by_cases hkt:k<t
         ·exact hok.out k e hkt he
         ·obtain rfl:k=t:=by omega
          rw [Hx.out] at he
          cases he
          exact hv
        generalize O.atI h.own (i1:Int)=x1 at *
        generalize O.atI h.own (i2:Int)=x2 at *
        go_upto_region 16 with fail
        go_region_held3 (fun u=>u.cell? ⟨w.heap.size,1,none⟩=some (.slice (some ⟨bo,oo,none⟩) q k1)∧u.cell? ⟨w.heap.size,2,none⟩=some (.slice (some ⟨b,off,none⟩) n2 k2)∧u.cell? ⟨b,off+t*2,none⟩=some (.int .i64 (i1:Int))∧u.cell? ⟨b,off+t*2+1,none⟩=some (.int .i64 (i2:Int))∧u.cell? ⟨bo,oo+i1,none⟩=some (.int .i64 x1)∧u.cell? ⟨bo,oo+i2,none⟩=some (.int .i64 x2)) (exact ⟨y1,y2,c0,c1,v1,v2⟩) (fail)
        go_wp2
        exact ⟨⟨t+1,by omega,by go_num,hb.out.drew,hok2⟩,by simp [intOf];omega⟩
      ·obtain rfl:t=n2:=by omega
       have HCt:Hid (ctB h=true):=by
        show _=_
        unfold ctB
        rw [List.all_eq_true]
        intro e he
        obtain ⟨k,hk⟩:=List.mem_iff_getElem?.1 he
        have:=hok.out k e (by have:=(List.getElem?_eq_some_iff.1 hk).1;have:=HE.out;omega) hk
        rw [this]
        rfl
       have d1:decide ((t:Int)<(t:Int))=false:=by simp
       clear hok
       go_wp2
       go_loopw [6] (fun i wr=>∃ z:Nat,z≤n6∧i=.int .i64 (z:Int)∧Hid (Below W.heap.size W wr)) (fun i _=>n6 - (intOf i).toNat)
       case atStart=>exact ⟨0,by omega,rfl,hb⟩
       case round =>
        obtain ⟨z,hz,rfl,hb2⟩:=hrel
        clear y0 y1 y2 y3 y4 y14 hb hlt d1
        have hb:=hb2
        clear hb2
        obtain ⟨y0,y1,y2,y3,y4,y5,y6,y7,y8,y9,y10,y11,y12,y13,y14⟩:=(HX.out.up hb.out).all15
        by_cases hlt:z<n6
        ·obtain ⟨b6,off6,x,ea,hbl,hx,hat⟩:=(HR.out.up hb.out).inn.s.at hlt
         dsimp only at ea
         obtain ⟨e0,e1,e2,e3,e4,e5⟩:=hat
         obtain ⟨v1,v2,v3⟩:=HInv.out.sd.2 z x hx
         have HLn:Hid (∀ u,Calls Tryz.prog 44 #[.int .i64 x.s,.int .i64 1,.int .i64 3] u fun e v=>e=.returned (.bool true)∧v=u):=fun u =>
          (O.l01In_any _ _ _ u).mono fun e v ⟨h1,h2⟩=>⟨by rw [h1,decide_eq_true v2],h2⟩
         have HSd:Hid (∀ u,Below wr.heap.size wr u→Calls Tryz.prog 47 #[.agg (hC h ⟨⟨a1,q,k1⟩,⟨a2,t,k2⟩,⟨a3,j,k3⟩,⟨a4,n4,k4⟩,⟨a5,n5,k5⟩,⟨a6,n6,k6⟩⟩),.int .i64 x.id] u fun e v=>e=.returned (.int .i64 (z:Int))∧Below u.heap.size u v):=fun u hu =>
          (l12Said_any h ⟨⟨a1,q,k1⟩,⟨a2,t,k2⟩,⟨a3,j,k3⟩,⟨a4,n4,k4⟩,⟨a5,n5,k5⟩,⟨a6,n6,k6⟩⟩ x.id (by dsimp only;omega) u ((HR.out.up hb.out).up hu).inn.s).mono fun e v ⟨h1,h2⟩=>⟨by rw [h1,v3],h2⟩
         have HXr:=hideIt (HX.out.up hb.out)
         have r1:(x.id != x.i)=false:=by rw [v1];simp
         have rz:((z:Int) != (z:Int))=false:=by simp
         have b1:(0:Int)≤(z:Int):=by omega
         have b2:(z:Int)<(n6:Int):=by omega
         obtain ⟨W2,hW2⟩:∃ W2,W2=wr.alloc (.cells #[.int .i64 x.id,.int .i64 x.i,.int .i64 x.o,.int .i64 x.a,.int .i64 x.b,.int .i64 x.s] 82):=⟨_,rfl⟩
         have bW2:Below wr.heap.size wr W2:=by rw [hW2];exact belA _ _
         have XS:BxA W2 wr.heap.size 82 #[.int .i64 x.id,.int .i64 x.i,.int .i64 x.o,.int .i64 x.a,.int .i64 x.b,.int .i64 x.s]:=by rw [hW2];exact BxA.new _ _ _
         have z0:=XS.cell 0 rfl
         have z1:=XS.cell 1 rfl
         have z2:=XS.cell 5 rfl
         have HB2:=hideIt bW2
         subst ea
         clear hx v1 v2 v3 XS bW2
         go_upto_region 22 with fail
         rw [← hW2]
         clear hW2 y0 y1 y2 y3 y4 y5 y6 y7 y8 y9 y10 y11 y12 y13 y14
         obtain ⟨y0,y1,y2,y3,y4,y5,y6,y7,y8,y9,y10,y11,y12,y13,y14⟩:=(HXr.out.up HB2.out).all15
         go_wp2_with (first
          | (go_at_call 44;refine (HLn.out _).mono ?_;rintro e z9 ⟨rfl,e9⟩;have e8:=e9.symm;subst e8;clear e9)
          | (go_at_call 47;refine (HSd.out _ HB2.out).mono ?_;rintro e w9 ⟨rfl,c9⟩))
         exact ⟨⟨z+1,by omega,by go_num,hb.out.trans ((HB2.out.trans (c9.mono HB2.out.size)).mono hb.out.size)⟩,by simp [intOf];omega⟩
        ·obtain rfl:z=n6:=by omega
         have d1:decide ((z:Int)<(z:Int))=false:=by simp
         have HTk:=hideIt (sTaskOk_inv wr (HR.out.up hb.out))
         go_wp2_with (go_at_call 75;refine HTk.out.mono ?_;rintro e w9 ⟨rfl,c9⟩)
         go_ret
         exact ⟨retB20 HCt.out.symm,HB.out.trans ((hb.out.trans (c9.mono hb.out.size)).mono HB.out.size)⟩
abbrev tkL (h:Hd) (p:Hp):List Value:=[.int .i64 h.i,.int .i64 h.o,.int .i64 h.a,.int .i64 h.b,.int .i64 h.sh,.int .i64 h.num,.int .i64 h.op,p.e.v,.int .i64 h.v]
theorem wp_loadTk {op:Oper} {a:Act} {w:World} {K:Act→World→Prop} {Q:Exit→Act→World→Prop} {x:Operand} {b:Nat} {h:Hd} {p:Hp} (X:BxA w b 35 (hC h p)) (ho:op.op=.load 32 x) (hx:a.eval x=.pointer (some ⟨b,5,none⟩)) (k:K (a.put op.dst (.agg (tkL h p).toArray)) w):op.wp Tryz.prog a w K Q :=
 wp_load_mid 32 x ho b 5 hx (tkL h p) _ (fun j v hv=>BxA.range (l:=hLs h p) X (5+j) v (by rw [show (hLs h p)[5+j]?=((hLs h p).drop 5)[j]? by rw [List.getElem?_drop]];have hj:j<9:=(List.getElem?_eq_some_iff.1 hv).1;rw [show ((hLs h p).drop 5)[j]?=((tkL h p) ++ [p.s.v])[j]? from rfl,List.getElem?_append_left hj];exact hv) |> fun q=>by rw [Nat.zero_add] at q;exact q) Tryz.underlying32 rfl (by kernel_rfl) k
theorem wp_storeTk {op:Oper} {a:Act} {w:World} {K:Act→World→Prop} {Q:Exit→Act→World→Prop} {x y:Operand} {b:Nat} {h:Hd} {p:Hp} {l0:List Value} (X:BxA w b 32 l0.toArray) (hl:l0.length=9) (ho:op.op=.store 32 x y) (hx:a.eval x=.pointer (some ⟨b,0,none⟩)) (hy:a.eval y=.agg (tkL h p).toArray)
  (k:∀ w',BxA w' b 32 (tkL h p).toArray→w.grownBy w' (some b)→w'.heap.size=w.heap.size→K (a.put op.dst undef) w'):op.wp Tryz.prog a w K Q:=by
 refine wp_store_mid 32 x y ho b 0 (tkL h p).toArray hx hy ?_ (by kernel_rfl) (by kernel_rfl) ?_
 ·exact BxA.there (l:=l0) X (by show 9≤_;omega)
 ·rw [setCells_setA]
  have q:=BxA.setA (l:=l0) X 0 (tkL h p)
  rw [setV_all l0 (tkL h p) hl] at q
  exact k _ q (setA_gr w b _ 0 w (gr_self w _)) (size_setA _ _)
theorem cpI20H {ops:Array Oper} {o:Oper} {a:Act} {K:Act→World→Prop} {Q:Exit→Act→World→Prop} {E:Prop} {w0:World} (s x:Operand) (hgd:o.guard=none) (ho:o.op=.call { callee:=.builtin .append,args:=#[s,x],argTypes:=#[24,24] }) (hs:a.eval s=.slice (some ⟨w0.heap.size,0,none⟩) 0 0)
  (ls:List Int) (ad:Addr) (n c:Nat) (hx:a.eval x=.slice (some ad) n c) (hI:Is w0 w0.heap.size (some ad) n ls) (hn:n≤1048576) (hn1:1≤n)
  (h:∀ g cap w',w'.ownsRow w0.heap.size 3 1 (.slice (some ⟨g,0,none⟩) n cap) n (ic ls)→Below w0.heap.size w0 w'→K (a.put o.dst (.slice (some ⟨g,0,none⟩) n cap)) w'):if Region.wanted o (yielded ops a.tmps)=true then Oper.wp Tryz.prog o a (w0.alloc (.cells #[] 3)) K Q else E:=by
 obtain ⟨i0,hi,hz0,hz1,hz2⟩:=info_parts info3i
 rw [if_pos (by simp [Region.wanted,hgd])]
 have hJ:=hI.up (belA w0 (.cells #[] 3))
 refine wp_append_own _ s x 24 ho w0.heap.size 3 i0 _ 1 8 Tryz.underlying24 hi hz0 hz1 hz2 rfl (by decide) _ 0 [] hs (World.ownsRow_made (base:=w0.heap.size) w0 #[] 0 (Nat.le_refl _) (by unfold maxLen;omega) rfl) ad n c (ic ls) hx (by rw [ic_len,hI.1,Nat.mul_one]) ?_ icone20 (by unfold maxLen;omega) (by omega) (by simp) fun v' w' h2 h3 _=>?_
 ·rcases hJ.2 with h0 | ⟨b,off,e,hb,hc⟩
  ·omega
  ·simp only [Option.some.injEq] at e
   subst e
   exact hJ.newsC
 ·rw [Nat.zero_add,List.nil_append] at h2
  have hb:Below w0.heap.size w0 w':=(belA w0 _).grown h3 (by simp) (fun j hj=>by simp [Value.ownBlock] at hj;omega)
  rcases h2.2 with ⟨hv,h0⟩ | ⟨g,cap,cur,hv,_⟩
  ·omega
  ·subst hv
   exact h g cap w' h2 hb
set_option maxRecDepth 100000 in
set_option maxHeartbeats 16000000 in
theorem sHear_no {S:Nat} {h:Hd} {p:Hp} (sh num:Int) (ok:Bool) (es:List O.EdgeV) (ls:List Int) (aE:Option Addr) (nE cE:Nat) (aL:Option Addr) (nL cL:Nat) (w:World) (R0:HR S w h p) (hE:O.Es w w.heap.size aE nE es) (hI:Is w w.heap.size aL nL ls) (hz:aE=none→nE=0∧cE=0) (hzL:aL=none→nL=0∧cL=0) (hnE:nE≤1048576) (hnL:nL≤1048576) (hb:hearB h sh ⟨num,ok,es,ls⟩=false) :
  Calls Tryz.prog 22 #[.agg (hC h p),.int .i64 sh,.agg #[.int .i64 num,.bool ok,.slice aE nE cE,.slice aL nL cL]] w fun e w'=>TkA w (hearR h sh ⟨num,ok,es,ls⟩) e w':=by
 obtain ⟨T,hT⟩:=ex0 (hearR h sh ⟨num,ok,es,ls⟩)
 rw [← hT]
 have hln:=R0.inv.lens R0.inn
 obtain ⟨W,hW⟩:=ex0 (((w.alloc (.cells (hC h p) 35)).alloc (.cells #[.int .i64 num,.bool ok,.slice aE nE cE,.slice aL nL cL] 60)).alloc (.cells #[.int .i64 0,.slice none 0 0,.slice none 0 0,.slice none 0 0,.slice none 0 0,.int .i64 0,.int .i64 0,.int .i64 0,.int .i64 0,.int .i64 0,.int .i64 0,.int .i64 0,.slice none 0 0,.int .i64 0,.slice none 0 0] 35))
 have bW:Below w.heap.size w W:=by rw [hW];exact ((belA _ _).alloc (by simp) _).alloc (by simp;omega) _
 have X0:BxA W w.heap.size 35 (hC h p):=by rw [hW];exact ((BxA.new w _ _).up (belA _ _)).up (belA _ _)
 have X1:BxA W (w.heap.size+1) 60 #[.int .i64 num,.bool ok,.slice aE nE cE,.slice aL nL cL]:=by
  have q:=(BxA.new (w.alloc (.cells (hC h p) 35)) 60 #[.int .i64 num,.bool ok,.slice aE nE cE,.slice aL nL cL]).up (belA _ (.cells #[.int .i64 0,.slice none 0 0,.slice none 0 0,.slice none 0 0,.slice none 0 0,.int .i64 0,.int .i64 0,.int .i64 0,.int .i64 0,.int .i64 0,.int .i64 0,.int .i64 0,.slice none 0 0,.int .i64 0,.slice none 0 0] 35))
  rw [show (w.alloc (.cells (hC h p) 35)).heap.size=w.heap.size+1 by simp] at q
  rw [hW];exact q
 have X2:BxA W (w.heap.size+1+1) 35 (hC zeroH zeroP):=by
  have q:=BxA.new ((w.alloc (.cells (hC h p) 35)).alloc (.cells #[.int .i64 num,.bool ok,.slice aE nE cE,.slice aL nL cL] 60)) 35 #[.int .i64 0,.slice none 0 0,.slice none 0 0,.slice none 0 0,.slice none 0 0,.int .i64 0,.int .i64 0,.int .i64 0,.int .i64 0,.int .i64 0,.int .i64 0,.int .i64 0,.slice none 0 0,.int .i64 0,.slice none 0 0]
  rw [show ((w.alloc (.cells (hC h p) 35)).alloc (.cells #[.int .i64 num,.bool ok,.slice aE nE cE,.slice aL nL cL] 60)).heap.size=w.heap.size+1+1 by simp] at q
  rw [hW];exact q
 have HXs:=hideIt (And.intro X0 (And.intro X1 X2))
 have HB:=hideIt bW
 have HR:=hideIt (R0.up bW)
 have HL3:Hid (w.heap.size+3≤W.heap.size):=X2.lt
 have HCp:=hideIt (l12Copy_inv W HR.out)
 have HSh:Hid (h.said.length=p.s.n∧p.s.n≤80):=⟨hln.2.2.2.2.2.1,hln.2.2.2.2.1⟩
 have HT:=hideIt hT
 have HE0:=hideIt hE
 have HI0:=hideIt hI
 have Hz:=hideIt (And.intro hz (And.intro hzL (And.intro hnE hnL)))
 clear bW R0 hln X1 X2 hT hE hI hz hzL hnE hnL
 go_enter Tryz.func22,Tryz.ntmps22
 go_upto_region 1 with fail
 rw [← hW]
 clear hW
 refine wp_region_lit ?_
 go_step
 refine wp_loadH X0 rfl rfl ?_
 clear X0
 go_wp2_with (go_at_call 23;refine HCp.out.mono ?_;rintro e w2 ⟨p',R,rfl,hw,b2⟩;refine Hid.out ?_)
 refine hidp20 ?_
 go_step
 go_step
 go_step
 go_step
 go_step
 have T0:BxA (w2.alloc (.cells #[.int .i64 0,.slice none 0 0,.slice none 0 0,.slice none 0 0,.slice none 0 0,.int .i64 0,.int .i64 0,.int .i64 0,.int .i64 0,.int .i64 0,.int .i64 0,.int .i64 0,.slice none 0 0,.int .i64 0,.slice none 0 0] 35)) w2.heap.size 35 (hC zeroH zeroP):=BxA.new w2 _ _
 refine wp_storeH T0 rfl rfl rfl ?_
 intro v XV gv zv
 obtain ⟨G,hG⟩:=ex0 (w2.heap.size)
 have bv:Below w2.heap.size w2 v:=below_grB (belA w2 _) gv (Nat.le_refl _) (Nat.le_refl _)
 have b12:Below W.heap.size W v:=b2.trans (bv.mono b2.size)
 have KX:HX W.heap.size v G h p' R:=⟨by rw [hG];exact XV,by rw [hG];exact b2.size,hw.up bv⟩
 rw [← hG]
 have HK:=hideIt KX
 have HBv:=hideIt b12
 have HRv:=hideIt (HR.out.up b12)
 clear T0 XV gv zv hG bv hw b2 KX b12 HCp HR
 have hsn2:p'.s.n≤80:=by have h1:=HK.out.hw.ow.inn.s.1;have h2:=HSh.out;omega
 have HXv:=hideIt (And.intro (HXs.out.1.up HBv.out) (And.intro (HXs.out.2.1.up HBv.out) (HXs.out.2.2.up HBv.out)))
 have HBvw:Hid (Below w.heap.size w v):=HB.out.trans (HBv.out.mono HB.out.size)
 have HOk:=hideIt (sHeadOk_inv v HRv.out)
 have HAn:Hid (∀ u,Below v.heap.size v u→Calls Tryz.prog 54 #[.int .i64 h.N,.agg #[.int .i64 num,.bool ok,.slice aE nE cE,.slice aL nL cL]] u fun e w'=>e=.returned (.bool (O.aB h.N ⟨num,ok,es,ls⟩))∧Below v.heap.size v w'):=fun u hu=>by
  have h1:=Q.sAnswerOk_any h.N num ok es ls nE aE cE Hz.out.2.2.1 nL aL cL Hz.out.2.2.2 u (HE0.out.up (HBvw.out.trans (hu.mono HBvw.out.size))) (HI0.out.up (HBvw.out.trans (hu.mono HBvw.out.size)))
  exact h1.mono fun e w' ⟨h2,h3⟩=>⟨h2,hu.trans (h3.mono hu.size)⟩
 have HBu:Hid (∀ u,Calls Tryz.prog 48 #[.agg (hC h p)] u fun e w'=>e=.returned (.bool (h.sh != 0))∧Below u.heap.size u w'):=fun u=>sBusy_any h p u
 obtain ⟨y0,y1,y2,y3,y4,y5,y6,y7,y8,y9,y10,y11,y12,y13,y14⟩:=HXv.out.1.all15p
 have hb':=hb
 unfold hearB at hb'
 clear hb
 have HTb:=hideIt hb'
 clear hb'
 have HHb:Hid (hearB h sh ⟨num,ok,es,ls⟩=false):=HTb.out
 cases hct:ctB h with
 | false =>
  have HN:Hid (T=none):=by
   show T=none
   rw [HT.out]
   unfold hearR
   rw [if_neg (by rw [HHb.out];decide)]
  rw [hct] at HOk
  clear HT
  go_upto_region 2 with fail
  go_wp2_with ((go_at_call 46;refine HOk.out.mono ?_;rintro e w3 ⟨rfl,b3⟩;refine Hid.out ?_))
  refine hidp20 ?_
  have HXz:=hideIt (HK.out.up b3).bx
  have HRz:=hideIt (HXv.out.2.2.up b3)
  have HBw:=hideIt (HBvw.out.trans (b3.mono HBvw.out.size))
  clear b3 y0 y1 y2 y3 y4 y5 y6 y7 y8 y9 y10 y11 y12 y13 y14
  go_upto_region 3 with fail
  refine wp_region_lit ?_
  go_step
  refine wp_loadH HXz.out rfl rfl ?_
  go_step
  go_step
  refine wp_storeH HRz.out rfl rfl rfl ?_
  intro vz XZ gz zz
  have HXZ:=hideIt XZ
  have HBz:=hideIt (below_grB HBw.out gz (show w.heap.size≤w.heap.size+1+1 by omega) (Nat.le_refl _))
  clear XZ gz zz
  go_wp2
  exact bodyPost_ret (results_H2 Tryz.results22 rfl rfl HXZ.out) rfl ⟨h,p',0,rfl,HBz.out,by rw [HN.out]⟩
 | true =>
  rw [hct] at HOk
  cases ha:O.aB h.N ⟨num,ok,es,ls⟩ with
  | false =>
   rw [ha] at HAn
   have HN:Hid (T=none):=by
    show T=none
    rw [HT.out]
    unfold hearR
    rw [if_neg (by rw [HHb.out];decide)]
   clear hct ha
   clear HT
   go_upto_region 2 with fail
   go_wp2_with (first
    | (go_at_call 46;refine HOk.out.mono ?_;rintro e w3 ⟨rfl,b3⟩;clear y0 y1 y2 y3 y4 y5 y6 y7 y8 y9 y10 y11 y12 y13 y14;have y0:=(HXv.out.1.up b3).cell 0 rfl;have n0:=(HXv.out.2.1.up b3).cell 0 rfl;have n1:=(HXv.out.2.1.up b3).cell 1 rfl;have n2:w3.cell? ⟨w.heap.size+1,2,none⟩=some (.slice aE nE cE):=(HXv.out.2.1.up b3).cell 2 rfl;have n3:w3.cell? ⟨w.heap.size+1,3,none⟩=some (.slice aL nL cL):=(HXv.out.2.1.up b3).cell 3 rfl)
    | (go_at_call 54;refine (HAn.out _ b3).mono ?_;rintro e w4 ⟨rfl,b4⟩;refine Hid.out ?_))
   refine hidp20 ?_
   have HXz:=hideIt (HK.out.up b4).bx
   have HRz:=hideIt (HXv.out.2.2.up b4)
   have HBw:=hideIt (HBvw.out.trans (b4.mono HBvw.out.size))
   clear b3 b4 y0 n0 n1 n2 n3
   go_upto_region 3 with fail
   refine wp_region_lit ?_
   go_step
   refine wp_loadH HXz.out rfl rfl ?_
   go_step
   go_step
   refine wp_storeH HRz.out rfl rfl rfl ?_
   intro vz XZ gz zz
   have HXZ:=hideIt XZ
   have HBz:=hideIt (below_grB HBw.out gz (show w.heap.size≤w.heap.size+1+1 by omega) (Nat.le_refl _))
   clear XZ gz zz
   go_wp2
   exact bodyPost_ret (results_H2 Tryz.results22 rfl rfl HXZ.out) rfl ⟨h,p',0,rfl,HBz.out,by rw [HN.out]⟩
  | true =>
   rw [ha] at HAn
   have HD:Hid (¬ (sh=h.sh∧num=h.num)):=by
    have h1:=HTb.out
    rw [hct,ha,Bool.true_and,Bool.true_and,decide_eq_false_iff_not] at h1
    exact h1
   clear hct ha
   cases hbu:(h.sh != 0) with
   | false =>
    rw [hbu] at HBu
    clear hbu
    have HN:Hid (T=none):=by
     show T=none
     rw [HT.out]
     unfold hearR
     rw [if_neg (by rw [HHb.out];decide)]
    skip
    clear HT
    go_upto_region 2 with fail
    go_wp2_with (first
     | (go_at_call 46;refine HOk.out.mono ?_;rintro e w3 ⟨rfl,b3⟩;clear y0 y1 y2 y3 y4 y5 y6 y7 y8 y9 y10 y11 y12 y13 y14;have y0:=(HXv.out.1.up b3).cell 0 rfl;have n0:=(HXv.out.2.1.up b3).cell 0 rfl;have n1:=(HXv.out.2.1.up b3).cell 1 rfl;have n2:w3.cell? ⟨w.heap.size+1,2,none⟩=some (.slice aE nE cE):=(HXv.out.2.1.up b3).cell 2 rfl;have n3:w3.cell? ⟨w.heap.size+1,3,none⟩=some (.slice aL nL cL):=(HXv.out.2.1.up b3).cell 3 rfl)
     | (go_at_call 54;refine (HAn.out _ b3).mono ?_;rintro e w4 ⟨rfl,b4⟩;clear y0 n0 n1 n2 n3;obtain ⟨y0,y1,y2,y3,y4,y5,y6,y7,y8,y9,y10,y11,y12,y13,y14⟩:=(HXv.out.1.up b4).all15p)
     | (go_at_call 48;refine (HBu.out _).mono ?_;rintro e w5 ⟨rfl,b5'⟩;have b5:=b4.trans (b5'.mono b4.size);refine Hid.out ?_))
    refine hidp20 ?_
    have HXz:=hideIt (HK.out.up b5).bx
    have HRz:=hideIt (HXv.out.2.2.up b5)
    have HBw:=hideIt (HBvw.out.trans (b5.mono HBvw.out.size))
    clear b3 b4 b5 b5' y0 y1 y2 y3 y4 y5 y6 y7 y8 y9 y10 y11 y12 y13 y14
    go_upto_region 3 with fail
    refine wp_region_lit ?_
    go_step
    refine wp_loadH HXz.out rfl rfl ?_
    go_step
    go_step
    refine wp_storeH HRz.out rfl rfl rfl ?_
    intro vz XZ gz zz
    have HXZ:=hideIt XZ
    have HBz:=hideIt (below_grB HBw.out gz (show w.heap.size≤w.heap.size+1+1 by omega) (Nat.le_refl _))
    clear XZ gz zz
    go_wp2
    exact bodyPost_ret (results_H2 Tryz.results22 rfl rfl HXZ.out) rfl ⟨h,p',0,rfl,HBz.out,by rw [HN.out]⟩
   | true =>
    rw [hbu] at HBu
    clear hbu
    by_cases hs:sh=h.sh
    ·have e2:(num != h.num)=true:=by have:=HD.out;simp;exact fun e=>this ⟨hs,e⟩
     have e1:(sh != h.sh)=false:=by simp [hs]
     have Hs:=hideIt hs
     clear hs
     have HN:Hid (T=none):=by
      show T=none
      rw [HT.out]
      unfold hearR
      rw [if_neg (by rw [HHb.out];decide)]
     skip
     clear HT
     go_upto_region 2 with fail
     go_wp2_with (first
      | (go_at_call 46;refine HOk.out.mono ?_;rintro e w3 ⟨rfl,b3⟩;clear y0 y1 y2 y3 y4 y5 y6 y7 y8 y9 y10 y11 y12 y13 y14;have y0:=(HXv.out.1.up b3).cell 0 rfl;have n0:=(HXv.out.2.1.up b3).cell 0 rfl;have n1:=(HXv.out.2.1.up b3).cell 1 rfl;have n2:w3.cell? ⟨w.heap.size+1,2,none⟩=some (.slice aE nE cE):=(HXv.out.2.1.up b3).cell 2 rfl;have n3:w3.cell? ⟨w.heap.size+1,3,none⟩=some (.slice aL nL cL):=(HXv.out.2.1.up b3).cell 3 rfl)
      | (go_at_call 54;refine (HAn.out _ b3).mono ?_;rintro e w4 ⟨rfl,b4⟩;clear y0 n0 n1 n2 n3;obtain ⟨y0,y1,y2,y3,y4,y5,y6,y7,y8,y9,y10,y11,y12,y13,y14⟩:=(HXv.out.1.up b4).all15p)
      | (go_at_call 48;refine (HBu.out _).mono ?_;rintro e w5 ⟨rfl,b5'⟩;have b5:=b4.trans (b5'.mono b4.size);clear y0 y1 y2 y3 y4 y5 y6 y7 y8 y9 y10 y11 y12 y13 y14;have y9:=(HXv.out.1.up b5).cell 9 rfl;have y10:=(HXv.out.1.up b5).cell 10 rfl;have n0:=(HXv.out.2.1.up b5).cell 0 rfl;refine Hid.out ?_))
     refine hidp20 ?_
     have HXz:=hideIt (HK.out.up b5).bx
     have HRz:=hideIt (HXv.out.2.2.up b5)
     have HBw:=hideIt (HBvw.out.trans (b5.mono HBvw.out.size))
     clear b3 b4 b5 b5'
     go_upto_region 3 with fail
     refine wp_region_lit ?_
     go_step
     refine wp_loadH HXz.out rfl rfl ?_
     go_step
     go_step
     refine wp_storeH HRz.out rfl rfl rfl ?_
     intro vz XZ gz zz
     have HXZ:=hideIt XZ
     have HBz:=hideIt (below_grB HBw.out gz (show w.heap.size≤w.heap.size+1+1 by omega) (Nat.le_refl _))
     clear XZ gz zz
     go_wp2
     exact bodyPost_ret (results_H2 Tryz.results22 rfl rfl HXZ.out) rfl ⟨h,p',0,rfl,HBz.out,by rw [HN.out]⟩
    ·have e1:(sh != h.sh)=true:=by simpa using hs
     have Hs:=hideIt hs
     clear hs
     have HN:Hid (T=none):=by
      show T=none
      rw [HT.out]
      unfold hearR
      rw [if_neg (by rw [HHb.out];decide)]
     skip
     clear HT
     go_upto_region 2 with fail
     go_wp2_with (first
      | (go_at_call 46;refine HOk.out.mono ?_;rintro e w3 ⟨rfl,b3⟩;clear y0 y1 y2 y3 y4 y5 y6 y7 y8 y9 y10 y11 y12 y13 y14;have y0:=(HXv.out.1.up b3).cell 0 rfl;have n0:=(HXv.out.2.1.up b3).cell 0 rfl;have n1:=(HXv.out.2.1.up b3).cell 1 rfl;have n2:w3.cell? ⟨w.heap.size+1,2,none⟩=some (.slice aE nE cE):=(HXv.out.2.1.up b3).cell 2 rfl;have n3:w3.cell? ⟨w.heap.size+1,3,none⟩=some (.slice aL nL cL):=(HXv.out.2.1.up b3).cell 3 rfl)
      | (go_at_call 54;refine (HAn.out _ b3).mono ?_;rintro e w4 ⟨rfl,b4⟩;clear y0 n0 n1 n2 n3;obtain ⟨y0,y1,y2,y3,y4,y5,y6,y7,y8,y9,y10,y11,y12,y13,y14⟩:=(HXv.out.1.up b4).all15p)
      | (go_at_call 48;refine (HBu.out _).mono ?_;rintro e w5 ⟨rfl,b5'⟩;have b5:=b4.trans (b5'.mono b4.size);clear y0 y1 y2 y3 y4 y5 y6 y7 y8 y9 y10 y11 y12 y13 y14;have y9:=(HXv.out.1.up b5).cell 9 rfl;have y10:=(HXv.out.1.up b5).cell 10 rfl;have n0:=(HXv.out.2.1.up b5).cell 0 rfl;refine Hid.out ?_))
     refine hidp20 ?_
     have HXz:=hideIt (HK.out.up b5).bx
     have HRz:=hideIt (HXv.out.2.2.up b5)
     have HBw:=hideIt (HBvw.out.trans (b5.mono HBvw.out.size))
     clear b3 b4 b5 b5'
     go_upto_region 3 with fail
     refine wp_region_lit ?_
     go_step
     refine wp_loadH HXz.out rfl rfl ?_
     go_step
     go_step
     refine wp_storeH HRz.out rfl rfl rfl ?_
     intro vz XZ gz zz
     have HXZ:=hideIt XZ
     have HBz:=hideIt (below_grB HBw.out gz (show w.heap.size≤w.heap.size+1+1 by omega) (Nat.le_refl _))
     clear XZ gz zz
     go_wp2
     exact bodyPost_ret (results_H2 Tryz.results22 rfl rfl HXZ.out) rfl ⟨h,p',0,rfl,HBz.out,by rw [HN.out]⟩
set_option maxRecDepth 100000 in
set_option maxHeartbeats 16000000 in
theorem sHear_yes {S:Nat} {h:Hd} {p:Hp} (sh num:Int) (ok:Bool) (es:List O.EdgeV) (ls:List Int) (aE:Option Addr) (nE cE:Nat) (aL:Option Addr) (nL cL:Nat) (w:World) (R0:HR S w h p) (hE:O.Es w w.heap.size aE nE es) (hI:Is w w.heap.size aL nL ls) (hz:aE=none→nE=0∧cE=0) (hzL:aL=none→nL=0∧cL=0) (hnE:nE≤1048576) (hnL:nL≤1048576) (hb:hearB h sh ⟨num,ok,es,ls⟩=true) :
  Calls Tryz.prog 22 #[.agg (hC h p),.int .i64 sh,.agg #[.int .i64 num,.bool ok,.slice aE nE cE,.slice aL nL cL]] w fun e w'=>TkA w (hearR h sh ⟨num,ok,es,ls⟩) e w':=by
 obtain ⟨T,hT⟩:=ex0 (hearR h sh ⟨num,ok,es,ls⟩)
 rw [← hT]
 have hln:=R0.inv.lens R0.inn
 obtain ⟨W,hW⟩:=ex0 (((w.alloc (.cells (hC h p) 35)).alloc (.cells #[.int .i64 num,.bool ok,.slice aE nE cE,.slice aL nL cL] 60)).alloc (.cells #[.int .i64 0,.slice none 0 0,.slice none 0 0,.slice none 0 0,.slice none 0 0,.int .i64 0,.int .i64 0,.int .i64 0,.int .i64 0,.int .i64 0,.int .i64 0,.int .i64 0,.slice none 0 0,.int .i64 0,.slice none 0 0] 35))
 have bW:Below w.heap.size w W:=by rw [hW];exact ((belA _ _).alloc (by simp) _).alloc (by simp;omega) _
 have X0:BxA W w.heap.size 35 (hC h p):=by rw [hW];exact ((BxA.new w _ _).up (belA _ _)).up (belA _ _)
 have X1:BxA W (w.heap.size+1) 60 #[.int .i64 num,.bool ok,.slice aE nE cE,.slice aL nL cL]:=by
  have q:=(BxA.new (w.alloc (.cells (hC h p) 35)) 60 #[.int .i64 num,.bool ok,.slice aE nE cE,.slice aL nL cL]).up (belA _ (.cells #[.int .i64 0,.slice none 0 0,.slice none 0 0,.slice none 0 0,.slice none 0 0,.int .i64 0,.int .i64 0,.int .i64 0,.int .i64 0,.int .i64 0,.int .i64 0,.int .i64 0,.slice none 0 0,.int .i64 0,.slice none 0 0] 35))
  rw [show (w.alloc (.cells (hC h p) 35)).heap.size=w.heap.size+1 by simp] at q
  rw [hW];exact q
 have X2:BxA W (w.heap.size+1+1) 35 (hC zeroH zeroP):=by
  have q:=BxA.new ((w.alloc (.cells (hC h p) 35)).alloc (.cells #[.int .i64 num,.bool ok,.slice aE nE cE,.slice aL nL cL] 60)) 35 #[.int .i64 0,.slice none 0 0,.slice none 0 0,.slice none 0 0,.slice none 0 0,.int .i64 0,.int .i64 0,.int .i64 0,.int .i64 0,.int .i64 0,.int .i64 0,.int .i64 0,.slice none 0 0,.int .i64 0,.slice none 0 0]
  rw [show ((w.alloc (.cells (hC h p) 35)).alloc (.cells #[.int .i64 num,.bool ok,.slice aE nE cE,.slice aL nL cL] 60)).heap.size=w.heap.size+1+1 by simp] at q
  rw [hW];exact q
 have HXs:=hideIt (And.intro X0 (And.intro X1 X2))
 have HB:=hideIt bW
 have HR:=hideIt (R0.up bW)
 have HL3:Hid (w.heap.size+3≤W.heap.size):=X2.lt
 have HCp:=hideIt (l12Copy_inv W HR.out)
 have HSh:Hid (h.said.length=p.s.n∧p.s.n≤80):=⟨hln.2.2.2.2.2.1,hln.2.2.2.2.1⟩
 have HT:=hideIt hT
 have HE0:=hideIt hE
 have HI0:=hideIt hI
 have Hz:=hideIt (And.intro hz (And.intro hzL (And.intro hnE hnL)))
 clear bW R0 hln X1 X2 hT hE hI hz hzL hnE hnL
 go_enter Tryz.func22,Tryz.ntmps22
 go_upto_region 1 with fail
 rw [← hW]
 clear hW
 refine wp_region_lit ?_
 go_step
 refine wp_loadH X0 rfl rfl ?_
 clear X0
 go_wp2_with (go_at_call 23;refine HCp.out.mono ?_;rintro e w2 ⟨p',R,rfl,hw,b2⟩;refine Hid.out ?_)
 refine hidp20 ?_
 go_step
 go_step
 go_step
 go_step
 go_step
 have T0:BxA (w2.alloc (.cells #[.int .i64 0,.slice none 0 0,.slice none 0 0,.slice none 0 0,.slice none 0 0,.int .i64 0,.int .i64 0,.int .i64 0,.int .i64 0,.int .i64 0,.int .i64 0,.int .i64 0,.slice none 0 0,.int .i64 0,.slice none 0 0] 35)) w2.heap.size 35 (hC zeroH zeroP):=BxA.new w2 _ _
 refine wp_storeH T0 rfl rfl rfl ?_
 intro v XV gv zv
 obtain ⟨G,hG⟩:=ex0 (w2.heap.size)
 have bv:Below w2.heap.size w2 v:=below_grB (belA w2 _) gv (Nat.le_refl _) (Nat.le_refl _)
 have b12:Below W.heap.size W v:=b2.trans (bv.mono b2.size)
 have KX:HX W.heap.size v G h p' R:=⟨by rw [hG];exact XV,by rw [hG];exact b2.size,hw.up bv⟩
 rw [← hG]
 have HK:=hideIt KX
 have HBv:=hideIt b12
 have HRv:=hideIt (HR.out.up b12)
 clear T0 XV gv zv hG bv hw b2 KX b12 HCp HR
 have hsn2:p'.s.n≤80:=by have h1:=HK.out.hw.ow.inn.s.1;have h2:=HSh.out;omega
 have HXv:=hideIt (And.intro (HXs.out.1.up HBv.out) (And.intro (HXs.out.2.1.up HBv.out) (HXs.out.2.2.up HBv.out)))
 have HBvw:Hid (Below w.heap.size w v):=HB.out.trans (HBv.out.mono HB.out.size)
 have HOk:=hideIt (sHeadOk_inv v HRv.out)
 have HAn:Hid (∀ u,Below v.heap.size v u→Calls Tryz.prog 54 #[.int .i64 h.N,.agg #[.int .i64 num,.bool ok,.slice aE nE cE,.slice aL nL cL]] u fun e w'=>e=.returned (.bool (O.aB h.N ⟨num,ok,es,ls⟩))∧Below v.heap.size v w'):=fun u hu=>by
  have h1:=Q.sAnswerOk_any h.N num ok es ls nE aE cE Hz.out.2.2.1 nL aL cL Hz.out.2.2.2 u (HE0.out.up (HBvw.out.trans (hu.mono HBvw.out.size))) (HI0.out.up (HBvw.out.trans (hu.mono HBvw.out.size)))
  exact h1.mono fun e w' ⟨h2,h3⟩=>⟨h2,hu.trans (h3.mono hu.size)⟩
 have HBu:Hid (∀ u,Calls Tryz.prog 48 #[.agg (hC h p)] u fun e w'=>e=.returned (.bool (h.sh != 0))∧Below u.heap.size u w'):=fun u=>sBusy_any h p u
 obtain ⟨y0,y1,y2,y3,y4,y5,y6,y7,y8,y9,y10,y11,y12,y13,y14⟩:=HXv.out.1.all15p
 obtain ⟨t,ha,hsh,hnu⟩:=hear_tk HRv.out.inv hb
 dsimp only at hnu
 have hct:ctB h=true:=by unfold hearB at hb;rw [Bool.and_eq_true] at hb;exact hb.1
 have HY:Hid (T=some (hdH (setH h num ls) ok es).1):=by show T=_;rw [HT.out];unfold hearR;rw [if_pos hb]
 have hHr:=HRv.out.inv.hear hb
 dsimp only at hHr
 obtain ⟨a1,a2,a3⟩:=aB_parts ha
 dsimp only at a1 a2 a3
 have hq:=HRv.out.inv.set (num:=num) (by omega) a3
 have hnm:=HRv.out.inv.setNum t (ls:=ls) hnu
 rw [hct] at HOk
 rw [ha] at HAn
 rw [show (h.sh != 0)=true by have:=t.sh;simp;omega] at HBu
 have e1:(sh != h.sh)=false:=by simp [hsh]
 have e2:(num != h.num)=false:=by simp [hnu]
 obtain ⟨j,hj⟩:∃ j:Nat,sh=(j:Int)+1:=⟨(sh - 1).toNat,by have:=t.sh;omega⟩
 have hjS:j<S:=by have:=t.sh;omega
 have hln:=HRv.out.inv.lens HK.out.hw.ow.inn
 have hlR:R.length=p'.l.n:=HK.out.hw.ow.l.len
 have hN1:=HRv.out.inv.n
 have hnL:(nL:Int)=h.N:=by have h1:=HI0.out.1;unfold O.lB at a3;rw [Bool.and_eq_true,decide_eq_true_iff] at a3;omega
 have hjh:(h.sh - 1).toNat=j:=by omega
 have Ht:=hideIt t
 have HQ1:=hideIt hq
 have HNm:Hid (∀ y ∈ (setH h num ls).nums,0≤y∧y≤1000):=fun y hy=>⟨hq.num.2 y hy,by have h1:=hnm y hy;have h2:=t.ln;split at h1 <;> omega⟩
 have Ha2:=hideIt a2
 have HHr:=hideIt hHr
 have HLen:=hideIt (And.intro hnL (And.intro hjh (And.intro hlR hln)))
 subst hj
 clear hb ha hsh hnu hct hHr a1 a2 a3 hq hnm t hlR hjh HT hln
 go_upto_region 2 with fail
 go_wp2_with (first
  | (go_at_call 46;refine HOk.out.mono ?_;rintro e w3 ⟨rfl,b3⟩;clear y0 y1 y2 y3 y4 y5 y6 y7 y8 y9 y10 y11 y12 y13 y14;have y0:=(HXv.out.1.up b3).cell 0 rfl;have n0:=(HXv.out.2.1.up b3).cell 0 rfl;have n1:=(HXv.out.2.1.up b3).cell 1 rfl;have n2:w3.cell? ⟨w.heap.size+1,2,none⟩=some (.slice aE nE cE):=(HXv.out.2.1.up b3).cell 2 rfl;have n3:w3.cell? ⟨w.heap.size+1,3,none⟩=some (.slice aL nL cL):=(HXv.out.2.1.up b3).cell 3 rfl)
  | (go_at_call 54;refine (HAn.out _ b3).mono ?_;rintro e w4 ⟨rfl,b4⟩;clear y0 n0 n1 n2 n3;obtain ⟨y0,y1,y2,y3,y4,y5,y6,y7,y8,y9,y10,y11,y12,y13,y14⟩:=(HXv.out.1.up b4).all15p)
  | (go_at_call 48;refine (HBu.out _).mono ?_;rintro e w5 ⟨rfl,b5'⟩;have b5:=b4.trans (b5'.mono b4.size);clear y0 y1 y2 y3 y4 y5 y6 y7 y8 y9 y10 y11 y12 y13 y14;have y9:=(HXv.out.1.up b5).cell 9 rfl;have y10:=(HXv.out.1.up b5).cell 10 rfl;have n0:=(HXv.out.2.1.up b5).cell 0 rfl;refine Hid.out ?_))
 refine hidp20 ?_
 have HB5:Hid (Below W.heap.size W w5):=HBv.out.trans (b5.mono HBv.out.size)
 have HK5:=hideIt (HK.out.up b5)
 have HX5:=hideIt (HXv.out.1.up b5)
 clear b3 b4 b5 b5'
 go_upto_region 4 with fail
 clear y9 y10 n0 e1 e2
 refine wp_region_lit ?_
 go_step
 go_step
 go_step
 go_step
 refine wp_loadTk HX5.out rfl rfl ?_
 go_step
 go_step
 go_step
 go_step
 go_step
 have T0:BxA (w5.alloc (.cells #[.int .i64 0,.int .i64 0,.int .i64 0,.int .i64 0,.int .i64 0,.int .i64 0,.int .i64 0,.slice none 0 0,.int .i64 0] 32)) w5.heap.size 32 #[.int .i64 0,.int .i64 0,.int .i64 0,.int .i64 0,.int .i64 0,.int .i64 0,.int .i64 0,.slice none 0 0,.int .i64 0]:=BxA.new w5 _ _
 refine wp_storeTk (l0:=[.int .i64 0,.int .i64 0,.int .i64 0,.int .i64 0,.int .i64 0,.int .i64 0,.int .i64 0,.slice none 0 0,.int .i64 0]) (h:=h) (p:=p) T0 rfl rfl rfl rfl ?_
 intro vt XT gt zt
 obtain ⟨TK,hTK⟩:∃ B,B=w5.heap.size:=⟨_,rfl⟩
 have bt:Below w5.heap.size w5 vt:=below_grB (belA w5 _) gt (Nat.le_refl _) (Nat.le_refl _)
 rw [← hTK] at XT ⊢
 have HTK:Hid (BxA vt TK 32 (tkL h p).toArray):=XT
 have HBt:Hid (Below W.heap.size W vt):=HB5.out.trans (bt.mono HB5.out.size)
 have HKt:=hideIt (HK5.out.up bt)
 have HLt:Hid (w5.heap.size=TK∧TK<vt.heap.size):=⟨hTK.symm,XT.lt⟩
 clear T0 XT gt zt bt hTK
 obtain ⟨bn,en⟩:∃ bn,p'.n.a=some ⟨bn,0,none⟩:=by
  rcases HK5.out.hw.ow.n.2 with ⟨hv,h0⟩ | ⟨g,cap,cur,hv,_⟩
  ·have:=HLen.out.2.2.2.2.2.2.1;omega
  ·simp [Sx.v] at hv;exact ⟨g,hv.1⟩
 obtain ⟨bl,el⟩:∃ bl,p'.l.a=some ⟨bl,0,none⟩:=by
  rcases HK5.out.hw.ow.l.own.2 with ⟨hv,h0⟩ | ⟨g,cap,cur,hv,_⟩
  ·have:=HLen.out.2.2.2.2.2.1;omega
  ·simp at hv;exact ⟨g,hv.1⟩
 have env:p'.n.v=.slice (some ⟨bn,0,none⟩) p'.n.n p'.n.c:=by unfold Sx.v;rw [en]
 have elv:p'.l.v=.slice (some ⟨bl,0,none⟩) p'.l.n p'.l.c:=by unfold Sx.v;rw [el]
 have hlow:p'.l.v.ownBlock=some bl:=by rw [elv];rfl
 have hnow:p'.n.v.ownBlock=some bn:=by rw [env];rfl
 have hlo:∀ (u:World) (h1:Hd),HX W.heap.size u G h1 p' R→u.ownsRow W.heap.size 24 1 p'.l.v p'.l.n (rhs R):=fun u h1 ku=>ku.hw.ow.l.own
 have Hbn:Hid (bn<TK∧bl<TK∧W.heap.size≤bn∧W.heap.size≤bl):=⟨by have:=(HK5.out.hw.ow.n.lt bn hnow).2;have:=HLt.out.1;omega,by have:=((hlo _ _ HK5.out).lt bl hlow).2;have:=HLt.out.1;omega,(HK5.out.hw.ow.n.lt bn hnow).1,((hlo _ _ HK5.out).lt bl hlow).1⟩
 have HEe:=hideIt (And.intro en (And.intro el (And.intro env (And.intro elv (And.intro hlow hnow)))))
 have lbn:bn<vt.heap.size:=by have h1:=Hbn.out.1;have h2:=HLt.out.2;omega
 have g4:vt.cell? ⟨G,4,none⟩=some (.slice (some ⟨bn,0,none⟩) p'.n.n p'.n.c):=by rw [← env];exact HKt.out.bx.cell 4 rfl
 have n0:vt.cell? ⟨w.heap.size+1,0,none⟩=some (.int .i64 num):=(HXs.out.2.1.up HBt.out).cell 0 rfl
 have q1:(0:Int)≤(j:Int):=by omega
 have q2:(j:Int)<(p'.n.n:Int):=by have:=HLen.out.2.2.2;have:=hjS;omega
 have q3:(j:Int)<(p'.l.n:Int):=by have:=HLen.out.2.2.2;have:=hjS;omega
 have w0:wrap64 (j:Int)=(j:Int):=by have:=HRv.out.inv.s;have:=hjS;unfold wrap64;omega
 have w1:IntKind.i64.wrap (j:Int)=(j:Int):=by have h1:=HRv.out.inv.s;have h2:=hjS;rw [IntKind.wrap_i64];omega
 obtain ⟨x0,hx0⟩:∃ x0,vt.cell? ⟨bn,j,none⟩=some x0:=by
  have k1:=HKt.out.hw.ow.n
  rw [env] at k1
  have l1:=k1.1
  exact ⟨_,by rw [k1.cellAt j (by omega)];exact List.getElem?_eq_getElem (by omega)⟩
 have f0:vt.frozen? ⟨bn,j,none⟩=false:=by
  have k1:=HKt.out.hw.ow.n
  rw [env] at k1
  exact k1.frozenAt j
 obtain ⟨w6,hw6⟩:=ex0 (vt.setCell ⟨bn,j,none⟩ (.int .i64 num))
 have HK6:Hid (HX W.heap.size w6 G (numH h j num) p' R):=by rw [hw6];exact HKt.out.setNum en j num
 have HB6:Hid (Below W.heap.size W w6):=by rw [hw6];exact Below.setCell HBt.out (p:=⟨bn,j,none⟩) Hbn.out.2.2.1 _
 have HT6:Hid (BxA w6 TK 32 (tkL h p).toArray):=by rw [hw6];exact HTK.out.setO _ (by have:=Hbn.out.1;omega)
 obtain ⟨aLd,eaL⟩:∃ ad,aL=some ad:=by
  rcases HI0.out.2 with h0 | ⟨b,off,e,_⟩
  ·omega
  ·exact ⟨_,e⟩
 subst eaL
 have HI6:Hid (Is w6 w6.heap.size (some aLd) nL ls):=HI0.out.up (HB.out.trans (HB6.out.mono HB.out.size))
 have HSb:Hid (∀ u:World,Below w6.heap.size w6 u→u.cell? ⟨G,3,none⟩=some (.slice (some ⟨bl,0,none⟩) p'.l.n p'.l.c)∧u.cell? ⟨w.heap.size+1,3,none⟩=some (.slice (some aLd) nL cL)):=fun u hu=>⟨by rw [← elv];exact (HK6.out.up hu).bx.cell 3 rfl,(HXs.out.2.1.up (HB6.out.trans (hu.mono HB6.out.size))).cell 3 rfl⟩
 have c6:Below w6.heap.size w6 w6:=Below.refl _ _
 have HF7f:Hid (∀ (u:World) (g cp:Nat),Below w6.heap.size w6 u→u.ownsRow w6.heap.size 3 1 (.slice (some ⟨g,0,none⟩) nL cp) nL (ic ls)→(∃ z,u.cell? ⟨bl,j,none⟩=some z)∧u.frozen? ⟨bl,j,none⟩=false∧bl<u.heap.size∧(fun u=>u.cell? ⟨G,3,none⟩=some (.slice (some ⟨bl,0,none⟩) p'.l.n p'.l.c)∧u.cell? ⟨w.heap.size+1,3,none⟩=some (.slice (some aLd) nL cL)) (u.setCell ⟨bl,j,none⟩ (.slice (some ⟨g,0,none⟩) nL cp))∧HX W.heap.size (u.setCell ⟨bl,j,none⟩ (.slice (some ⟨g,0,none⟩) nL cp)) G (setH h num ls) p' (R.set j ⟨g,cp,ls⟩)∧Below W.heap.size W (u.setCell ⟨bl,j,none⟩ (.slice (some ⟨g,0,none⟩) nL cp))∧BxA (u.setCell ⟨bl,j,none⟩ (.slice (some ⟨g,0,none⟩) nL cp)) TK 32 (tkL h p).toArray):=fun u g cp hu ho=>by
  obtain ⟨en,el,env,elv,hlow,hnow⟩:=HEe.out
  have ku:=HK6.out.up hu
  have k2:=hlo _ _ ku
  rw [elv] at k2
  have l2:=k2.1
  have l4:=HLen.out.2.2.2
  have hg:=(ho.lt g rfl).1
  have l5:=hjS
  have lb:=Hbn.out
  have k7:=ku.setLab el j (m:=nL) (g:=g) (cp:=cp) (ls:=ls) HI0.out.1.symm (own_mono ho HB6.out.size) (fun e=>by have:=(HK6.out.hw.ow.o.lt g e).2;omega) (fun e=>by have:=(HK6.out.hw.ow.n.lt g e).2;omega) (fun r hr e=>by have:=((HK6.out.hw.ow.l.ins r hr).1).lt;omega)
  have eH:labH (numH h j num) j ls=setH h num ls:=by rw [setH_eq,HLen.out.2.1]
  rw [eH] at k7
  have B7:Below W.heap.size W (u.setCell ⟨bl,j,none⟩ (.slice (some ⟨g,0,none⟩) nL cp)):=Below.setCell (HB6.out.trans (hu.mono HB6.out.size)) (p:=⟨bl,j,none⟩) lb.2.2.2 _
  exact ⟨⟨_,by rw [k2.cellAt j (by omega)];exact List.getElem?_eq_getElem (by omega)⟩,k2.frozenAt j,Nat.lt_of_lt_of_le ((hlo _ _ HK6.out).lt bl hlow).2 hu.size,⟨by rw [← elv];exact k7.bx.cell 3 rfl,(HXs.out.2.1.up B7).cell 3 rfl⟩,k7,B7,(HT6.out.up hu).setO _ (by omega)⟩
 clear HTK HKt HBt hlo HK5 HX5 HB5 en el env elv hlow hnow
 go_upto_region 6 with fail
 rw [← hw6]
 clear hw6 g4 n0 hx0 f0 lbn
 (
 refine wp_region_held_drew (S:=(fun u=>u.cell? ⟨G,3,none⟩=some (.slice (some ⟨bl,0,none⟩) p'.l.n p'.l.c)∧u.cell? ⟨w.heap.size+1,3,none⟩=some (.slice (some aLd) nL cL))) (by kernel_rfl) (HSb.out _ c6.drew) (fun hHeld=>?_)
 refine tq0 (i:=0) (v:=?_) rfl ?_ (by assumption) ?_
 rotate_left
 ·intro w hSw;obtain ⟨z3,zl⟩:=hSw;go_simp;try with_reducible rfl
 try simp only [Act.put,pU0]
 refine tq0 (i:=1) (v:=?_) rfl ?_ (by assumption) ?_
 rotate_left
 ·intro w hSw;obtain ⟨z3,zl⟩:=hSw;go_simp;try with_reducible rfl
 try simp only [Act.put,pU0]
 refine tq0 (i:=2) (v:=?_) rfl ?_ (by assumption) ?_
 rotate_left
 ·intro w hSw;obtain ⟨z3,zl⟩:=hSw;go_simp;try with_reducible rfl
 try simp only [Act.put,pU0]
 refine tq0 (i:=3) (v:=?_) rfl ?_ (by assumption) ?_
 rotate_left
 ·intro w hSw;obtain ⟨z3,zl⟩:=hSw;go_simp;try with_reducible rfl
 try simp only [Act.put,pU0]
 refine tq0 (i:=5) (v:=?_) rfl ?_ (by assumption) ?_
 rotate_left
 ·intro w hSw;obtain ⟨z3,zl⟩:=hSw;go_simp;try with_reducible rfl
 try simp only [Act.put,pU0]
 refine tq0 (i:=6) (v:=?_) rfl ?_ (by assumption) ?_
 rotate_left
 ·intro w hSw;obtain ⟨z3,zl⟩:=hSw;go_simp;try with_reducible rfl
 try simp only [Act.put,pU0]
 refine wr0 (i:=4) rfl (fun K hK=>?_)
 go_simp
 refine hK.out _ _ (HSb.out _ (c6.drew.alloc (by simp) _)) (fun hHeld=>?_)
 clear hK K
 try simp only [pU0]
 refine wr0 (i:=7) rfl (fun K hK=>?_)
 refine cpI20H (w0:=w6.drew) (.tmp 59) (.tmp 61) (by rfl) (by rfl) (by rfl) ls aLd nL cL (by rfl) (HI6.out.up c6.drew) (by omega) (by omega) ?_
 intro g cp w7 ho b7'
 have b7:Below w6.heap.size w6 w7:=c6.drew.trans b7'
 refine hK.out _ _ (HSb.out _ b7) (fun hHeld=>?_)
 clear hK K b7'
 try simp only [pU0]
 have HF7:=hideIt (HF7f.out w7 g cp b7 ho)
 obtain ⟨⟨z1,x1⟩,f1,lbl,s8,F8⟩:=HF7.out
 have HF8:=hideIt F8
 clear HF7 F8 b7 ho
 refine tq0 (i:=8) (v:=?_) rfl ?_ (by assumption) ?_
 rotate_left
 ·intro w hSw;obtain ⟨z3,zl⟩:=hSw;go_simp;try with_reducible rfl
 try simp only [Act.put,pU0]
 refine wr0 (i:=9) rfl (fun K hK=>?_)
 go_simp
 obtain ⟨w8,hw8⟩:=ex0 (w7.setCell ⟨bl,j,none⟩ (.slice (some ⟨g,0,none⟩) nL cp))
 rw [← hw8] at HF8 s8 ⊢
 refine hK.out _ _ s8 (fun hHeld=>?_)
 clear hK K x1 f1 lbl s8 hw8
 try simp only [pU0]
 refine wpAnyH_done (by kernel_rfl) ?_ _
 clear hHeld
 obtain ⟨K8,B8,T8⟩:=HF8.out
 have HK8:=hideIt K8
 have HB8:=hideIt B8
 have HT8:=hideIt T8
 have HN8:=hideIt (HXs.out.2.1.up B8)
 have t0:=T8.cell 0 rfl
 have t2:=T8.cell 2 rfl
 have t3:=T8.cell 3 rfl
 have n1:=HN8.out.cell 1 rfl
 have n2:w8.cell? ⟨w.heap.size+1,2,none⟩=some (.slice aE nE cE):=HN8.out.cell 2 rfl
 have l8:W.heap.size≤w8.heap.size:=B8.size
 have HE8:=hideIt (HE0.out.up (HB.out.trans (B8.mono HB.out.size)))
 clear HF8 K8 B8 HF7f HSb HI6 c6
 have hop3:=Ht.out.op
 have hp:=hideIt (rgB_parts Ht.out.rg)
 by_cases h4:h.o=4
 ·have t1:w8.cell? ⟨TK,1,none⟩=some (.int .i64 4):=by rw [← h4];exact HT8.out.cell 1 rfl
  by_cases h3:h.op=3
  ·have t6:w8.cell? ⟨TK,6,none⟩=some (.int .i64 3):=by rw [← h3];exact HT8.out.cell 6 rfl
   have e9:hdH (setH h num ls) ok es=mvH (setH h num ls) h.i h.a h.b es:=by unfold hdH;rw [if_pos (show (setH h num ls).o=4 from h4),if_pos (show (setH h num ls).op=3 from h3)];rfl
   obtain ⟨g2,hg2⟩:=ex0 (mvH (setH h num ls) h.i h.a h.b es)
   rw [e9,← hg2] at HHr HY
   have HY2:Hid (T=some g2.1):=HY.out
   have HMv:Hid (Calls Tryz.prog 55 #[.pointer (some ⟨G,0,none⟩),.agg #[.int .i64 h.i,.int .i64 4,.int .i64 h.a,.int .i64 h.b],.slice aE nE cE] w8 fun e v=>MvA W.heap.size w8 G g2.1 g2.2 e v):=by
    rw [hg2]
    exact sMoved_any (S:=S) h.i h.a h.b es aE nE cE w8 HK8.out HQ1.out l8 (by have:=hp.out;exact ⟨this.1,this.2.1⟩) (by have:=hp.out;omega) HNm.out (by have:=HSh.out;omega) Ha2.out HE8.out
   obtain ⟨cc,hcc⟩:=ex0 (g2.2)
   have HCc:Hid (cc=1∨cc=2):=by have:=HHr.out.2;rw [← hcc] at this;exact this
   have HIv:=hideIt HHr.out.1
   rw [← hcc] at HMv
   clear e9 hg2 HHr hcc HQ1 HNm HY h3 h4 hop3 n1
   go_upto_region 8 with fail
   clear t6
   go_wp2_with (go_at_call 55;refine HMv.out.mono ?_;rintro e w9 ⟨rfl,⟨p9,R9,hk⟩,b9⟩;refine Hid.out ?_)
   refine hidp20 ?_
   have HK9:=hideIt hk
   have B9:Below W.heap.size W w9:=HB8.out.trans b9
   have HB9':=hideIt B9
   have HCp2:=hideIt (l12Copy_inv w9 (hk.hw.re HIv.out))
   clear hk b9 B9 t0 t1 t2 t3 n2 HMv
   go_upto_region 9 with fail
   refine wp_region_lit ?_
   go_step
   refine wp_loadH HK9.out.bx rfl rfl ?_
   go_wp2_with (go_at_call 23;refine HCp2.out.mono ?_;rintro e wA ⟨pA,RA,rfl,hwA,bA⟩;refine Hid.out ?_)
   refine hidp20 ?_
   have BA:Below W.heap.size W wA:=HB9'.out.trans (bA.mono HB9'.out.size)
   have HW9:=hideIt (hwA.low HB9'.out.size)
   have HX9:Hid (BxA wA (w.heap.size+1+1) 35 (hC zeroH zeroP)):=HXs.out.2.2.up BA
   have HB9:=hideIt (HB.out.trans (BA.mono HB.out.size))
   clear hwA bA BA HCp2
   go_step
   go_step
   go_step
   go_step
   go_step
   refine wp_storeH HX9.out rfl rfl rfl ?_
   intro vz XZ gz zz
   have HXZ:=hideIt XZ
   have HBz:=hideIt (below_grB HB9.out gz (show w.heap.size≤w.heap.size+1+1 by omega) (Nat.le_refl _))
   have HWz:=hideIt ((HW9.out.grB gz (show w.heap.size+1+1<W.heap.size by have:=HL3.out;omega)).low HB.out.size)
   clear XZ gz zz
   go_wp2
   exact bodyPost_ret (results_H2 Tryz.results22 rfl rfl HXZ.out) rfl ⟨_,_,cc,rfl,HBz.out,by rw [HY2.out];exact ⟨HCc.out,rfl,_,HWz.out⟩⟩
  ·have t6:w8.cell? ⟨TK,6,none⟩=some (.int .i64 h.op):=HT8.out.cell 6 rfl
   have e3:(h.op == 3)=false:=by simpa using h3
   have e9:hdH (setH h num ls) ok es=(sayH (setH h num ls) h.i 4 h.a h.b 1,1):=by unfold hdH;rw [if_pos (show (setH h num ls).o=4 from h4),if_neg (show ¬ (setH h num ls).op=3 from h3)];rfl
   have HY2:Hid (T=some (sayH (setH h num ls) h.i 4 h.a h.b 1)):=by have:=HY.out;rw [e9] at this;exact this
   clear e9 h3 h4 hop3
   have HSy:=hideIt (sSay_any h.i 4 h.a h.b 1 w8 HK8.out l8 (by have:=HSh.out;omega))
   clear HHr HQ1 HNm HY
   go_upto_region 13 with fail
   go_wp2_with (go_at_call 50;refine HSy.out.mono ?_;rintro e w9 ⟨rfl,⟨g9,c9,hk⟩,b9⟩;refine Hid.out ?_)
   refine hidp20 ?_
   have HK9:=hideIt hk
   have HW9:=hideIt hk.hw
   have B9:Below W.heap.size W w9:=HB8.out.trans b9
   have HX9:Hid (BxA w9 (w.heap.size+1+1) 35 (hC zeroH zeroP)):=HXs.out.2.2.up B9
   have HB9:=hideIt (HB.out.trans (B9.mono HB.out.size))
   clear hk b9 B9 t0 t1 t2 t3 t6 n1 n2 HSy
   go_upto_region 14 with fail
   refine wp_region_lit ?_
   go_step
   refine wp_loadH HK9.out.bx rfl rfl ?_
   go_step
   go_step
   refine wp_storeH HX9.out rfl rfl rfl ?_
   intro vz XZ gz zz
   have HXZ:=hideIt XZ
   have HBz:=hideIt (below_grB HB9.out gz (show w.heap.size≤w.heap.size+1+1 by omega) (Nat.le_refl _))
   have HWz:=hideIt ((HW9.out.grB gz (show w.heap.size+1+1<W.heap.size by have:=HL3.out;omega)).low HB.out.size)
   clear XZ gz zz
   go_wp2
   exact bodyPost_ret (results_H2 Tryz.results22 rfl rfl HXZ.out) rfl ⟨_,_,1,rfl,HBz.out,by rw [HY2.out];exact ⟨.inl rfl,rfl,_,HWz.out⟩⟩
 ·have t1:w8.cell? ⟨TK,1,none⟩=some (.int .i64 h.o):=HT8.out.cell 1 rfl
  have t6:w8.cell? ⟨TK,6,none⟩=some (.int .i64 h.op):=HT8.out.cell 6 rfl
  have e4:(h.o == 4)=false:=by simpa using h4
  have e5:(h.o != 4)=true:=by simpa using h4
  have e9:hdH (setH h num ls) ok es=(sayH (setH h num ls) h.i h.o h.a h.b (if ok then 1 else 2),1):=by unfold hdH;exact if_neg h4
  cases ok with
  | true =>
   have HY2:Hid (T=some (sayH (setH h num ls) h.i h.o h.a h.b 1)):=by have:=HY.out;rw [e9] at this;exact this
   clear e9 h4 hop3
   have HSy:=hideIt (sSay_any h.i h.o h.a h.b 1 w8 HK8.out l8 (by have:=HSh.out;omega))
   clear HHr HQ1 HNm HY
   go_upto_region 13 with fail
   go_wp2_with (go_at_call 50;refine HSy.out.mono ?_;rintro e w9 ⟨rfl,⟨g9,c9,hk⟩,b9⟩;refine Hid.out ?_)
   refine hidp20 ?_
   have HK9:=hideIt hk
   have HW9:=hideIt hk.hw
   have B9:Below W.heap.size W w9:=HB8.out.trans b9
   have HX9:Hid (BxA w9 (w.heap.size+1+1) 35 (hC zeroH zeroP)):=HXs.out.2.2.up B9
   have HB9:=hideIt (HB.out.trans (B9.mono HB.out.size))
   clear hk b9 B9 t0 t1 t2 t3 t6 n1 n2 HSy
   go_upto_region 14 with fail
   refine wp_region_lit ?_
   go_step
   refine wp_loadH HK9.out.bx rfl rfl ?_
   go_step
   go_step
   refine wp_storeH HX9.out rfl rfl rfl ?_
   intro vz XZ gz zz
   have HXZ:=hideIt XZ
   have HBz:=hideIt (below_grB HB9.out gz (show w.heap.size≤w.heap.size+1+1 by omega) (Nat.le_refl _))
   have HWz:=hideIt ((HW9.out.grB gz (show w.heap.size+1+1<W.heap.size by have:=HL3.out;omega)).low HB.out.size)
   clear XZ gz zz
   go_wp2
   exact bodyPost_ret (results_H2 Tryz.results22 rfl rfl HXZ.out) rfl ⟨_,_,1,rfl,HBz.out,by rw [HY2.out];exact ⟨.inl rfl,rfl,_,HWz.out⟩⟩
  | false =>
   have HY2:Hid (T=some (sayH (setH h num ls) h.i h.o h.a h.b 2)):=by have:=HY.out;rw [e9] at this;exact this
   clear e9 h4 hop3
   have HSy:=hideIt (sSay_any h.i h.o h.a h.b 2 w8 HK8.out l8 (by have:=HSh.out;omega))
   clear HHr HQ1 HNm HY
   go_upto_region 13 with fail
   go_wp2_with (go_at_call 50;refine HSy.out.mono ?_;rintro e w9 ⟨rfl,⟨g9,c9,hk⟩,b9⟩;refine Hid.out ?_)
   refine hidp20 ?_
   have HK9:=hideIt hk
   have HW9:=hideIt hk.hw
   have B9:Below W.heap.size W w9:=HB8.out.trans b9
   have HX9:Hid (BxA w9 (w.heap.size+1+1) 35 (hC zeroH zeroP)):=HXs.out.2.2.up B9
   have HB9:=hideIt (HB.out.trans (B9.mono HB.out.size))
   clear hk b9 B9 t0 t1 t2 t3 t6 n1 n2 HSy
   go_upto_region 14 with fail
   refine wp_region_lit ?_
   go_step
   refine wp_loadH HK9.out.bx rfl rfl ?_
   go_step
   go_step
   refine wp_storeH HX9.out rfl rfl rfl ?_
   intro vz XZ gz zz
   have HXZ:=hideIt XZ
   have HBz:=hideIt (below_grB HB9.out gz (show w.heap.size≤w.heap.size+1+1 by omega) (Nat.le_refl _))
   have HWz:=hideIt ((HW9.out.grB gz (show w.heap.size+1+1<W.heap.size by have:=HL3.out;omega)).low HB.out.size)
   clear XZ gz zz
   go_wp2
   exact bodyPost_ret (results_H2 Tryz.results22 rfl rfl HXZ.out) rfl ⟨_,_,1,rfl,HBz.out,by rw [HY2.out];exact ⟨.inl rfl,rfl,_,HWz.out⟩⟩
 )
theorem sHear_inv {S:Nat} {h:Hd} {p:Hp} (sh num:Int) (ok:Bool) (es:List O.EdgeV) (ls:List Int) (aE:Option Addr) (nE cE:Nat) (aL:Option Addr) (nL cL:Nat) (w:World) (R0:HR S w h p) (hE:O.Es w w.heap.size aE nE es) (hI:Is w w.heap.size aL nL ls) (hz:aE=none→nE=0∧cE=0) (hzL:aL=none→nL=0∧cL=0) (hnE:nE≤1048576) (hnL:nL≤1048576) :
  Calls Tryz.prog 22 #[.agg (hC h p),.int .i64 sh,.agg #[.int .i64 num,.bool ok,.slice aE nE cE,.slice aL nL cL]] w fun e w'=>TkA w (hearR h sh ⟨num,ok,es,ls⟩) e w':=by
 cases hb:hearB h sh ⟨num,ok,es,ls⟩ with
 | false=>exact sHear_no sh num ok es ls aE nE cE aL nL cL w R0 hE hI hz hzL hnE hnL hb
 | true=>exact sHear_yes sh num ok es ls aE nE cE aL nL cL w R0 hE hI hz hzL hnE hnL hb
end Go.Proofs.YtnagchanokbgdaaGreat
