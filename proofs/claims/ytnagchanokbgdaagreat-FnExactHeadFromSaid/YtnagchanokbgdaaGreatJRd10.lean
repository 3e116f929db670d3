/- What hangs together as a whole: the program's unionOf. What hangs together as a whole: the program's WholeLabels, where it is true. Orders and answers as bytes, and how they are read: no program is named here. The specification's l05Put and AddEdge. Ascending edges: what comes, what goes, how many there may be. The program's reader of parts: a number, a byte. -/
import Derived.Test.YtnagchanokbgdaaGreatJUn11
import Derived.Test.YtnagchanokbgdaaGreatJShelf8
import Derived.Test.YtnagchanokbgdaaGreatJSGraph
import Derived.Test.YtnagchanokbgdaaGreatJArnd
import Derived.Deep.AppendLies
namespace Go.Proofs.YtnagchanokbgdaaGreat.O
open Go.RowKit Go.WideMaps Go.Maps
def Ts (w:World) (B:Nat) (a:Option Addr) (n:Nat) (ts:List (List Int)):Prop :=
 ts.length=n∧(n=0∨∃ b off,a=some ⟨b,off,none⟩∧b<B∧∀ (j:Nat) (t:List Int),ts[j]?=some t →
  ∃ (a':Option Addr) (c':Nat),w.cell? ⟨b,off+j,none⟩=some (.slice a' t.length c')∧Is w B a' t.length t∧t.length≤c')
theorem Ts.below {w w':World} {B C:Nat} {a:Option Addr} {n:Nat} {ts:List (List Int)} (h:Ts w B a n ts) (hb:Below C w w') (hB:B≤C):Ts w' B a n ts:=by
 refine ⟨h.1,h.2.imp id ?_⟩
 rintro ⟨b,off,ha,hbl,hc⟩
 refine ⟨b,off,ha,hbl,fun j t ht=>?_⟩
 obtain ⟨a',c',h1,h2,h3⟩:=hc j t ht
 exact ⟨a',c',by rw [hb.cell (p:=⟨b,_,none⟩) (by show b<C;omega)];exact h1,h2.below hb hB,h3⟩
theorem Ts.mono {w:World} {B C:Nat} {a:Option Addr} {n:Nat} {ts:List (List Int)} (h:Ts w B a n ts) (hB:B≤C):Ts w C a n ts:=by
 refine ⟨h.1,h.2.imp id ?_⟩
 rintro ⟨b,off,ha,hbl,hc⟩
 refine ⟨b,off,ha,by omega,fun j t ht=>?_⟩
 obtain ⟨a',c',h1,h2,h3⟩:=hc j t ht
 exact ⟨a',c',h1,h2.mono hB,h3⟩
theorem Ts.up {w w':World} {a:Option Addr} {n:Nat} {ts:List (List Int)} (h:Ts w w.heap.size a n ts) (hb:Below w.heap.size w w'):Ts w' w'.heap.size a n ts:=(h.below hb (Nat.le_refl _)).mono hb.size
def lE (ls:List Int) (k:Nat):List EdgeV:=(List.range k).flatMap fun (v:Nat)=>if atI ls (v:Int)<(v:Int) then [(atI ls (v:Int),(v:Int))] else []
theorem lE_succ (ls:List Int) (k:Nat):lE ls (k+1)=lE ls k ++ (if atI ls (k:Int)<(k:Int) then [(atI ls (k:Int),(k:Int))] else []):=by
 unfold lE
 rw [List.range_succ,List.flatMap_append]
 simp
def LOk (n:Nat) (ls:List Int):Prop:=ls.length=n∧∀ v:Nat,v<n→0≤atI ls (v:Int)∧atI ls (v:Int)≤(v:Int)
def uE (lss:List (List Int)) (n:Nat):List EdgeV:=lss.flatMap fun l=>lE l n
theorem uE_succ (lss:List (List Int)) (n k:Nat) (l:List Int) (h:lss[k]?=some l):uE (lss.take (k+1)) n=uE (lss.take k) n ++ lE l n:=by
 unfold uE
 rw [take_snocF lss k l h,List.flatMap_append]
 simp
theorem UT.more {w:World} {M k k' n:Nat} {P:Nat→Option Nat} (h:UT w M k n P) (hk:k≤k'):UT w M k' n P:=by
 obtain ⟨D,q,hq,ho,hc⟩:=h
 exact ⟨D,q,by omega,ho,hc⟩
theorem uf_step {es:List EdgeV} {n:Nat} {P:Nat→Option Nat} {R:Nat→Nat} (hU:Uf es n P R) {x y:Nat} (e:EdgeV) (he:0≤e.1∧e.1<e.2∧e.2<(n:Int)) (hxy:(x=e.1.toNat∧y=e.2.toNat)∨(x=e.2.toNat∧y=e.1.toNat)) {w':World} {M k:Nat}
  (h:(R x=R y∧UT w' M k n P)∨(R x<R y∧UT w' M k n (updP P (R y) (R x)))∨(R y<R x∧UT w' M k n (updP P (R x) (R y)))):∃ P' R',Uf (es ++ [e]) n P' R'∧UT w' M k n P':=by
 rcases h with ⟨h1,h2⟩ | ⟨h1,h2⟩ | ⟨h1,h2⟩
 ·refine ⟨P,R,hU.same_more ?_,h2⟩
  rcases hxy with ⟨rfl,rfl⟩ | ⟨rfl,rfl⟩
  ·exact h1
  ·exact h1.symm
 ·refine ⟨_,_,hU.join he h1 ?_,h2⟩
  rcases hxy with ⟨rfl,rfl⟩ | ⟨rfl,rfl⟩
  ·exact .inl ⟨rfl,rfl⟩
  ·exact .inr ⟨rfl,rfl⟩
 ·refine ⟨_,_,hU.join he h1 ?_,h2⟩
  rcases hxy with ⟨rfl,rfl⟩ | ⟨rfl,rfl⟩
  ·exact .inr ⟨rfl,rfl⟩
  ·exact .inl ⟨rfl,rfl⟩
structure US (w:World) (n k:Nat) (es:List EdgeV) (u:World):Prop where
 uf:∃ P R,Uf es n P R∧UT u (w.heap.size+1) k n P
 bel:Below w.heap.size w u
 c0:u.heap[w.heap.size]?=some (.cells #[.map none] 179 (0,0))
 c2:u.heap[w.heap.size+2]?=some (.cells #[.map (some (w.heap.size+1))] 179 (0,0))
theorem US.size {w:World} {n k:Nat} {es:List EdgeV} {u:World} (h:US w n k es u):w.heap.size+3≤u.heap.size:=by
 have:=(Array.getElem?_eq_some_iff.1 h.c2).1
 omega
theorem US.up {w:World} {n k:Nat} {es:List EdgeV} {u v:World} (h:US w n k es u) (hb:Below u.heap.size u v):US w n k es v:=by
 have hz:=h.size
 obtain ⟨P,R,h1,h2⟩:=h.uf
 exact ⟨⟨P,R,h1,h2.up hb⟩,h.bel.trans (hb.mono h.bel.size),by rw [hb.block _ (by omega)];exact h.c0,by rw [hb.block _ (by omega)];exact h.c2⟩
theorem US.more {w:World} {n k k':Nat} {es:List EdgeV} {u:World} (h:US w n k es u) (hk:k≤k'):US w n k' es u:=by
 obtain ⟨P,R,h1,h2⟩:=h.uf
 exact ⟨⟨P,R,h1,h2.more hk⟩,h.bel,h.c0,h.c2⟩
theorem US.cell {w:World} {n k:Nat} {es:List EdgeV} {u:World} (h:US w n k es u):u.cell? ⟨w.heap.size+1+1,0,none⟩=some (.map (some (w.heap.size+1))):=by
 rw [cell_of_row u _ 0 _ _ _ h.c2];rfl
theorem US.join {w:World} {n k:Nat} {es:List EdgeV} {u:World} (h:US w n k es u) (hn:n≤12) (hk:k≤100000000) (x y:Nat) (hx:x<n) (hy:y<n) (ds:List EdgeV)
  (hd:(x=y∧ds=[])∨∃ e:EdgeV,ds=[e]∧(0≤e.1∧e.1<e.2∧e.2<(n:Int))∧((x=e.1.toNat∧y=e.2.toNat)∨(x=e.2.toNat∧y=e.1.toNat))) :
  Calls Tryz.prog 161 #[.agg #[.map (some (w.heap.size+1))],.int .i64 (x:Int),.int .i64 (y:Int)] u fun e v=>e=.returned (.tuple #[])∧US w n (k+1) (es ++ ds) v:=by
 obtain ⟨P,R,h1,h2⟩:=h.uf
 have hz:=h.size
 refine (uJoin_any h1 hn _ k hk x y hx hy u h2).mono fun e v ⟨he,hg,hr⟩=>⟨he,?_,h.bel.grown hg h.bel.size (fun j hj=>by simp at hj;omega),?_,?_⟩
 ·rcases hd with ⟨rfl,rfl⟩ | ⟨e,rfl,h3,h4⟩
  ·rw [List.append_nil]
   rcases hr with ⟨_,h5⟩ | ⟨h5,_⟩ | ⟨h5,_⟩
   ·exact ⟨P,R,h1,h5⟩
   ·omega
   ·omega
  ·exact uf_step h1 e h3 h4 hr
 ·rw [hg.block _ (by omega) (by simp)];exact h.c0
 ·rw [hg.block _ (by omega) (by simp)];exact h.c2
set_option maxRecDepth 100000 in
set_option maxHeartbeats 8000000 in
theorem unionOf_any (n:Nat) (hn:n≤12) (lss:List (List Int)) (q:Nat) (hq:q≤3) (a:Option Addr) (c:Nat) (cuts:List EdgeV) (m:Nat) (hm:m≤1048576) (ac:Option Addr) (cc:Nat) (hl:∀ l ∈ lss,LOk n l) (hc:∀ e ∈ cuts,0≤e.1∧e.1<e.2∧e.2<(n:Int)) (w:World) (h:Ts w w.heap.size a q lss) (hE:Es w w.heap.size ac m cuts) :
  Calls Tryz.prog 156 #[.slice ac m cc,.slice a q c] w fun e w'=>∃ M k P R,e=.returned (.agg #[.map (some M)])∧Uf (uE lss n ++ cuts) n P R∧UT w' M k n P∧Below w.heap.size w w':=by
 obtain ⟨hlen,hrow⟩:=h
 obtain ⟨helen,herow⟩:=hE
 have HR:=hideIt hrow
 have HE:=hideIt herow
 have HL:=hideIt hl
 have HC:=hideIt hc
 clear hrow herow hl hc
 obtain ⟨W1,hW1⟩:∃ W1,W1=((w.alloc (.cells #[.map none] 179)).alloc (.map #[] 0)).alloc (.cells #[.map (some (w.heap.size+1))] 179):=⟨_,rfl⟩
 have S1:US w n 0 [] W1:=by
  rw [hW1]
  have b1:Below w.heap.size w (w.alloc (.cells #[.map none] 179)):=(Below.refl _ _).alloc (Nat.le_refl _) _
  have b2:Below w.heap.size w ((w.alloc (.cells #[.map none] 179)).alloc (.map #[] 0)):=b1.alloc (by simp) _
  have t1:=UT.start (w.alloc (.cells #[.map none] 179)) n
  rw [show (w.alloc (.cells #[.map none] 179)).heap.size=w.heap.size+1 by simp] at t1
  refine ⟨⟨_,_,Uf.start n,t1.up ((Below.refl _ _).alloc (Nat.le_refl _) _)⟩,b2.alloc (by simp;omega) _,?_,?_⟩
  ·rw [Below.heap_alloc _ _ _ (by simp;omega),Below.heap_alloc _ _ _ (by simp)]
   exact heap_alloc_new w _
  ·have:=heap_alloc_new ((w.alloc (.cells #[.map none] 179)).alloc (.map #[] 0)) (.cells #[.map (some (w.heap.size+1))] 179)
   simpa using this
 have hmk:∀ u:World,(Instr.makeMap 177 none).run Tryz.prog u=.ok (.map (some u.heap.size)) (u.alloc (.map #[] 0)):=fun _=>rfl
 go_enter Tryz.func156,Tryz.ntmps156
 go_upto_region 2 with fail
 rw [← hW1]
 clear hW1
 go_wp2
 go_loopw [16] (fun i wr=>∃ k:Nat,k≤q∧i=.int .i64 (k:Int)∧US w n (12*k) (uE (lss.take k) n) wr) (fun i _=>q - (intOf i).toNat)
 case atStart=>exact ⟨0,by omega,rfl,by simpa [uE] using S1⟩
 case round =>
  obtain ⟨k,hk,rfl,hS⟩:=hrel
  clear S1
  by_cases hlt:k<q
  ·rcases HR.out with hz | ⟨b,off,rfl,hbl,hc⟩
   ·omega
   ·obtain ⟨l,hf⟩:∃ l,lss[k]?=some l:=⟨lss[k]'(by omega),List.getElem?_eq_getElem (by omega)⟩
    obtain ⟨a',c',e0,hIs,_⟩:=hc k l hf
    obtain ⟨hl1,hl2⟩:=HL.out l (List.mem_of_getElem? hf)
    rw [hl1] at e0 hIs
    have b1:(0:Int)≤(k:Int):=by omega
    have b2:(k:Int)<(q:Int):=by omega
    have e1:wr.cell? ⟨b,off+k,none⟩=some (.slice a' n c'):=by rw [hS.bel.cell hbl];exact e0
    have HX:=hideIt (uE_succ lss n k l hf)
    obtain ⟨_,hirow⟩:=hIs
    have HI:=hideIt hirow
    have HL2:=hideIt hl2
    have HS:=hideIt hS
    clear hc hf e0 hirow hl2 hS
    go_wp2
    go_loopw [22] (fun i wq=>∃ v:Nat,v≤n∧i=.int .i64 (v:Int)∧US w n (12*k+v) (uE (lss.take k) n ++ lE l v) wq) (fun i _=>n - (intOf i).toNat)
    case atStart=>exact ⟨0,by omega,rfl,by simpa [lE] using HS.out⟩
    case round =>
     obtain ⟨v,hv,rfl,hS⟩:=hrel
     by_cases hlv:v<n
     ·rcases HI.out with hz | ⟨bi,offi,rfl,hbi,hci⟩
      ·omega
      ·have hx:l[v]?=some (atI l (v:Int)):=atI_some (by omega)
       have e2:=hci v _ hx
       have e3:wr.cell? ⟨bi,offi+v,none⟩=some (.int .i64 (atI l (v:Int))):=by rw [hS.bel.cell hbi];exact e2
       obtain ⟨g1,g2⟩:=HL2.out v hlv
       have b3:(0:Int)≤(v:Int):=by omega
       have b4:(v:Int)<(n:Int):=by omega
       have HX2:=hideIt (lE_succ l v)
       obtain ⟨y,hy⟩:∃ y:Nat,atI l (v:Int)=(y:Int):=⟨(atI l (v:Int)).toNat,by omega⟩
       rw [hy] at e3 HX2 g2
       have k5:=hS.cell
       have HJ:=hideIt (hS.join hn (by omega) v y (by omega) (by omega) (if (y:Int)<(v:Int) then [((y:Int),(v:Int))] else []) (by
        by_cases h:(y:Int)<(v:Int)
        ·rw [if_pos h];exact .inr ⟨_,rfl,⟨by show (0:Int)≤(y:Int);omega,h,b4⟩,.inr ⟨by show v=(v:Int).toNat;omega,by show y=(y:Int).toNat;omega⟩⟩
        ·rw [if_neg h];exact .inl ⟨by omega,rfl⟩))
       clear hci hx e2 hy g1 hS
       go_wp2_with (go_at_call 161;refine HJ.out.mono ?_;rintro e w2 ⟨rfl,S2⟩)
       refine ⟨⟨v+1,by omega,by go_num,?_⟩,by simp [intOf];omega⟩
       rw [HX2.out,← List.append_assoc,show 12*k+(v+1)=12*k+v+1 by omega]
       exact S2
     ·obtain rfl:v=n:=by omega
      have S2:US w v (12*(k+1)) (uE (lss.take (k+1)) v) wr:=by rw [HX.out];exact hS.more (by omega)
      clear hS
      go_wp2
      exact ⟨⟨k+1,by omega,by go_num,S2⟩,by simp [intOf];omega⟩
  ·obtain rfl:k=q:=by omega
   rw [List.take_of_length_le (by omega)] at hS
   have HS:=hideIt hS
   clear hS
   go_wp2
   go_loopw [35] (fun i wq=>∃ p:Nat,p≤m∧i=.int .i64 (p:Int)∧US w n (12*k+p) (uE lss n ++ cuts.take p) wq) (fun i _=>m - (intOf i).toNat)
   case atStart=>exact ⟨0,by omega,rfl,by simpa using HS.out⟩
   case round =>
    obtain ⟨p,hp,rfl,hS⟩:=hrel
    by_cases hlp:p<m
    ·rcases HE.out with hz | ⟨b,off,rfl,hbl,hc⟩
     ·omega
     ·obtain ⟨f,hf⟩:∃ f,cuts[p]?=some f:=⟨cuts[p]'(by omega),List.getElem?_eq_getElem (by omega)⟩
      obtain ⟨c0,c1⟩:=hc p f hf
      have hfi:=HC.out f (List.mem_of_getElem? hf)
      have b1:(0:Int)≤(p:Int):=by omega
      have b2:(p:Int)<(m:Int):=by omega
      have e0:wr.cell? ⟨b,off+p*2,none⟩=some (.int .i64 f.1):=by rw [hS.bel.cell hbl];exact c0
      have e1:wr.cell? ⟨b,off+p*2+1,none⟩=some (.int .i64 f.2):=by rw [hS.bel.cell hbl];exact c1
      have HT:=hideIt (take_snocF cuts p f hf)
      obtain ⟨fa,fb⟩:=f
      dsimp only at *
      obtain ⟨x,rfl⟩:∃ x:Nat,fa=(x:Int):=⟨fa.toNat,by omega⟩
      obtain ⟨y,rfl⟩:∃ y:Nat,fb=(y:Int):=⟨fb.toNat,by omega⟩
      have S2:=hS.up ((Below.refl _ _).alloc (Nat.le_refl _) (.cells #[.int .i64 (x:Int),.int .i64 (y:Int)] 107))
      have k5:=hS.cell
      have z5:=hS.size
      have z6:w.heap.size+1+1<wr.heap.size:=by omega
      have z7:¬ w.heap.size+1+1=wr.heap.size:=by omega
      have HJ:=hideIt (S2.join hn (by omega) x y (by omega) (by omega) [((x:Int),(y:Int))] (.inr ⟨_,rfl,hfi,.inl ⟨by show x=(x:Int).toNat;omega,by show y=(y:Int).toNat;omega⟩⟩))
      clear hc hf c0 c1 hS S2 hfi
      go_wp2_with (go_at_call 161;refine HJ.out.mono ?_;rintro e w2 ⟨rfl,S3⟩)
      refine ⟨⟨p+1,by omega,by go_num,?_⟩,by simp [intOf];omega⟩
      rw [HT.out,← List.append_assoc,show 12*k+(p+1)=12*k+p+1 by omega]
      exact S3
    ·rw [List.take_of_length_le (by omega)] at hS
     obtain ⟨P,R,h1,h2⟩:=hS.uf
     have k5:=hS.cell
     have z5:=hS.size
     have k6:wr.cell? ⟨w.heap.size,0,none⟩=some (.map none):=by rw [cell_of_row wr _ 0 _ _ _ hS.c0];rfl
     have k7:wr.frozen? ⟨w.heap.size,0,none⟩=false:=frozen_of_row wr _ 0 _ _ hS.c0
     have HF:Hid (UT (wr.setCell ⟨w.heap.size,0,none⟩ (.map (some (w.heap.size+1)))) (w.heap.size+1) (12*k+p) n P∧Below w.heap.size w (wr.setCell ⟨w.heap.size,0,none⟩ (.map (some (w.heap.size+1))))) :=
      ⟨h2.kept (grownSet wr _ 0 _) (by simp),hS.bel.setCell (p:=⟨w.heap.size,0,none⟩) (Nat.le_refl _) _⟩
     have H1:=hideIt h1
     clear hS h1 h2
     go_wp2
     exact bodyPost_ret (v:=.agg #[.map (some (w.heap.size+1))]) (by simp [results,Tryz.results156,go_sem,k6]) rfl ⟨_,_,P,R,rfl,H1.out,HF.out.1,HF.out.2⟩
set_option maxRecDepth 100000 in
set_option maxHeartbeats 4000000 in
theorem listsOk_yes (n:Nat) (hn:n≤12) (lss:List (List Int)) (q:Nat) (hq:q≤3) (a:Option Addr) (c:Nat) (hl:∀ l ∈ lss,LOk n l) (w:World) (h:Ts w w.heap.size a q lss) :
  Calls Tryz.prog 154 #[.int .i64 (n:Int),.slice a q c] w fun e w'=>e=.returned (.bool true)∧w'=w:=by
 obtain ⟨hlen,hrow⟩:=h
 have HR:=hideIt hrow
 have HL:=hideIt hl
 clear hrow hl
 go_enter Tryz.func154,Tryz.ntmps154
 go_wp2
 go_loopw [11] (fun i wr=>∃ k:Nat,k≤q∧i=.int .i64 (k:Int)∧wr=w) (fun i _=>q - (intOf i).toNat)
 case atStart=>exact ⟨0,by omega,rfl,rfl⟩
 case round =>
  obtain ⟨k,hk,rfl,hw⟩:=hrel
  have hw':=hw.symm
  subst hw'
  clear hw
  by_cases hlt:k<q
  ·rcases HR.out with hz | ⟨b,off,rfl,hbl,hc⟩
   ·omega
   ·obtain ⟨l,hf⟩:∃ l,lss[k]?=some l:=⟨lss[k]'(by omega),List.getElem?_eq_getElem (by omega)⟩
    obtain ⟨a',c',e0,hIs,_⟩:=hc k l hf
    obtain ⟨hl1,hl2⟩:=HL.out l (List.mem_of_getElem? hf)
    rw [hl1] at e0 hIs
    have b1:(0:Int)≤(k:Int):=by omega
    have b2:(k:Int)<(q:Int):=by omega
    have d0:((n:Int) != (n:Int))=false:=by simp
    obtain ⟨_,hirow⟩:=hIs
    have HI:=hideIt hirow
    have HL2:=hideIt hl2
    clear hc hf hirow hl2
    go_wp2
    go_loopw [21] (fun i wq=>∃ v:Nat,v≤n∧i=.int .i64 (v:Int)∧wq=w) (fun i _=>n - (intOf i).toNat)
    case atStart=>exact ⟨0,by omega,rfl,rfl⟩
    case round =>
     obtain ⟨v,hv,rfl,hw⟩:=hrel
     have hw':=hw.symm
     subst hw'
     clear hw
     by_cases hlv:v<n
     ·rcases HI.out with hz | ⟨bi,offi,rfl,hbi,hci⟩
      ·omega
      ·have hx:l[v]?=some (atI l (v:Int)):=atI_some (by omega)
       have e2:=hci v _ hx
       obtain ⟨g1,g2⟩:=HL2.out v hlv
       have b3:(0:Int)≤(v:Int):=by omega
       have b4:(v:Int)<(n:Int):=by omega
       generalize atI l (v:Int)=y at *
       have d1:decide (y<0)=false:=decide_eq_false (by omega)
       have d2:decide ((v:Int)<y)=false:=decide_eq_false (by omega)
       clear hci hx
       go_wp2
       exact ⟨⟨v+1,by omega,by go_num,by first | trivial | rfl⟩,by simp [intOf];omega⟩
     ·go_wp2
      exact ⟨⟨k+1,by omega,by go_num,by first | trivial | rfl⟩,by simp [intOf];omega⟩
  ·go_wp2
   go_ret
   exact ⟨rfl,rfl⟩
set_option maxRecDepth 100000 in
set_option maxHeartbeats 4000000 in
theorem cutsOk_yes (n:Nat) (cuts:List EdgeV) (m:Nat) (hm:m≤1048576) (ac:Option Addr) (cc:Nat) (hc:∀ e ∈ cuts,eB (n:Int) e=true) (w:World) (hE:Es w w.heap.size ac m cuts) :
  Calls Tryz.prog 155 #[.int .i64 (n:Int),.slice ac m cc] w fun e w'=>e=.returned (.bool true)∧Below w.heap.size w w':=by
 obtain ⟨helen,herow⟩:=hE
 have HE:=hideIt herow
 have HC:=hideIt hc
 have HO:=hideIt (iEdgeOk_any (n:Int))
 clear herow hc
 go_enter Tryz.func155,Tryz.ntmps155
 go_wp2
 go_loopw [9] (fun i wq=>∃ p:Nat,p≤m∧i=.int .i64 (p:Int)∧Below w.heap.size w wq) (fun i _=>m - (intOf i).toNat)
 case atStart=>exact ⟨0,by omega,rfl,Below.refl _ _⟩
 case round =>
  obtain ⟨p,hp,rfl,hb⟩:=hrel
  by_cases hlp:p<m
  ·rcases HE.out with hz | ⟨b,off,rfl,hbl,hc⟩
   ·omega
   ·obtain ⟨f,hf⟩:∃ f,cuts[p]?=some f:=⟨cuts[p]'(by omega),List.getElem?_eq_getElem (by omega)⟩
    obtain ⟨c0,c1⟩:=hc p f hf
    have b1:(0:Int)≤(p:Int):=by omega
    have b2:(p:Int)<(m:Int):=by omega
    have e0:wr.cell? ⟨b,off+p*2,none⟩=some (.int .i64 f.1):=by rw [hb.cell hbl];exact c0
    have e1:wr.cell? ⟨b,off+p*2+1,none⟩=some (.int .i64 f.2):=by rw [hb.cell hbl];exact c1
    have hb2:Below w.heap.size w (wr.alloc (.cells #[.int .i64 f.1,.int .i64 f.2] 107)):=hb.alloc hb.size _
    have H1:=hideIt (HO.out f (wr.alloc (.cells #[.int .i64 f.1,.int .i64 f.2] 107)))
    rw [HC.out f (List.mem_of_getElem? hf)] at H1
    clear hc hf c0 c1
    go_wp2_with (go_at_call 121;refine H1.out.mono ?_;rintro e w2 ⟨rfl,b9⟩)
    exact ⟨⟨p+1,by omega,by go_num,hb2.trans (b9.mono hb2.size)⟩,by simp [intOf];omega⟩
  ·go_wp2
   go_ret
   exact ⟨rfl,hb⟩
def UB (w:World) (b:Nat):Prop:=w.heap[b]?=some (.cells #[.map none] 179 (0,0))
theorem UB.cell {w:World} {b:Nat} (h:UB w b):w.cell? ⟨b,0,none⟩=some (.map none):=by rw [cell_of_row w b 0 _ _ _ h];rfl
theorem UB.frozen {w:World} {b:Nat} (h:UB w b):w.frozen? ⟨b,0,none⟩=false:=frozen_of_row w b 0 _ _ h
theorem UB.lt {w:World} {b:Nat} (h:UB w b):b<w.heap.size:=(Array.getElem?_eq_some_iff.1 h).1
theorem UB.up {w w':World} {b:Nat} (h:UB w b) (hb:Below w.heap.size w w'):UB w' b:=by unfold UB;rw [hb.block b (Array.getElem?_eq_some_iff.1 h).1];exact h
theorem ub1 {w2 w3:World} (h:Below (w2.drew.alloc (.cells #[.map none] 179)).heap.size (w2.drew.alloc (.cells #[.map none] 179)) w3):UB w3 w2.heap.size:=UB.up (heap_alloc_new w2.drew _) h
theorem ub2 {w2 w3:World} {o:Obj} (h:Below ((w2.drew.alloc (.cells #[.map none] 179)).alloc o).heap.size ((w2.drew.alloc (.cells #[.map none] 179)).alloc o) w3):UB w3 w2.heap.size :=
 UB.up (UB.up (w:=w2.drew.alloc (.cells #[.map none] 179)) (heap_alloc_new w2.drew _) ((Below.refl _ _).alloc (Nat.le_refl _) _)) h
theorem ub3 {w2 w3:World} {o:Obj} (h:Below ((w2.drew.alloc o).alloc (.cells #[.map none] 179)).heap.size ((w2.drew.alloc o).alloc (.cells #[.map none] 179)) w3):UB w3 (w2.heap.size+1):=by
 have h0:=heap_alloc_new (w2.drew.alloc o) (.cells #[.map none] 179)
 rw [show (w2.drew.alloc o).heap.size=w2.heap.size+1 by simp] at h0
 exact UB.up h0 h
theorem UT.ne {w:World} {M k n b:Nat} {P:Nat→Option Nat} (h:UT w M k n P) (hb:UB w b):M≠b:=by
 obtain ⟨D,q,hq,⟨es,clock,hm,_⟩,hc⟩:=h
 intro e
 subst e
 unfold UB at hb
 rw [hb] at hm
 simp at hm
structure Fin3 (w2 wx:World) (n b g M k:Nat) (P:Nat→Option Nat):Prop where
 good:Good w2 wx
 box:wx.heap[b]?=some (.cells #[.map (some M)] 179 (0,0))
 low:w2.heap.size≤b
 ut:UT wx M k n P
 own:∃ xs,wx.ownsRow w2.heap.size 3 1 (.slice (some ⟨g,0,none⟩) n n) n xs
 ne:b≠g
section
variable {w2 w3:World} {n M k:Nat} {P:Nat→Option Nat}
theorem mk_own (w:World) (n:Nat) (hn:n≤12):∃ xs,(w.alloc (.cells (madeCells #[.int .i64 0] n) 3)).ownsRow w.heap.size 3 1 (.slice (some ⟨w.heap.size,0,none⟩) n n) n xs :=
 ⟨_,World.ownsRow_lit (base:=w.heap.size) (e:=3) (size:=1) w (madeCells #[.int .i64 0] n) n (Nat.le_refl _) (by unfold maxLen;omega) (by simp [madeCells])⟩
theorem bel1a (w:World) (o:Obj):Below w.heap.size w (w.alloc o):=(Below.refl _ _).alloc (Nat.le_refl _) _
theorem fin_set {b g:Nat} (hg:Good w2 w3) (hu:UT w3 M k n P) (hb:UB w3 b) (hl:w2.heap.size≤b) (ho:∃ xs,w3.ownsRow w2.heap.size 3 1 (.slice (some ⟨g,0,none⟩) n n) n xs) (hne:b≠g):Fin3 w2 (w3.setCell ⟨b,0,none⟩ (.map (some M))) n b g M k P:=by
 obtain ⟨xs,ho⟩:=ho
 refine ⟨hg.set b 0 _ hl,?_,hl,hu.kept (grownSet w3 b 0 _) (by simp;exact hu.ne hb),⟨xs,own_setOther ho b 0 _ (fun e=>hne e.symm)⟩,hne⟩
 rw [heap_setCell_same w3 b 0 _ 179 _ hb];rfl
theorem finA (hn:n≤12) (hg:Good w2 w3) (hu:UT w3 M k n P):Fin3 w2 ((w3.alloc (.cells (madeCells #[.int .i64 0] n) 3)).alloc (.cells #[.map (some M)] 179)) n (w3.heap.size+1) w3.heap.size M k P:=by
 obtain ⟨xs,ho⟩:=mk_own w3 n hn
 have hz:=hg.size
 refine ⟨(hg.alloc _).alloc _,?_,by omega,(hu.up (bel1a _ _)).up (bel1a _ _),⟨xs,own_mono (own_up ho (bel1a _ _)) hz⟩,by omega⟩
 have:=heap_alloc_new (w3.alloc (.cells (madeCells #[.int .i64 0] n) 3)) (.cells #[.map (some M)] 179)
 simpa using this
theorem finB (hn:n≤12) (hg:Good w2 w3) (hu:UT w3 M k n P):Fin3 w2 ((w3.alloc (.cells #[.map (some M)] 179)).alloc (.cells (madeCells #[.int .i64 0] n) 3)) n w3.heap.size (w3.heap.size+1) M k P:=by
 obtain ⟨xs,ho⟩:=mk_own (w3.alloc (.cells #[.map (some M)] 179)) n hn
 have hz:=hg.size
 have e:(w3.alloc (.cells #[.map (some M)] 179)).heap.size=w3.heap.size+1:=by simp
 rw [e] at ho
 refine ⟨(hg.alloc _).alloc _,?_,by omega,(hu.up (bel1a _ _)).up (bel1a _ _),⟨xs,own_mono ho (by omega)⟩,by omega⟩
 rw [Below.heap_alloc _ _ _ (by simp)]
 exact heap_alloc_new w3 _
theorem gd {o:Obj} (h:Below (w2.drew.alloc o).heap.size (w2.drew.alloc o) w3):Good w2 w3:=Good.up ((Good.refl w2).drew.alloc o) h
theorem gd2 {o o':Obj} (h:Below ((w2.drew.alloc o).alloc o').heap.size ((w2.drew.alloc o).alloc o') w3):Good w2 w3:=Good.up (((Good.refl w2).drew.alloc o).alloc o') h
theorem finC (hn:n≤12) (h:Below (w2.drew.alloc (.cells (madeCells #[.int .i64 0] n) 3)).heap.size (w2.drew.alloc (.cells (madeCells #[.int .i64 0] n) 3)) w3) (hu:UT w3 M k n P):Fin3 w2 (w3.alloc (.cells #[.map (some M)] 179)) n w3.heap.size w2.heap.size M k P:=by
 obtain ⟨xs,ho⟩:=mk_own w2.drew n hn
 have hz:w2.heap.size+1≤w3.heap.size:=by have:=h.size;simpa using this
 exact ⟨(gd h).alloc _,heap_alloc_new w3 _,by omega,hu.up (bel1a _ _),⟨xs,own_up (own_up ho h) (bel1a _ _)⟩,by omega⟩
theorem finD (hn:n≤12) (h:Below ((w2.drew.alloc (.cells (madeCells #[.int .i64 0] n) 3)).alloc (.cells #[.map none] 179)).heap.size ((w2.drew.alloc (.cells (madeCells #[.int .i64 0] n) 3)).alloc (.cells #[.map none] 179)) w3) (hu:UT w3 M k n P):Fin3 w2 (w3.setCell ⟨w2.heap.size+1,0,none⟩ (.map (some M))) n (w2.heap.size+1) w2.heap.size M k P:=by
 obtain ⟨xs,ho⟩:=mk_own w2.drew n hn
 exact fin_set (gd2 h) hu (ub3 h) (by omega) ⟨xs,own_up (own_up ho (bel1a _ _)) h⟩ (by omega)
theorem finF (hn:n≤12) (h:Below ((w2.drew.alloc (.cells #[.map none] 179)).alloc (.cells (madeCells #[.int .i64 0] n) 3)).heap.size ((w2.drew.alloc (.cells #[.map none] 179)).alloc (.cells (madeCells #[.int .i64 0] n) 3)) w3) (hu:UT w3 M k n P):Fin3 w2 (w3.setCell ⟨w2.heap.size,0,none⟩ (.map (some M))) n w2.heap.size (w2.heap.size+1) M k P:=by
 obtain ⟨xs,ho⟩:=mk_own (w2.drew.alloc (.cells #[.map none] 179)) n hn
 have e:(w2.drew.alloc (.cells #[.map none] 179)).heap.size=w2.heap.size+1:=by simp
 rw [e] at ho
 exact fin_set (gd2 h) hu (ub2 h) (by omega) ⟨xs,own_mono (own_up ho h) (by omega)⟩ (by omega)
theorem finE (hn:n≤12) (h:Below (w2.drew.alloc (.cells #[.map none] 179)).heap.size (w2.drew.alloc (.cells #[.map none] 179)) w3) (hu:UT w3 M k n P):Fin3 w2 ((w3.setCell ⟨w2.heap.size,0,none⟩ (.map (some M))).alloc (.cells (madeCells #[.int .i64 0] n) 3)) n w2.heap.size w3.heap.size M k P:=by
 have hz:w2.heap.size+1≤w3.heap.size:=by have:=h.size;simpa using this
 have hu1:=hu.kept (grownSet w3 w2.heap.size 0 (.map (some M))) (by simp;exact hu.ne (ub1 h))
 obtain ⟨xs,ho⟩:=mk_own (w3.setCell ⟨w2.heap.size,0,none⟩ (.map (some M))) n hn
 have e:(w3.setCell ⟨w2.heap.size,0,none⟩ (.map (some M))).heap.size=w3.heap.size:=by simp [World.setCell]
 rw [e] at ho
 refine ⟨((gd h).set w2.heap.size 0 _ (Nat.le_refl _)).alloc _,?_,Nat.le_refl _,hu1.up (bel1a _ _),⟨xs,own_mono ho (by omega)⟩,by omega⟩
 rw [Below.heap_alloc _ _ _ (by rw [e];omega),heap_setCell_same w3 w2.heap.size 0 _ 179 _ (ub1 h)];rfl
end
set_option maxRecDepth 100000 in
set_option maxHeartbeats 8000000 in
theorem iWholeLabels_yes (n:Nat) (hn1:1≤n) (hn:n≤12) (lss:List (List Int)) (q:Nat) (hq:q≤3) (a:Option Addr) (c:Nat) (cuts:List EdgeV) (m:Nat) (hm:m≤1048576) (ac:Option Addr) (cc:Nat) (hl:∀ l ∈ lss,LOk n l) (hc:∀ e ∈ cuts,eB (n:Int) e=true) (w:World) (h:Ts w w.heap.size a q lss) (hE:Es w w.heap.size ac m cuts) :
  Calls Tryz.prog 137 #[.int .i64 (n:Int),.slice a q c,.slice ac m cc] w fun e w'=>∃ a' c',e=.returned (.tuple #[.slice a' n c',.bool true])∧w'.ownsRow w.heap.size 3 1 (.slice a' n c') n (ic (labs (uE lss n ++ cuts) n n))∧Below w.heap.size w w':=by
 obtain ⟨i0,hi,hz0,hz1,hz2⟩:=info_parts info3i
 have hmk:∀ u:World,(Instr.makeSlice 24 (.int .i64 (n:Int)) (.int .i64 (n:Int))).run Tryz.prog u =
   .ok (.slice (some ⟨u.heap.size,0,none⟩) n n) (u.alloc (.cells (madeCells #[.int .i64 0] n) 3)):=fun u=>by
  have h:=run_make (P:=Tryz.prog) u 24 3 i0 _ Tryz.underlying24 hi hz0 .i64 .i64 (n:Int) (n:Int) (by omega) (by omega) (by rw [hz2];omega) (by omega)
  rw [Int.toNat_natCast] at h
  simpa [hz1,Value.cells] using h
 have hci:∀ e ∈ cuts,0≤e.1∧e.1<e.2∧e.2<(n:Int):=fun e he=>by have:=(eB_iff (n:Int) e).1 (hc e he);omega
 have hEI:EsIn (uE lss n ++ cuts) n:=by
  intro e he
  rcases List.mem_append.1 he with h1 | h1
  ·unfold uE at h1
   obtain ⟨l,hl1,h2⟩:=List.mem_flatMap.1 h1
   unfold lE at h2
   obtain ⟨v,hv,h3⟩:=List.mem_flatMap.1 h2
   rw [List.mem_range] at hv
   have h4:=(hl l hl1).2 v hv
   by_cases h5:atI l (v:Int)<(v:Int)
   ·rw [if_pos h5] at h3
    simp at h3
    subst h3
    exact ⟨h4.1,h5,by show (v:Int)<(n:Int);omega⟩
   ·rw [if_neg h5] at h3
    simp at h3
  ·exact hci e h1
 have dv:decide (1≤(n:Int)∧(n:Int)≤12)=true:=decide_eq_true (by omega)
 have HV:=hideIt (vertsOk_any (n:Int) w)
 rw [dv] at HV
 have dq:decide ((3:Int)<(q:Int))=false:=decide_eq_false (by omega)
 have H1:=hideIt (listsOk_yes n hn lss q hq a c hl w h)
 have H2:=hideIt (cutsOk_yes n cuts m hm ac cc hc w hE)
 have HUn:=hideIt (fun u (hu:Below w.heap.size w u)=>unionOf_any n hn lss q hq a c cuts m hm ac cc hl hci u (h.up hu) (hE.up hu))
 have HEI:=hideIt hEI
 clear hci hEI hl hc h hE
 go_enter Tryz.func137,Tryz.ntmps137
 go_wp2_with (first | (go_at_call 60;refine HV.out.mono ?_;rintro e w0 ⟨rfl,hw⟩;have hw':=hw.symm;subst hw';clear hw HV) | (go_at_call 154;refine H1.out.mono ?_;rintro e w0 ⟨rfl,hw⟩;have hw':=hw.symm;subst hw';clear hw H1) | (go_at_call 155;refine H2.out.mono ?_;rintro e w2 ⟨rfl,b2⟩;clear H2;refine Hid.out ?_))
 refine (show ∀ {p:Prop},p→Hid p from fun h=>h) ?_
 have HU2:=hideIt (fun u (hu:Good w2 u)=>HUn.out u (b2.trans (Below.mono hu b2.size)))
 clear HUn
 go_upto_region 3 with fail
 go_cut [8,9] (fun p sl wx=>∃ b g M k P R,p=.pointer (some ⟨b,0,none⟩)∧sl=.slice (some ⟨g,0,none⟩) n n∧Hid (Uf (uE lss n ++ cuts) n P R)∧Fin3 w2 wx n b g M k P)
 case first =>
  have hG0:=(Good.refl w2).drew
  go_region_held3 (fun _=>True)
   (trivial)
   ((go_at_call 156;refine (HU2.out _ (by first | exact hG0 | exact Good.alloc hG0 _ | exact Good.alloc (Good.alloc hG0 _) _)).mono ?_;rintro e w3 ⟨M,k,P,R,rfl,hUf,hUT,b3⟩;(first | have bx:=ub3 b3 | have bx:=ub2 b3 | have bx:=ub1 b3 | skip);try (have bc0:=bx.cell;have bc1:=bx.frozen;have bc2:=bx.lt)))
  all_goals
   go_wp2_with fail
   go_meet
   first
   | exact ⟨_,_,M,k,P,R,rfl,rfl,hUf,finA hn (Good.up hG0 b3) hUT⟩
   | exact ⟨_,_,M,k,P,R,rfl,rfl,hUf,finB hn (Good.up hG0 b3) hUT⟩
   | exact ⟨_,_,M,k,P,R,rfl,rfl,hUf,finC hn b3 hUT⟩
   | exact ⟨_,_,M,k,P,R,rfl,rfl,hUf,finD hn b3 hUT⟩
   | exact ⟨_,_,M,k,P,R,rfl,rfl,hUf,finE hn b3 hUT⟩
   | exact ⟨_,_,M,k,P,R,rfl,rfl,hUf,finF hn b3 hUT⟩
 case rest =>
  obtain ⟨b,g,M,k,P,R,rfl,rfl,hUf,F3⟩:=hcut
  have HLab:=hideIt (lab_same HEI.out hUf.out)
  obtain ⟨xs0,ho0⟩:=F3.own
  have hbg:=F3.ne
  have G3:=F3.good
  have HUT:=hideIt F3.ut
  have Hbx:=hideIt F3.box
  have hMg:M≠g:=by
   obtain ⟨D,q,hq,⟨es,clock,hm,_⟩,hc⟩:=F3.ut
   intro e
   subst e
   rcases ho0.2 with ⟨h3,_⟩ | ⟨g,cap,cur,hv,hg,hcur,hrest⟩
   ·simp at h3
   ·simp at hv
    obtain ⟨rfl,rfl⟩:=hv
    rw [hcur] at hm
    simp at hm
  clear F3 HEI HU2
  go_wp2
  go_loopw [38] (fun i wr=>∃ (v:Nat) (xs:List Value),v≤n∧i=.int .i64 (v:Int)∧Hid (xs.take v=ic (labR R v))∧wr.ownsRow w2.heap.size 3 1 (.slice (some ⟨g,0,none⟩) n n) n xs∧Good w2 wr∧UT wr M k n P∧wr.heap[b]?=some (.cells #[.map (some M)] 179 (0,0))) (fun i _=>n - (intOf i).toNat)
  case atStart=>exact ⟨0,xs0,by omega,rfl,by show _=_;simp [ic,labR],ho0,G3,HUT.out,Hbx.out⟩
  case round =>
   obtain ⟨v,xs,hv,rfl,hx,ho,G4,hT,hbx⟩:=hrel
   have hl3:xs.length=n*1:=ho.1
   by_cases hlv:v<n
   ·have b3:(0:Int)≤(v:Int):=by omega
    have b4:(v:Int)<(n:Int):=by omega
    have k5:wr.cell? ⟨b,0,none⟩=some (.map (some M)):=by rw [cell_of_row wr b 0 _ _ _ hbx];rfl
    have HL:=hideIt (uLeast_any hUf.out hn M k v hlv wr hT)
    have hgl:=(ho.lt g rfl)
    clear k5
    have k5:wr.cell? ⟨b,0,none⟩=some (.map (some M)):=by rw [cell_of_row wr b 0 _ _ _ hbx];rfl
    go_wp2_with (go_at_call 157;refine HL.out.mono ?_;rintro e w5 ⟨rfl,b5⟩;refine Hid.out ?_)
    refine (show ∀ {p:Prop},p→Hid p from fun h=>h) ?_
    have ho5:=own_up ho b5
    have f0:=ho5.frozenAt v
    have x0:w5.cell? ⟨g,v,none⟩=some (xs[v]'(by omega)):=by rw [ho5.cellAt v (by omega)];exact List.getElem?_eq_getElem (by omega)
    have HG5:=hideIt (Good.up G4 b5)
    have HT5:=hideIt (hT.up b5)
    have Hb5:Hid (w5.heap[b]?=some (.cells #[.map (some M)] 179 (0,0))):=by show _=_;rw [b5.block b (Array.getElem?_eq_some_iff.1 hbx).1];exact hbx
    clear HL ho G4 hT hbx k5 b5
    go_wp2
    refine ⟨⟨v+1,xs.set v (.int .i64 ((R v:Nat):Int)),by omega,by go_num,?_,(ho5.stored v _).1,HG5.out.set g v _ hgl.1,HT5.out.kept (grownSet w5 g v _) (by simp;exact hMg),?_⟩,by simp [intOf];omega⟩
    ·show _=_
     rw [labR_snoc,List.take_add_one,List.take_set_of_le (Nat.le_refl _),hx.out]
     simp [ic,show v<xs.length by omega]
    ·rw [heap_setCell_other _ _ _ _ (fun e=>hbg (by first | exact e | exact e.symm))]
     exact Hb5.out
   ·obtain rfl:v=n:=by omega
    have HO:Hid (wr.ownsRow w.heap.size 3 1 (.slice (some ⟨g,0,none⟩) v v) v (ic (labs (uE lss v ++ cuts) v v))):=by
     have h2:=hx.out
     rw [List.take_of_length_le (by omega),HLab.out] at h2
     rw [h2] at ho
     exact own_mono ho b2.size
    have HB:=hideIt (b2.trans (Below.mono G4 b2.size))
    clear hx ho hT hbx G4 HLab
    go_wp2
    exact bodyPost_ret (v:=.tuple #[.slice (some ⟨g,0,none⟩) v v,.bool true]) (by simp [results,Tryz.results137,go_sem]) rfl ⟨_,_,rfl,HO.out,HB.out⟩
end Go.Proofs.YtnagchanokbgdaaGreat.O
namespace Go.Proofs.YtnagchanokbgdaaGreat.O
open Go.RowKit Vt
structure OrdV where
 num:Int
 op:Int
 es:List EdgeV
 v:Int
structure AnsV where
 num:Int
 ok:Bool
 es:List EdgeV
 ls:List Int
def eOk (n:Int) (es:List EdgeV):Bool:=chk n es && decide (es.length≤66)
def OpOk (n:Int) (o:OrdV):Prop :=
 (o.op=3∧o.es.length=0∧0≤o.v∧o.v<n)∨(o.v=0∧(o.op=1∨o.op=2)∧o.es.length=1)∨(o.v=0∧o.op=4∧0<o.es.length)
instance (n:Int) (o:OrdV):Decidable (OpOk n o):=by unfold OpOk;infer_instance
def oB (n:Int) (o:OrdV):Bool:=decide (1≤n∧n≤12) && (decide (1≤o.num∧o.num≤100000) && (eOk n o.es && decide (OpOk n o)))
def lbAt (ls:List Int) (i:Nat):Bool:=match ls[i]? with
 | none=>true
 | some x=>decide (0≤x∧x≤(i:Int)) && decide (ls[x.toNat]?=some x)
def lbs (ls:List Int):Bool:=(List.range ls.length).all (lbAt ls)
def lB (n:Int) (ls:List Int):Bool:=decide ((ls.length:Int)=n) && lbs ls
def aB (n:Int) (a:AnsV):Bool:=decide (1≤n∧n≤12) && (decide (1≤a.num∧a.num≤100000) && (eOk n a.es && lB n a.ls))
theorem lbs_no {ls:List Int} {j:Nat} (hj:j<ls.length) (h:lbAt ls j=false):lbs ls=false:=by
 unfold lbs
 rw [List.all_eq_false]
 exact ⟨j,List.mem_range.2 hj,by simp [h]⟩
theorem lbs_yes {ls:List Int} (h:∀ j,j<ls.length→lbAt ls j=true):lbs ls=true:=by
 unfold lbs
 rw [List.all_eq_true]
 exact fun j hj=>h j (List.mem_range.1 hj)
def ob (x:Int):UInt8:=UInt8.ofNat x.toNat
def eb (es:List EdgeV):List UInt8:=es.flatMap fun e=>[ob e.1,ob e.2]
def EB8 (es:List EdgeV):Prop:=∀ e ∈ es,(0≤e.1∧e.1<256)∧(0≤e.2∧e.2<256)
def et (es:List EdgeV):List UInt8:=vt es.length ++ eb es
theorem eB_bytes {n:Int} {e:EdgeV} (h:eB n e=true):(0≤e.1∧e.1<256)∧(0≤e.2∧e.2<256):=by
 simp [eB] at h
 omega
theorem chk_each {n:Int} {es:List EdgeV} (h:chk n es=true):∀ e ∈ es,eB n e=true:=by
 intro e he
 obtain ⟨j,hj,rfl⟩:=List.getElem_of_mem he
 have h1:chkAt n es j=true:=by
  unfold chk at h
  rw [List.all_eq_true] at h
  exact h j (List.mem_range.2 hj)
 cases hb:eB n es[j] with
 | true=>rfl
 | false=>rw [chkAt_no (List.getElem?_eq_getElem hj) hb] at h1;cases h1
theorem eOk_bytes {n:Int} {es:List EdgeV} (h:eOk n es=true):EB8 es∧es.length≤66:=by
 unfold eOk at h
 simp only [Bool.and_eq_true,decide_eq_true_eq] at h
 exact ⟨fun e he=>eB_bytes (chk_each h.1 e he),h.2⟩
theorem oB_parts {n:Int} {o:OrdV} (h:oB n o=true):(1≤n∧n≤12)∧(1≤o.num∧o.num≤100000)∧(EB8 o.es∧o.es.length≤66)∧(1≤o.op∧o.op≤4)∧(0≤o.v∧o.v≤12):=by
 unfold oB at h
 simp only [Bool.and_eq_true,decide_eq_true_eq] at h
 obtain ⟨h1,h2,h3,h4⟩:=h
 refine ⟨h1,h2,eOk_bytes h3,?_,?_⟩ <;> unfold OpOk at h4 <;> omega
theorem lB_bytes {n:Int} {ls:List Int} (hn:n≤12) (h:lB n ls=true):(ls.length:Int)=n∧∀ x ∈ ls,0≤x∧x<256:=by
 unfold lB at h
 simp only [Bool.and_eq_true,decide_eq_true_eq] at h
 refine ⟨h.1,fun x hx=>?_⟩
 obtain ⟨j,hj,rfl⟩:=List.getElem_of_mem hx
 have h2:=h.2
 unfold lbs at h2
 rw [List.all_eq_true] at h2
 have h3:=h2 j (List.mem_range.2 hj)
 unfold lbAt at h3
 rw [List.getElem?_eq_getElem hj] at h3
 simp only [Bool.and_eq_true,decide_eq_true_eq] at h3
 omega
end Go.Proofs.YtnagchanokbgdaaGreat.O
namespace Go.Proofs.YtnagchanokbgdaaGreat.O
open Go.RowKit
def wE (w:World) (e:EdgeV):World:=w.alloc (.cells #[.int .i64 e.1,.int .i64 e.2] 107)
theorem wE_size (w:World) (e:EdgeV):(wE w e).heap.size=w.heap.size+1:=by simp [wE]
structure PutSt (w:World) (e:EdgeV) (a:Option Addr) (m c:Nat) (gs:List EdgeV) (u:World):Prop where
 own:u.ownsRow (w.heap.size+1) 107 2 (.slice a m c) m (ecells gs)
 bel:Below (w.heap.size+1) (wE w e) u
theorem PutSt.size {w:World} {e:EdgeV} {a:Option Addr} {m c:Nat} {gs:List EdgeV} {u:World} (h:PutSt w e a m c gs u):w.heap.size+1≤u.heap.size:=by have:=h.bel.size;rw [wE_size] at this;exact this
theorem PutSt.below {w:World} {e:EdgeV} {a:Option Addr} {m c:Nat} {gs:List EdgeV} {u:World} (h:PutSt w e a m c gs u):Below w.heap.size w u :=
 ((Below.refl w.heap.size w).alloc (Nat.le_refl _) _).trans (h.bel.mono (by omega))
theorem PutSt.up {w:World} {e:EdgeV} {a:Option Addr} {m c:Nat} {gs:List EdgeV} {u v:World} (h:PutSt w e a m c gs u) (hb:Below u.heap.size u v):PutSt w e a m c gs v :=
 ⟨World.ownsRow.kept h.own (show u.grownBy v none from ⟨hb.os,hb.tape,hb.output,hb.size,fun k hk _=>hb.block k hk⟩) (by cases hv:(Value.slice a m c).ownBlock <;> simp),h.bel.trans (hb.mono h.size)⟩
theorem PutSt.box {w:World} {e:EdgeV} {a:Option Addr} {m c:Nat} {gs:List EdgeV} {u:World} (h:PutSt w e a m c gs u):u.cell? ⟨w.heap.size,0,none⟩=some (.int .i64 e.1)∧u.cell? ⟨w.heap.size,1,none⟩=some (.int .i64 e.2):=by
 refine ⟨?_,?_⟩
 ·rw [h.bel.cell (by show w.heap.size<_;omega)];simp [wE]
 ·rw [h.bel.cell (by show w.heap.size<_;omega)];simp [wE]
theorem PutSt.app {w:World} {e:EdgeV} {a:Option Addr} {m c:Nat} {gs:List EdgeV} {u:World} (h:PutSt w e a m c gs u) {g:EdgeV} {o:Obj} {v:Value} {u':World}
  (ho:u'.ownsRow (w.heap.size+1) 107 2 v (m+1) (ecells gs ++ [.int .i64 g.1,.int .i64 g.2])) (hg:(u.alloc o).grownBy u' (Value.slice a m c).ownBlock) :
  ∃ a' c',v=.slice a' (m+1) c'∧PutSt w e a' (m+1) c' (gs ++ [g]) u':=by
 obtain ⟨a',c',rfl⟩:=own_form ho
 rw [← ecells_snoc] at ho
 refine ⟨a',c',rfl,ho,?_⟩
 exact (h.bel.alloc h.size _).grown hg (by have:=h.size;simp;omega) (fun j hj=>(h.own.lt j hj).1)
theorem news1 (w:World) (g:EdgeV):∀ j u,([Value.int .i64 g.1,Value.int .i64 g.2]:List Value)[j]?=some u→(w.alloc (.cells #[.int .i64 g.1,.int .i64 g.2] 107)).cell? ((⟨w.heap.size,0,none⟩:Addr).add j)=some u:=by
 intro j u hj
 rcases j with _ | _ | j
 ·simp at hj;subst hj;simp [Addr.add]
 ·simp at hj;subst hj;simp [Addr.add]
 ·simp at hj
set_option maxRecDepth 100000 in
set_option maxHeartbeats 4000000 in
theorem l05Put_any (es:List EdgeV) (e:EdgeV) (n:Nat) (a:Option Addr) (c:Nat) (hn:n≤1048576) (w:World) (h:Es w w.heap.size a n es) :
  Calls Tryz.prog 80 #[.slice a n c,.agg #[.int .i64 e.1,.int .i64 e.2]] w fun x w'=>∃ a' m' c',x=.returned (.slice a' m' c')∧w'.ownsRow w.heap.size 107 2 (.slice a' m' c') m' (ecells (putE es e))∧Below w.heap.size w w':=by
 obtain ⟨i0,hi,hz0,hz1,hz2⟩:=info_parts infoIE
 obtain ⟨hlen,hrow⟩:=h
 have HR:=hideIt hrow
 clear hrow
 have HLs:Hid (∀ (a':Option Addr) (m' c':Nat) (gs:List EdgeV) (d f:EdgeV) (W:World),PutSt w e a' m' c' gs W→Calls Tryz.prog 96 #[.agg #[.int .i64 d.1,.int .i64 d.2],.agg #[.int .i64 f.1,.int .i64 f.2]] W fun x w'=>x=.returned (.bool (lt d f))∧PutSt w e a' m' c' gs w'):=fun _ _ _ _ d f W hW =>
  (l05Less_any d f W).mono fun _ _ ⟨he,hb⟩=>⟨he,hW.up hb⟩
 go_enter Tryz.func80,Tryz.ntmps80
 go_wp2
 go_loopw [5,6] (fun v i wr=>∃ (k m':Nat) (a':Option Addr) (c':Nat) (gs:List EdgeV),k≤n∧i=.int .i64 (k:Int)∧v=.slice a' m' c'∧m'≤k∧Hid (gs=(es.take k).filter (fun d=>lt d e))∧PutSt w e a' m' c' gs wr) (fun _ i _=>n - (intOf i).toNat)
 case atStart =>
  refine ⟨0,0,_,_,[],by omega,rfl,rfl,by omega,by show _=_;simp,?_,?_⟩
  ·have h0:=World.ownsRow_lit (base:=w.heap.size+1) (e:=107) (size:=2) (wE w e) #[] 0 (by rw [wE_size];omega) (by unfold maxLen;omega) (by simp)
   rw [wE_size] at h0
   simpa [ecells,wE] using h0
  ·have h1:=(Below.refl (w.heap.size+1) (wE w e)).alloc (by rw [wE_size];omega) (.cells #[] 107)
   simpa [wE] using h1
 case round =>
  obtain ⟨k,m',a',c',gs,hk,rfl,rfl,hm,hgs,hst⟩:=hrel
  by_cases hlt:k<n
  ·rcases HR.out with hz | ⟨b,off,rfl,hbl,hc⟩
   ·omega
   ·obtain ⟨f,hf⟩:∃ f,es[k]?=some f:=⟨es[k]'(by omega),List.getElem?_eq_getElem (by omega)⟩
    obtain ⟨c0,c1⟩:=hc k f hf
    have b1:(0:Int)≤(k:Int):=by omega
    have b2:(k:Int)<(n:Int):=by omega
    have HK:Hid (∀ W:World,PutSt w e a' m' c' gs W→(W.cell? ⟨b,off+k*2,none⟩=some (.int .i64 f.1)∧W.cell? ⟨b,off+k*2+1,none⟩=some (.int .i64 f.2))∧W.cell? ⟨w.heap.size,0,none⟩=some (.int .i64 e.1)∧W.cell? ⟨w.heap.size,1,none⟩=some (.int .i64 e.2)):=fun W hW =>
     ⟨⟨by rw [hW.below.cell hbl];exact c0,by rw [hW.below.cell hbl];exact c1⟩,hW.box⟩
    have S0:=hst.up (Below.refl _ _).drew
    have HLc:=hideIt (HLs.out a' m' c' gs f e _ S0)
    have e0:=(HK.out _ hst).1.1
    have e1:=(HK.out _ hst).1.2
    cases hL:lt f e with
    | true =>
     rw [hL] at HLc
     have HG:Hid (gs ++ [f]=(es.take (k+1)).filter (fun d=>lt d e)):=by
      show _=_
      rw [take_snocF es k f hf,List.filter_append,hgs.out]
      simp [hL]
     clear hc hf c0 c1 hL
     go_wp2
     go_region_held3 (fun u=>PutSt w e a' m' c' gs u∧(u.cell? ⟨b,off+k*2,none⟩=some (.int .i64 f.1)∧u.cell? ⟨b,off+k*2+1,none⟩=some (.int .i64 f.2))∧u.cell? ⟨w.heap.size,0,none⟩=some (.int .i64 e.1)∧u.cell? ⟨w.heap.size,1,none⟩=some (.int .i64 e.2))
      (first | exact ⟨S1,HK.out _ S1⟩ | exact ⟨S0,HK.out _ S0⟩)
      ((go_at_call 96;refine HLc.out.mono ?_;rintro x w1 ⟨rfl,S1⟩))
     obtain ⟨⟨y0,y1⟩,_,_⟩:=HK.out _ S1
     have z1:=S1.size
     clear HLc S0
     go_wp2_with (at_builtin;refine wpList_append_own _ rfl _ _ 25 rfl (w.heap.size+1) 107 i0 _ 2 16 Tryz.underlying25 hi hz0 hz1 hz2 rfl (by decide) _ _ _ rfl (S1.own.alloc _) ⟨w1.heap.size,0,none⟩ 1 1 [.int .i64 f.1,.int .i64 f.2] rfl rfl (news1 _ _) (by intro u hu;simp at hu;rcases hu with rfl | rfl <;> rfl) (by unfold maxLen;omega) (by omega) (by simp;omega) ?_)
     intro v2 w2 hown2 hg2 hn2
     obtain ⟨a2,c2,rfl,hst2⟩:=S1.app hown2 hg2
     clear hown2 hg2 hn2 S1 y0 y1 e0 e1 hst
     go_wp2
     exact ⟨⟨k+1,m'+1,a2,c2,gs ++ [f],by omega,by go_num,rfl,by omega,HG,hst2⟩,by simp [intOf];omega⟩
    | false =>
     rw [hL] at HLc
     have HG:Hid (gs=(es.take (k+1)).filter (fun d=>lt d e)):=by
      show _=_
      rw [take_snocF es k f hf,List.filter_append,hgs.out]
      simp [hL]
     clear hc hf c0 c1 hL
     go_wp2
     go_region_held3 (fun u=>PutSt w e a' m' c' gs u∧(u.cell? ⟨b,off+k*2,none⟩=some (.int .i64 f.1)∧u.cell? ⟨b,off+k*2+1,none⟩=some (.int .i64 f.2))∧u.cell? ⟨w.heap.size,0,none⟩=some (.int .i64 e.1)∧u.cell? ⟨w.heap.size,1,none⟩=some (.int .i64 e.2))
      (first | exact ⟨S1,HK.out _ S1⟩ | exact ⟨S0,HK.out _ S0⟩)
      ((go_at_call 96;refine HLc.out.mono ?_;rintro x w1 ⟨rfl,S1⟩))
     go_wp2
     exact ⟨⟨k+1,m',a',c',gs,by omega,by go_num,rfl,by omega,HG,S1⟩,by simp [intOf];omega⟩
  ·obtain rfl:k=n:=by omega
   have HG:Hid (gs ++ [e]=es.filter (fun d=>lt d e) ++ [e]):=by show _=_;rw [hgs.out,List.take_of_length_le (by omega)]
   obtain ⟨x0,x1⟩:=hst.box
   have z1:=hst.size
   clear hgs
   go_wp2_with (at_builtin;refine wpList_append_own _ rfl _ _ 25 rfl (w.heap.size+1) 107 i0 _ 2 16 Tryz.underlying25 hi hz0 hz1 hz2 rfl (by decide) _ _ _ rfl (hst.own.alloc _) ⟨wr.heap.size,0,none⟩ 1 1 [.int .i64 e.1,.int .i64 e.2] rfl rfl (news1 _ _) (by intro u hu;simp at hu;rcases hu with rfl | rfl <;> rfl) (by unfold maxLen;omega) (by omega) (by simp;omega) ?_)
   intro v2 w2 hown2 hg2 hn2
   obtain ⟨a2,c2,rfl,hst2⟩:=hst.app hown2 hg2
   have hmk:m'+1≤k+1:=by omega
   generalize m'+1=m3 at hst2 hmk
   generalize gs ++ [e]=g0 at HG hst2
   clear hown2 hg2 hn2 x0 x1 hst
   go_wp2
   go_loopw [5,7] (fun v i wr=>∃ (q m':Nat) (a':Option Addr) (c':Nat) (gs:List EdgeV),q≤k∧i=.int .i64 (q:Int)∧v=.slice a' m' c'∧m'≤k+1+q∧Hid (gs=g0 ++ (es.take q).filter (fun d=>lt e d))∧PutSt w e a' m' c' gs wr) (fun _ i _=>k - (intOf i).toNat)
   case atStart=>exact ⟨0,m3,a2,c2,g0,by omega,rfl,rfl,by omega,by show _=_;simp,hst2⟩
   case round =>
    obtain ⟨q,m',a',c',gs,hq,rfl,rfl,hm,hgs,hst⟩:=hrel
    by_cases hlt:q<k
    ·rcases HR.out with hz | ⟨b,off,rfl,hbl,hc⟩
     ·omega
     ·obtain ⟨f,hf⟩:∃ f,es[q]?=some f:=⟨es[q]'(by omega),List.getElem?_eq_getElem (by omega)⟩
      obtain ⟨c0,c1⟩:=hc q f hf
      have b1:(0:Int)≤(q:Int):=by omega
      have b2:(q:Int)<(k:Int):=by omega
      have HK:Hid (∀ W:World,PutSt w e a' m' c' gs W→(W.cell? ⟨b,off+q*2,none⟩=some (.int .i64 f.1)∧W.cell? ⟨b,off+q*2+1,none⟩=some (.int .i64 f.2))∧W.cell? ⟨w.heap.size,0,none⟩=some (.int .i64 e.1)∧W.cell? ⟨w.heap.size,1,none⟩=some (.int .i64 e.2)):=fun W hW =>
       ⟨⟨by rw [hW.below.cell hbl];exact c0,by rw [hW.below.cell hbl];exact c1⟩,hW.box⟩
      have S0:=hst.up (Below.refl _ _).drew
      have HLc:=hideIt (HLs.out a' m' c' gs e f _ S0)
      have e0:=(HK.out _ hst).1.1
      have e1:=(HK.out _ hst).1.2
      cases hL:lt e f with
      | true =>
       rw [hL] at HLc
       have HG:Hid (gs ++ [f]=g0 ++ (es.take (q+1)).filter (fun d=>lt e d)):=by
        show _=_
        rw [take_snocF es q f hf,List.filter_append,hgs.out]
        simp [hL]
       clear hc hf c0 c1 hL
       go_wp2
       go_region_held3 (fun u=>PutSt w e a' m' c' gs u∧(u.cell? ⟨b,off+q*2,none⟩=some (.int .i64 f.1)∧u.cell? ⟨b,off+q*2+1,none⟩=some (.int .i64 f.2))∧u.cell? ⟨w.heap.size,0,none⟩=some (.int .i64 e.1)∧u.cell? ⟨w.heap.size,1,none⟩=some (.int .i64 e.2))
        (first | exact ⟨S1,HK.out _ S1⟩ | exact ⟨S0,HK.out _ S0⟩)
        ((go_at_call 96;refine HLc.out.mono ?_;rintro x w1 ⟨rfl,S1⟩))
       obtain ⟨⟨y0,y1⟩,_,_⟩:=HK.out _ S1
       have z1:=S1.size
       clear HLc S0
       go_wp2_with (at_builtin;refine wpList_append_own _ rfl _ _ 25 rfl (w.heap.size+1) 107 i0 _ 2 16 Tryz.underlying25 hi hz0 hz1 hz2 rfl (by decide) _ _ _ rfl (S1.own.alloc _) ⟨w1.heap.size,0,none⟩ 1 1 [.int .i64 f.1,.int .i64 f.2] rfl rfl (news1 _ _) (by intro u hu;simp at hu;rcases hu with rfl | rfl <;> rfl) (by unfold maxLen;omega) (by omega) (by simp;omega) ?_)
       intro v2 w2 hown2 hg2 hn2
       obtain ⟨a2,c2,rfl,hst2⟩:=S1.app hown2 hg2
       clear hown2 hg2 hn2 S1 y0 y1 e0 e1 hst
       go_wp2
       exact ⟨⟨q+1,m'+1,a2,c2,gs ++ [f],by omega,by go_num,rfl,by omega,HG,hst2⟩,by simp [intOf];omega⟩
      | false =>
       rw [hL] at HLc
       have HG:Hid (gs=g0 ++ (es.take (q+1)).filter (fun d=>lt e d)):=by
        show _=_
        rw [take_snocF es q f hf,List.filter_append,hgs.out]
        simp [hL]
       clear hc hf c0 c1 hL
       go_wp2
       go_region_held3 (fun u=>PutSt w e a' m' c' gs u∧(u.cell? ⟨b,off+q*2,none⟩=some (.int .i64 f.1)∧u.cell? ⟨b,off+q*2+1,none⟩=some (.int .i64 f.2))∧u.cell? ⟨w.heap.size,0,none⟩=some (.int .i64 e.1)∧u.cell? ⟨w.heap.size,1,none⟩=some (.int .i64 e.2))
        (first | exact ⟨S1,HK.out _ S1⟩ | exact ⟨S0,HK.out _ S0⟩)
        ((go_at_call 96;refine HLc.out.mono ?_;rintro x w1 ⟨rfl,S1⟩))
       go_wp2
       exact ⟨⟨q+1,m',a',c',gs,by omega,by go_num,rfl,by omega,HG,S1⟩,by simp [intOf];omega⟩
    ·obtain rfl:q=k:=by omega
     have HF:Hid (gs=putE es e):=by show _=_;rw [hgs.out,HG.out,List.take_of_length_le (by omega)];unfold putE;rfl
     have HO:=hideIt (own_mono hst.own (show w.heap.size≤w.heap.size+1 by omega))
     have hb:=hst.below
     clear hgs hst
     go_wp2
     go_ret
     exact ⟨a',m',c',rfl,by rw [← HF.out];exact HO.out,hb⟩
theorem chk_of {n:Int} {es:List EdgeV} (h1:∀ e ∈ es,eB n e=true) (h2:Asc es):chk n es=true:=chk_yes fun j hj=>by
 have he:es[j]?=some es[j]:=List.getElem?_eq_getElem hj
 have hb:=h1 _ (List.getElem_mem hj)
 cases j with
 | zero=>rw [chkAt_zero he];exact hb
 | succ i =>
  have hd:es[i]?=some (es[i]'(by omega)):=List.getElem?_eq_getElem (by omega)
  rw [chkAt_succ he hd,hb,h2 i (i+1) _ _ (by omega) hd he]
  rfl
theorem asc_of_pairwise {es:List EdgeV} (h:es.Pairwise fun d e=>lt d e=true):Asc es:=by
 intro i j d e hij hd he
 obtain ⟨h1,rfl⟩:=List.getElem?_eq_some_iff.1 hd
 obtain ⟨h2,rfl⟩:=List.getElem?_eq_some_iff.1 he
 exact List.pairwise_iff_getElem.1 h i j h1 h2 hij
theorem pairwise_asc' {es:List EdgeV} (h:Asc es):es.Pairwise fun d e=>lt d e=true:=by
 rw [List.pairwise_iff_getElem]
 exact fun i j hi hj hij=>h i j _ _ hij (List.getElem?_eq_getElem hi) (List.getElem?_eq_getElem hj)
theorem asc_put {es:List EdgeV} {e:EdgeV} (h:Asc es):Asc (putE es e):=by
 have hp:=pairwise_asc' h
 refine asc_of_pairwise ?_
 unfold putE
 rw [List.pairwise_append,List.pairwise_append]
 refine ⟨⟨hp.filter _,List.pairwise_singleton _ _,?_⟩,hp.filter _,?_⟩
 ·intro d hd x hx
  simp at hx
  subst hx
  exact (List.mem_filter.1 hd).2
 ·intro d hd x hx
  have h2:=(List.mem_filter.1 hx).2
  rcases List.mem_append.1 hd with h1 | h1
  ·exact lt_trans' (List.mem_filter.1 h1).2 h2
  ·simp at h1;subst h1;exact h2
theorem eB_iff' (n:Int) (e:EdgeV):eB n e=true↔(1≤n∧n≤12∧0≤e.1∧e.1<e.2∧e.2<n):=by unfold eB;rw [decide_eq_true_iff]
theorem asc_ext:∀ {l1 l2:List EdgeV},(l1.Pairwise fun d e=>lt d e=true)→(l2.Pairwise fun d e=>lt d e=true)→(∀ x,x ∈ l1↔x ∈ l2)→l1=l2:=by
 intro l1
 induction l1 with
 | nil =>
  intro l2 _ _ h
  cases l2 with
  | nil=>rfl
  | cons y l2=>exact absurd ((h y).2 (by simp)) (by simp)
 | cons x l1 ih =>
  intro l2 h1 h2 h
  cases l2 with
  | nil=>exact absurd ((h x).1 (by simp)) (by simp)
  | cons y l2 =>
   obtain ⟨a1,b1⟩:=List.pairwise_cons.1 h1
   obtain ⟨a2,b2⟩:=List.pairwise_cons.1 h2
   have ne1:∀ z ∈ l1,z≠x:=fun z hz e=>by subst e;have:=a1 z hz;rw [lt_irrefl'] at this;cases this
   have ne2:∀ z ∈ l2,z≠y:=fun z hz e=>by subst e;have:=a2 z hz;rw [lt_irrefl'] at this;cases this
   have hxy:x=y:=by
    have hx:=(h x).1 (by simp)
    have hy:=(h y).2 (by simp)
    rcases List.mem_cons.1 hx with e | hx
    ·exact e
    ·rcases List.mem_cons.1 hy with e | hy
     ·exact e.symm
     ·have h3:=a2 x hx
      have h4:=a1 y hy
      rw [lt_asymm' h3] at h4
      cases h4
   subst hxy
   rw [ih b1 b2 fun z=>?_]
   constructor
   ·intro hz
    rcases List.mem_cons.1 ((h z).1 (by simp [hz])) with e | hz'
    ·exact absurd e (ne1 z hz)
    ·exact hz'
   ·intro hz
    rcases List.mem_cons.1 ((h z).2 (by simp [hz])) with e | hz'
    ·exact absurd e (ne2 z hz)
    ·exact hz'
theorem mem_put (es:List EdgeV) (e d:EdgeV):d ∈ putE es e↔d=e∨(d ∈ es∧d≠e):=by
 unfold putE
 rw [List.mem_append,List.mem_append,List.mem_filter,List.mem_filter]
 simp only [List.mem_cons,List.not_mem_nil,or_false]
 constructor
 ·rintro ((⟨h1,h2⟩ | h) | ⟨h1,h2⟩)
  ·exact .inr ⟨h1,fun h=>by subst h;rw [lt_irrefl'] at h2;cases h2⟩
  ·exact .inl h
  ·exact .inr ⟨h1,fun h=>by subst h;rw [lt_irrefl'] at h2;cases h2⟩
 ·rintro (h | ⟨h1,h2⟩)
  ·exact .inl (.inr h)
  ·cases h3:lt d e with
   | true=>exact .inl (.inl ⟨h1,rfl⟩)
   | false=>exact .inr ⟨h1,lt_total' h3 h2⟩
theorem mem_out (es:List EdgeV) (e d:EdgeV):d ∈ outE es e↔d ∈ es∧d≠e:=by
 unfold outE
 rw [List.mem_filter,decide_eq_true_eq]
theorem asc_out {es:List EdgeV} {e:EdgeV} (h:Asc es):Asc (outE es e):=asc_of_pairwise ((pairwise_asc' h).filter _)
theorem Sl_of_own {w:World} {B e s m c:Nat} {a:Option Addr} {xs:List Value} (h:w.ownsRow B e s (.slice a m c) m xs):Sl a m c:=by
 rcases h.2 with ⟨hv,h0⟩ | ⟨g,cap',cur,hv,_,_,h1,h2,_,_⟩
 ·simp at hv
  obtain ⟨rfl,rfl,rfl⟩:=hv
  exact ⟨Nat.le_refl _,by unfold maxLen;omega,.inl ⟨rfl,rfl,rfl⟩⟩
 ·simp at hv
  obtain ⟨rfl,rfl⟩:=hv
  exact ⟨h1,h2,.inr ⟨g,0,rfl⟩⟩
def tN (a:Nat):Nat:=a*(23 - a) / 2
theorem tN_step:∀ a c:Fin 12,a.1<c.1→tN a.1+(11 - a.1)≤tN c.1:=by decide
def rkN (e:EdgeV):Nat:=tN e.1.toNat+(e.2.toNat - e.1.toNat - 1)
theorem rk_lt {n:Int} {d e:EdgeV} (hd:eB n d=true) (he:eB n e=true) (h:lt d e=true):rkN d<rkN e:=by
 rw [eB_iff'] at hd he
 unfold lt at h
 rw [decide_eq_true_iff] at h
 unfold rkN
 rcases h with h | ⟨h1,h2⟩
 ·have hs:=tN_step ⟨d.1.toNat,by omega⟩ ⟨e.1.toNat,by omega⟩ (by show d.1.toNat<e.1.toNat;omega)
  dsimp only at hs
  omega
 ·rw [h1]
  omega
theorem rk_le {n:Int} {e:EdgeV} (he:eB n e=true):rkN e≤65:=by
 rw [eB_iff'] at he
 have hs:=tN_step ⟨e.1.toNat,by omega⟩ ⟨11,by omega⟩ (by show e.1.toNat<11;omega)
 have h11:tN 11=66:=by decide
 dsimp only at hs
 rw [h11] at hs
 unfold rkN
 omega
theorem rk_at {n:Int} {es:List EdgeV} (h1:∀ e ∈ es,eB n e=true) (h2:Asc es):∀ (j:Nat) (hj:j<es.length),j≤rkN es[j]:=by
 intro j
 induction j with
 | zero=>intro _;omega
 | succ j ih =>
  intro hj
  have h3:=ih (by omega)
  have h4:=rk_lt (h1 _ (List.getElem_mem (show j<es.length by omega))) (h1 _ (List.getElem_mem hj)) (h2 j (j+1) _ _ (by omega) (List.getElem?_eq_getElem (by omega)) (List.getElem?_eq_getElem hj))
  omega
theorem asc_len {n:Int} {es:List EdgeV} (h1:∀ e ∈ es,eB n e=true) (h2:Asc es):es.length≤66:=by
 by_cases h0:es.length=0
 ·omega
 ·have hj:es.length - 1<es.length:=by omega
  have h3:=rk_at h1 h2 _ hj
  have h4:=rk_le (h1 _ (List.getElem_mem hj))
  omega
theorem gB_of {N:Int} {es:List EdgeV} (h1:1≤N∧N≤12) (h2:∀ e ∈ es,eB N e=true) (h3:Asc es):gB N es=true:=by
 have h4:=asc_len h2 h3
 unfold gB
 rw [chk_of h2 h3,decide_eq_true h1,decide_eq_true h4]
 rfl
theorem gB_put {N:Int} {es:List EdgeV} {e:EdgeV} (h:gB N es=true) (he:eB N e=true):gB N (putE es e)=true:=by
 obtain ⟨h1,h2,_⟩:=gB_chk h
 refine gB_of h1 (fun d hd=>?_) (asc_put (asc_of_chk h2))
 rcases (mem_put es e d).1 hd with rfl | ⟨hd,_⟩
 ·exact he
 ·exact chk_eB h2 hd
theorem gB_out {N:Int} {es:List EdgeV} {e:EdgeV} (h:gB N es=true):gB N (outE es e)=true:=by
 obtain ⟨h1,h2,_⟩:=gB_chk h
 exact gB_of h1 (fun d hd=>chk_eB h2 ((mem_out es e d).1 hd).1) (asc_out (asc_of_chk h2))
end Go.Proofs.YtnagchanokbgdaaGreat.O
namespace Go.Proofs.YtnagchanokbgdaaGreat.O
open Go.RowKit Vt
theorem gr_set (w:World) (G j:Nat) (u:Value):w.grownBy (w.setCell ⟨G,j,none⟩ u) (some G) :=
 ⟨rfl,rfl,rfl,by simp [World.setCell],fun k _ hk=>heap_setCell_other w ⟨G,j,none⟩ k u (fun e=>hk (by simp [e]))⟩
theorem gr_refl (w:World) (row:Option Nat):w.grownBy w row:=⟨rfl,rfl,rfl,Nat.le_refl _,fun _ _ _=>rfl⟩
theorem gr_below {w w':World} (h:Below w.heap.size w w') (row:Option Nat):w.grownBy w' row:=⟨h.os,h.tape,h.output,h.size,fun i hi _=>h.block i hi⟩
end Go.Proofs.YtnagchanokbgdaaGreat.O
