/- slices.Concat of edges. slices.Concat of ints. A drawn region walked state by state: what is shown of a state once serves wherever the walk comes to it. slices.Concat of one list: of numbers, of edges, of what is said; a head's copy in the making. A box of many cells, read and written whole; a result cell. A box that holds a head, read and written whole. -/
import Derived.Test.YtnagchanokbgdaaGreatJE6
import Derived.Lib.AppendZerosOnto
import Derived.Lib.Walk
import Derived.Lib.SliceRun
import Derived.Laws.AppendOwnNone
import Derived.Test.YtnagchanokbgdaaGreatJVerts
import Derived.Test.YtnagchanokbgdaaGreatJCs20
import Derived.Test.YtnagchanokbgdaaGreatJCon11
import Derived.Test.YtnagchanokbgdaaGreatJHj13
import Derived.Deep.MidRow
namespace Go.Proofs.YtnagchanokbgdaaGreat
open Go.RowKit
theorem GrowI_zero (w:World):Calls Tryz.prog 117 #[.slice none 0 0,.int .i64 0] w fun e w'=>e=.returned (.slice none 0 0)∧w'=w:=by
 go_enter Tryz.func117,Tryz.ntmps117
 go_wp2
 go_ret
 exact ⟨rfl,rfl⟩
theorem GrowI_some (n:Nat) (hn0:0<n) (hn:n≤10000000) (w:World) :
  Calls Tryz.prog 117 #[.slice none 0 0,.int .i64 (n:Int)] w fun e w'=>∃ a' c',e=.returned (.slice a' 0 c')∧w'.ownsRow w.heap.size 3 1 (.slice a' 0 c') 0 []∧Below w.heap.size w w':=by
 obtain ⟨i0,hi,hz0,hz1,hz2⟩:=info_parts info3i
 have hold:(Builtin.firstCells i0.size 0 (.slice none 0 0)).run Tryz.prog w.drew=.ok ([]:List Value).toArray w.drew:=run_firstCells_none w.drew i0.size 0 0 0
 have hrz:∀ ty,(Builtin.append_ #[24,3] ty #[.slice none 0 0,.int .i64 (n:Int)]).run Tryz.prog w=_:=fun ty =>
  Lib.run_append_grow_zeros w 24 3 ty 3 i0 _ .i64 .i64 Tryz.underlying24 Tryz.underlying3 hi hz0 none 0 0 [] hold n hn0 (by rw [hz1];omega) (by omega) (by omega)
   (by rw [hz2];omega) (by rw [Nat.zero_add];exact growslice_fits (by omega) (by rw [hz2];omega))
 have hGn:0+n≤grownCap w (0+n) 0 3:=grownCap_ge w _ _ _
 have hGm:grownCap w (0+n) 0 3≤maxLen:=grownCap_le_maxLen w (0+n) 0 3 (by unfold maxLen;omega)
 obtain ⟨G,hG⟩:∃ G,G=grownCap w (0+n) 0 3:=⟨_,rfl⟩
 rw [← hG] at hGn hGm
 have hrz2:∀ ty,(Builtin.append_ #[24,3] ty #[.slice none 0 0,.int .i64 (n:Int)]).run Tryz.prog w=.ok (.slice (some ⟨w.heap.size,0,none⟩) n G) (w.drew.alloc (.cells (Builtin.zeroCells #[.int .i64 0] n ++ Builtin.zeroCells #[.int .i64 0] (G - n)) 3)):=fun ty=>by
  rw [hrz ty,← hG]
  simp [Value.cells]
 have hsz:(Builtin.zeroCells #[.int .i64 0] n ++ Builtin.zeroCells #[.int .i64 0] (G - n)).size=G*1:=by
  simp [Builtin.zeroCells]
  omega
 have HO:=hideIt (show (w.drew.alloc (.cells (Builtin.zeroCells #[.int .i64 0] n ++ Builtin.zeroCells #[.int .i64 0] (G - n)) 3)).ownsRow w.heap.size 3 1 (.slice (some ⟨w.heap.size,0,none⟩) 0 G) 0 [] from
  ⟨rfl,.inr ⟨w.heap.size,G,_,rfl,Nat.le_refl _,heap_alloc_new w.drew _,by omega,hGm,hsz,rfl⟩⟩)
 have HB:=hideIt (show Below w.heap.size w (w.drew.alloc (.cells (Builtin.zeroCells #[.int .i64 0] n ++ Builtin.zeroCells #[.int .i64 0] (G - n)) 3)) from (Below.refl _ _).drew.alloc (Nat.le_refl _) _)
 generalize (w.drew.alloc (.cells (Builtin.zeroCells #[.int .i64 0] n ++ Builtin.zeroCells #[.int .i64 0] (G - n)) 3))=W at hrz2 HO HB
 have g1:(0:Int)≤(G:Int):=by omega
 have d0:decide ((0:Int)<(n:Int))=true:=decide_eq_true (by omega)
 have d1:decide ((n:Int)<0)=false:=decide_eq_false (by omega)
 unfold maxLen at hGm
 clear hrz hold hG hsz
 go_enter Tryz.func117,Tryz.ntmps117
 go_wp2_with (at_builtin;refine Lib.wpList_append_run _ rfl _ _ _ _ rfl _ _ rfl rfl _ _ (hrz2 _) ?_)
 all_goals
  go_ret
  exact ⟨_,_,rfl,HO.out,HB.out⟩
structure PartIC where
 a:Option Addr
 m:Nat
 c:Nat
 es:List Int
def PartsIC (w:World) (b:Nat) (ps:List PartIC):Prop :=
 b<w.heap.size∧∀ (j:Nat) (p:PartIC),ps[j]?=some p→w.cell? ⟨b,j,none⟩=some (.slice p.a p.m p.c)∧Is w w.heap.size p.a p.m p.es∧(p.a=none→p.m=0∧p.c=0)
def pLenI (ps:List PartIC):Nat:=(ps.map fun p=>p.m).sum
def pAllI (ps:List PartIC):List Int:=ps.flatMap fun p=>p.es
theorem pLenI_snoc (ps:List PartIC) (p:PartIC):pLenI (ps ++ [p])=pLenI ps+p.m:=by simp [pLenI]
theorem pAllI_snoc (ps:List PartIC) (p:PartIC):pAllI (ps ++ [p])=pAllI ps ++ p.es:=by simp [pAllI]
theorem pLenI_take (ps:List PartIC) (k:Nat):pLenI (ps.take k)≤pLenI ps:=by
 have h:=congrArg pLenI (List.take_append_drop k ps)
 have e:∀ a b:List PartIC,pLenI (a ++ b)=pLenI a+pLenI b:=fun a b=>by simp [pLenI]
 rw [e] at h
 omega
theorem Is.newsC {w:World} {B b off n:Nat} {es:List Int} (h:Is w B (some ⟨b,off,none⟩) n es):∀ j u,(ic es)[j]?=some u→w.cell? ((⟨b,off,none⟩:Addr).add j)=some u:=by
 intro j u hj
 have hl:j<es.length:=by have:=(List.getElem?_eq_some_iff.1 hj).1;rw [ic_len] at this;exact this
 have hn:=h.1
 rcases h.2 with h0 | ⟨b',off',hb,_,hc⟩
 ·omega
 ·simp at hb
  obtain ⟨rfl,rfl⟩:=hb
  obtain ⟨f,hf⟩:∃ f,es[j]?=some f:=⟨es[j]'(by omega),List.getElem?_eq_getElem (by omega)⟩
  rw [show ((⟨b,off,none⟩:Addr).add j)=⟨b,off+j,none⟩ by by_cases h0:j=0 <;> simp [Addr.add,h0]]
  rw [hc _ f hf,← ic_at hf]
  exact hj
theorem icOne {es:List Int}:∀ u ∈ ic es,u.oneCell'=true:=by
 intro u hu
 simp only [ic,List.mem_map] at hu
 obtain ⟨e,_,rfl⟩:=hu
 rfl
theorem ic_appC (a b:List Int):ic (a ++ b)=ic a ++ ic b:=by simp [ic]
set_option maxRecDepth 100000 in
set_option maxHeartbeats 2000000 in
theorem ConcatI_any (ps:List PartIC) (b k0:Nat) (hk0:ps.length=k0) (hsm:k0≤10) (w:World) (h:PartsIC w b ps) (hlen:pLenI ps≤3000000) :
  Calls Tryz.prog 94 #[.slice (some ⟨b,0,none⟩) k0 k0] w fun e w'=>∃ a m c,e=.returned (.slice a m c)∧w'.ownsRow w.heap.size 3 1 (.slice a m c) m (ic (pAllI ps))∧Below w.heap.size w w':=by
 obtain ⟨i0,hi,hz0,hz1,hz2⟩:=info_parts info3i
 have HP:=hideIt h
 have HL:=hideIt hlen
 have HK:=hideIt hk0
 have hbw:=h.1
 clear h hlen hk0
 have HG:Hid (∀ n:Nat,n≤3000000→Calls Tryz.prog 117 #[.slice none 0 0,.int .i64 (n:Int)] w fun e w'=>∃ a' c',e=.returned (.slice a' 0 c')∧w'.ownsRow w.heap.size 3 1 (.slice a' 0 c') 0 []∧Below w.heap.size w w'):=fun n hn=>by
  by_cases h0:n=0
  ·subst h0
   exact (GrowI_zero w).mono fun _ _ ⟨he,hw⟩=>⟨_,_,he,by rw [hw];exact World.ownsRow_nil _ _ _ _,by rw [hw];exact Below.refl _ _⟩
  ·exact GrowI_some n (by omega) (by omega) w
 go_enter Tryz.func94,Tryz.ntmps94
 go_wp2
 go_loopw [3,11] (fun s i wr=>∃ (k q:Nat),k≤k0∧i=.int .i64 (k:Int)∧s=.int .i64 (q:Int)∧Hid (q=pLenI (ps.take k))∧q≤3000000∧wr=w) (fun _ i _=>k0 - (intOf i).toNat)
 case atStart=>exact ⟨0,0,by omega,rfl,rfl,by show _=_;simp [pLenI],by omega,rfl⟩
 case round =>
  obtain ⟨k,q,hk,rfl,rfl,hq,hq1,hw⟩:=hrel
  have hw':=hw.symm
  subst hw'
  clear hw
  by_cases hlt:k<k0
  ·obtain ⟨p,hp⟩:∃ p,ps[k]?=some p:=⟨ps[k]'(by have:=HK.out;omega),List.getElem?_eq_getElem _⟩
   obtain ⟨c0,_,_⟩:=HP.out.2 k p hp
   have HQ:Hid (q+p.m=pLenI (ps.take (k+1))):=by show _=_;rw [take_snocF ps k p hp,pLenI_snoc,hq.out]
   have hqm:q+p.m≤3000000:=by have:=HQ.out;have:=pLenI_take ps (k+1);have:=HL.out;omega
   have b1:(0:Int)≤(k:Int):=by omega
   have b2:(k:Int)<(k0:Int):=by omega
   clear hq hp
   go_wp2
   exact ⟨⟨k+1,q+p.m,by omega,by go_num,by go_num,HQ,hqm,by first | trivial | rfl⟩,by simp [intOf];omega⟩
  ·obtain rfl:k=k0:=by omega
   have HQ:Hid (q=pLenI ps):=by show _=_;rw [hq.out,List.take_of_length_le (by have:=HK.out;omega)]
   clear hq
   have HG1:=hideIt (HG.out q hq1)
   clear HG
   go_wp2_with (go_at_call 117;refine HG1.out.mono ?_;rintro e w1 ⟨a1,c1,rfl,hown1,hb1⟩;refine Hid.out ?_)
   refine (show ∀ {p:Prop},p→Hid p from fun h=>h) ?_
   clear HG1
   have HO1:=hideIt hown1
   clear hown1
   go_wp2
   go_loopw [6,27] (fun v i wr=>∃ (j m:Nat) (a':Option Addr) (c':Nat),j≤k∧i=.int .i64 (j:Int)∧v=.slice a' m c'∧Hid (m=pLenI (ps.take j))∧wr.ownsRow w.heap.size 3 1 (.slice a' m c') m (ic (pAllI (ps.take j)))∧Below w.heap.size w wr) (fun _ i _=>k - (intOf i).toNat)
   case atStart=>exact ⟨0,0,a1,c1,by omega,rfl,rfl,by show _=_;simp [pLenI],by simpa [pAllI,ic] using HO1.out,hb1⟩
   case round =>
    obtain ⟨j,m,a',c',hj,rfl,rfl,hm,hown,hb⟩:=hrel
    by_cases hlt2:j<k
    ·obtain ⟨p,hp⟩:∃ p,ps[j]?=some p:=⟨ps[j]'(by have:=HK.out;omega),List.getElem?_eq_getElem _⟩
     obtain ⟨c0,hes,hnil⟩:=HP.out.2 j p hp
     have c1:wr.cell? ⟨b,j,none⟩=some (.slice p.a p.m p.c):=by rw [hb.cell hbw];exact c0
     have HM:Hid (m+p.m=pLenI (ps.take (j+1))):=by show _=_;rw [take_snocF ps j p hp,pLenI_snoc,hm.out]
     have HA:Hid (ic (pAllI (ps.take (j+1)))=ic (pAllI (ps.take j)) ++ ic p.es):=by show _=_;rw [take_snocF ps j p hp,pAllI_snoc,ic_appC]
     have hmp:m+p.m≤3000000:=by have:=HM.out;have:=pLenI_take ps (j+1);have:=HL.out;omega
     have b1:(0:Int)≤(j:Int):=by omega
     have b2:(j:Int)<(k:Int):=by omega
     have hesw:=(hes.below hb (Nat.le_refl _)).mono hb.size
     have hl2:(ic p.es).length=p.m*1:=by rw [ic_len,hes.1,Nat.mul_one]
     obtain ⟨pa,pm,pc,pes⟩:=p
     dsimp only at *
     clear hm hp c0 hes
     cases pa with
     | none =>
      obtain ⟨rfl,rfl⟩:=hnil rfl
      have HO2:Hid (wr.ownsRow w.heap.size 3 1 (.slice a' m c') m (ic (pAllI (ps.take (j+1))))):=by
       have e0:pes=[]:=List.length_eq_zero_iff.1 hesw.1
       show World.ownsRow _ _ _ _ _ _ _
       rw [HA.out,e0]
       simpa [ic] using hown
      clear hnil
      go_wp2_with (at_builtin;refine wpList_append_own_none rfl _ _ 24 rfl w.heap.size 3 i0 1 Tryz.underlying24 hi _ _ _ rfl hown rfl ?_)
      exact ⟨⟨j+1,m,a',c',by omega,by go_num,rfl,HM,HO2.out,hb⟩,by simp [intOf];omega⟩
     | some ad =>
      have hnews:∀ q u,(ic pes)[q]?=some u→wr.cell? (ad.add q)=some u:=by
       rcases hesw.2 with h0 | ⟨bb,oo,hbb,_⟩
       ·intro q u hq
        have e0:pes=[]:=List.length_eq_zero_iff.1 (by rw [hesw.1];exact h0)
        rw [e0] at hq
        simp [ic] at hq
       ·simp at hbb
        subst hbb
        exact hesw.newsC
      clear hnil
      go_wp2_with (at_builtin;refine wpList_append_own _ rfl _ _ 24 rfl w.heap.size 3 i0 _ 1 8 Tryz.underlying24 hi hz0 hz1 hz2 rfl (by decide) _ _ _ rfl hown ad pm pc (ic pes) rfl hl2 hnews icOne (by unfold maxLen;omega) (by omega) hb.size ?_)
      intro v1 w1 hown1 hg1 hn1
      have hb1:Below w.heap.size w w1:=hb.grown hg1 hb.size (fun q hq=>(hown.lt q hq).1)
      rw [← HA.out] at hown1
      obtain ⟨a2,c2,rfl⟩:=own_form hown1
      have HO2:=hideIt hown1
      clear hown1 hown hg1 hn1 hnews
      go_wp2
      exact ⟨⟨j+1,m+pm,a2,c2,by omega,by go_num,rfl,HM,HO2.out,hb1⟩,by simp [intOf];omega⟩
    ·obtain rfl:j=k:=by omega
     have e:ps.take j=ps:=List.take_of_length_le (by have:=HK.out;omega)
     rw [e] at hown
     have HO2:=hideIt hown
     clear hown e hm
     go_wp2
     go_ret
     exact ⟨a',m,c',rfl,HO2.out,hb⟩
structure Bx (T:Prop):Prop where
 out:T
theorem viaT {T G:Prop} (main:Bx T→G) (p:T):G:=main ⟨p⟩
theorem hidp {p:Prop} (h:p):Hid p:=h
theorem lstH {P:Program} {md:Region.Mode} {ops:Array Oper} {Q:Exit→Go.Act→World→Prop} {S:World→Prop} {fuel:Nat} {l l':Array Bool} {a:Go.Act} {w:World} (h:l=l') (H:wpAnyH P md ops Q S fuel l' a w):wpAnyH P md ops Q S fuel l a w:=h ▸ H
theorem keepQ20 {u v:World} {bs:Nat} {x:Value} (h:u.cell? ⟨bs,0,none⟩=some x∧bs<u.heap.size) (hb:Below u.heap.size u v):v.cell? ⟨bs,0,none⟩=some x∧bs<v.heap.size:=by
 rw [hb.cell h.2]
 exact ⟨h.1,Nat.lt_of_lt_of_le h.2 hb.size⟩
theorem sl_nil {a:Option Addr} {n c:Nat} (h:O.Sl a n c):a=none→n=0∧c=0:=by
 intro ha
 rcases h.2.2 with ⟨_,h1,h2⟩ | ⟨b,off,hb⟩
 ·exact ⟨h1,h2⟩
 ·rw [ha] at hb;cases hb
theorem con1I20 (ls:List Int) (a:Option Addr) (n c:Nat) (hn:n≤3000000) (hn1:1≤n) (hz:a=none→n=0∧c=0) (b:Nat) (u:World) (hI:Is u u.heap.size a n ls) (hc:u.cell? ⟨b,0,none⟩=some (.slice a n c)∧b<u.heap.size) :
  Calls Tryz.prog 94 #[.slice (some ⟨b,0,none⟩) 1 1] u fun e v=>∃ g c,e=.returned (.slice (some ⟨g,0,none⟩) n c)∧v.ownsRow u.heap.size 3 1 (.slice (some ⟨g,0,none⟩) n c) n (ic ls)∧Below u.heap.size u v:=by
 have h:=ConcatI_any [⟨a,n,c,ls⟩] b 1 rfl (by omega) u ⟨hc.2,fun j p hp=>by
  cases j with
  | zero=>simp at hp;subst hp;exact ⟨hc.1,hI,hz⟩
  | succ j=>simp at hp⟩ (by simpa [pLenI] using hn)
 refine h.mono fun e v ⟨a',m,c',h1,h2,h3⟩=>?_
 have e0:pAllI [⟨a,n,c,ls⟩]=ls:=by simp [pAllI]
 rw [e0] at h2
 have hl:=h2.1
 rw [ic_len,hI.1] at hl
 have hm:m=n:=by omega
 subst hm
 rcases h2.2 with ⟨_,h0⟩ | ⟨g,cap,cur,hv,hr⟩
 ·omega
 ·simp at hv
  obtain ⟨rfl,rfl⟩:=hv
  exact ⟨g,c',h1,h2,h3⟩
theorem con1E20 (es:List O.EdgeV) (a:Option Addr) (n c:Nat) (hn:n≤3000000) (hz:a=none→n=0∧c=0) (b:Nat) (u:World) (hI:O.Es u u.heap.size a n es) (hc:u.cell? ⟨b,0,none⟩=some (.slice a n c)∧b<u.heap.size) :
  Calls Tryz.prog 107 #[.slice (some ⟨b,0,none⟩) 1 1] u fun e v=>∃ a c,e=.returned (.slice a n c)∧v.ownsRow u.heap.size 107 2 (.slice a n c) n (O.ecells es)∧Below u.heap.size u v:=by
 have h:=O.ConcatN_any [⟨a,n,c,es⟩] b 1 1 rfl (by omega) u ⟨hc.2,fun j p hp=>by
  cases j with
  | zero=>simp at hp;subst hp;exact ⟨hc.1,hI,hz⟩
  | succ j=>simp at hp⟩ (by simpa [O.pLen] using hn)
 refine h.mono fun e v ⟨a',m,c',h1,h2,h3⟩=>?_
 have e0:O.pAll [⟨a,n,c,es⟩]=es:=by simp [O.pAll]
 rw [e0] at h2
 have hl:=h2.1
 rw [O.ecells_length,hI.1] at hl
 have hm:m=n:=by omega
 subst hm
 exact ⟨a',c',h1,h2,h3⟩
theorem con1S20 (ss:List Sd) (a:Option Addr) (n c:Nat) (hn:n≤3000000) (hz:a=none→n=0∧c=0) (b:Nat) (u:World) (hI:Ss u u.heap.size a n ss) (hc:u.cell? ⟨b,0,none⟩=some (.slice a n c)∧b<u.heap.size) :
  Calls Tryz.prog 108 #[.slice (some ⟨b,0,none⟩) 1 1] u fun e v=>∃ a c,e=.returned (.slice a n c)∧v.ownsRow u.heap.size 82 6 (.slice a n c) n (scells ss)∧Below u.heap.size u v:=by
 have h:=ConcatS_any [⟨a,n,c,ss⟩] b 1 rfl (by omega) u ⟨hc.2,fun j p hp=>by
  cases j with
  | zero=>simp at hp;subst hp;exact ⟨hc.1,hI,hz⟩
  | succ j=>simp at hp⟩ (by simpa [pLenS] using hn)
 refine h.mono fun e v ⟨a',m,c',h1,h2,h3⟩=>?_
 have e0:pAllS [⟨a,n,c,ss⟩]=ss:=by simp [pAllS]
 rw [e0] at h2
 have hl:=h2.1
 rw [scells_length,hI.1] at hl
 have hm:m=n:=by omega
 subst hm
 exact ⟨a',c',h1,h2,h3⟩
structure CpB (w:World) (h:Hd) (p q:Hp) (x:World):Prop where
 c:BxA x (w.heap.size+1+1) 35 (hC h q)
 h:BxA x w.heap.size 35 (hC h p)
 z:BxA x (w.heap.size+1) 35 (hC zeroH zeroP)
 f:Below w.heap.size w x
section
variable {w x y:World} {h:Hd} {p q q':Hp}
theorem CpB.lt (k:CpB w h p q x):w.heap.size+3≤x.heap.size:=k.c.lt
theorem CpB.up (k:CpB w h p q x) (hb:Below x.heap.size x y):CpB w h p q y:=⟨k.c.up hb,k.h.up hb,k.z.up hb,k.f.trans (hb.mono k.f.size)⟩
theorem CpB.set (k:CpB w h p q x) (off:Nat) (v:Value) (e:(hC h q).setIfInBounds off v=hC h q'):CpB w h p q' (x.setCell ⟨w.heap.size+1+1,off,none⟩ v) :=
 ⟨by have:=k.c.set off v;rw [e] at this;exact this,k.h.setO v (by omega),k.z.setO v (by omega),Below.setCell k.f (p:=⟨w.heap.size+1+1,off,none⟩) (by show w.heap.size≤w.heap.size+1+1;omega) v⟩
theorem CpB.setOut (k:CpB w h p q x) (g off:Nat) (hg:w.heap.size+3≤g) (v:Value):CpB w h p q (x.setCell ⟨g,off,none⟩ v) :=
 ⟨k.c.setO v (by omega),k.h.setO v (by omega),k.z.setO v (by omega),Below.setCell k.f (p:=⟨g,off,none⟩) (by show w.heap.size≤g;omega) v⟩
theorem BxA.all15p {u:World} {b:Nat} {h:Hd} {p:Hp} (X:BxA u b 35 (hC h p)) :
  u.cell? ⟨b,0,none⟩=some (.int .i64 h.N)∧u.cell? ⟨b,1,none⟩=some (.slice p.o.a p.o.n p.o.c)∧u.cell? ⟨b,2,none⟩=some (.slice p.c.a p.c.n p.c.c)∧u.cell? ⟨b,3,none⟩=some (.slice p.l.a p.l.n p.l.c)∧u.cell? ⟨b,4,none⟩=some (.slice p.n.a p.n.n p.n.c)∧u.cell? ⟨b,5,none⟩=some (.int .i64 h.i)∧u.cell? ⟨b,6,none⟩=some (.int .i64 h.o)∧u.cell? ⟨b,7,none⟩=some (.int .i64 h.a)∧u.cell? ⟨b,8,none⟩=some (.int .i64 h.b)∧u.cell? ⟨b,9,none⟩=some (.int .i64 h.sh)∧u.cell? ⟨b,10,none⟩=some (.int .i64 h.num)∧u.cell? ⟨b,11,none⟩=some (.int .i64 h.op)∧u.cell? ⟨b,12,none⟩=some (.slice p.e.a p.e.n p.e.c)∧u.cell? ⟨b,13,none⟩=some (.int .i64 h.v)∧u.cell? ⟨b,14,none⟩=some (.slice p.s.a p.s.n p.s.c) :=
 ⟨X.cell 0 rfl,X.cell 1 rfl,X.cell 2 rfl,X.cell 3 rfl,X.cell 4 rfl,X.cell 5 rfl,X.cell 6 rfl,X.cell 7 rfl,X.cell 8 rfl,X.cell 9 rfl,X.cell 10 rfl,X.cell 11 rfl,X.cell 12 rfl,X.cell 13 rfl,X.cell 14 rfl⟩
end
structure HW (u:World) (lo:Nat) (h:Hd) (p:Hp) (R:List Rw):Prop where
 ow:HOwn u lo h p R
 sp:HSep p R
 ce:∀ b,p.c.v.ownBlock=some b→p.e.v.ownBlock≠some b
theorem HW.up {u v:World} {lo:Nat} {h:Hd} {p:Hp} {R:List Rw} (k:HW u lo h p R) (hb:Below u.heap.size u v):HW v lo h p R:=⟨k.ow.up hb,k.sp,k.ce⟩
theorem HW.low {u:World} {lo lo':Nat} {h:Hd} {p:Hp} {R:List Rw} (k:HW u lo h p R) (hl:lo'≤lo):HW u lo' h p R:=⟨k.ow.low hl,k.sp,k.ce⟩
theorem HW.re {S:Nat} {u:World} {lo:Nat} {h:Hd} {p:Hp} {R:List Rw} (k:HW u lo h p R) (hi:HInv S h):HR S u h p :=
 ⟨hi,k.ow.inn,O.Sl_of_own k.ow.o,O.Sl_of_own k.ow.c,O.Sl_of_own k.ow.l.own,O.Sl_of_own k.ow.n,O.Sl_of_own k.ow.e,O.Sl_of_own k.ow.s⟩
theorem BxA.range {w:World} {b:Nat} {t:TypeId} {l:List Value} (h:BxA w b t l.toArray):w.rangeAt b 0 l:=fun j v hv=>by
 rw [Nat.zero_add];exact h.at j hv
theorem BxA.there {w:World} {b:Nat} {t:TypeId} {l:List Value} (h:BxA w b t l.toArray) {n:Nat} (hn:n≤l.length):w.there b 0 n:=fun j hj=>by
 rw [Nat.zero_add]
 exact ⟨by rw [h.at j (List.getElem?_eq_getElem (by omega))];rfl,h.frozen j⟩
theorem setCells_setA (b:Nat) (vs:List Value):∀ (w:World) (k:Nat),w.setCells b k vs=setA w b k vs:=by
 induction vs with
 | nil=>intro w k;rfl
 | cons v r ih=>intro w k;rw [World.setCells,setA];exact ih _ _
theorem results_box {P:Program} {fn:Func} {tmps:Array Value} {w:World} {a x:Nat} {t:TypeId} {b:Nat} {l:List Value} {v:Value}
  (hr:fn.results=#[.cell a t,.tmp x]) (ha:tmps[a]?.getD undef=.pointer (some ⟨b,0,none⟩)) (hx:tmps[x]?.getD undef=v)
  (hB:BxA w b t l.toArray) (hu:∃ d,P.underlying t=some d∧d.isRow=true) (hi:(P.info? t).map (·.size)=some l.length):(results fn tmps).run P w=.ok (.tuple #[.agg l.toArray,v]) w:=by
 obtain ⟨d,hu,hd⟩:=hu
 have hl:=run_loadVar_mid (P:=P) w b 0 t l d hB.range hu hd hi
 have e1:(asAddr (Value.pointer (some ⟨b,0,none⟩))).run P w=.ok ⟨b,0,none⟩ w:=rfl
 unfold results
 rw [hr]
 simp [ha,hx,hl,e1,Sem.run_bind,Result.andThen_ok]
abbrev hLs (h:Hd) (p:Hp):List Value:=[.int .i64 h.N,p.o.v,p.c.v,p.l.v,p.n.v,.int .i64 h.i,.int .i64 h.o,.int .i64 h.a,.int .i64 h.b,.int .i64 h.sh,.int .i64 h.num,.int .i64 h.op,p.e.v,.int .i64 h.v,p.s.v]
theorem setA_gr (w:World) (b:Nat):∀ (vs:List Value) (k:Nat) (u:World),w.grownBy u (some b)→w.grownBy (setA u b k vs) (some b)
 | [],_,_,h=>h
 | v :: vs,k,u,h=>by
  rw [setA]
  refine setA_gr w b vs (k+1) _ ?_
  have hs:=grownSet u b k v
  exact ⟨hs.os.trans h.os,hs.tape.trans h.tape,hs.output.trans h.output,Nat.le_trans h.size hs.size,fun j hj hne=>(hs.block j (Nat.lt_of_lt_of_le hj h.size) hne).trans (h.block j hj hne)⟩
theorem gr_self (w:World) (row:Option Nat):w.grownBy w row:=⟨rfl,rfl,rfl,Nat.le_refl _,fun _ _ _=>rfl⟩
theorem wp_loadH {op:Oper} {a:Act} {w:World} {K:Act→World→Prop} {Q:Exit→Act→World→Prop} {x:Operand} {b:Nat} {h:Hd} {p:Hp} (X:BxA w b 35 (hC h p)) (ho:op.op=.load 35 x) (hx:a.eval x=.pointer (some ⟨b,0,none⟩)) (k:K (a.put op.dst (.agg (hC h p))) w):op.wp Tryz.prog a w K Q :=
 wp_load_mid 35 x ho b 0 hx (hLs h p) _ (BxA.range X) Tryz.underlying35 rfl (by kernel_rfl) k
theorem wp_storeH {op:Oper} {a:Act} {w:World} {K:Act→World→Prop} {Q:Exit→Act→World→Prop} {x y:Operand} {b:Nat} {h0 h:Hd} {p0 p:Hp} (X:BxA w b 35 (hC h0 p0)) (ho:op.op=.store 35 x y) (hx:a.eval x=.pointer (some ⟨b,0,none⟩)) (hy:a.eval y=.agg (hC h p))
  (k:∀ w',BxA w' b 35 (hC h p)→w.grownBy w' (some b)→w'.heap.size=w.heap.size→K (a.put op.dst undef) w'):op.wp Tryz.prog a w K Q:=by
 refine wp_store_mid 35 x y ho b 0 (hC h p) hx hy ?_ (by kernel_rfl) (by kernel_rfl) ?_
 ·exact BxA.there (l:=(hLs h0 p0)) X (by show 15≤15;omega)
 ·rw [setCells_setA]
  have q:=BxA.setA (l:=(hLs h0 p0)) X 0 (hLs h p)
  rw [setV_all (hLs h0 p0) (hLs h p) rfl] at q
  exact k _ q (setA_gr w b _ 0 w (gr_self w _)) (size_setA _ _)
theorem results_H1 {fn:Func} {tmps:Array Value} {w:World} {a b:Nat} {h:Hd} {p:Hp} (hr:fn.results=#[.cell a 35]) (ha:tmps[a]?.getD undef=.pointer (some ⟨b,0,none⟩)) (X:BxA w b 35 (hC h p)):(results fn tmps).run Tryz.prog w=.ok (.agg (hC h p)) w:=by
 have hl:=run_loadVar_mid (P:=Tryz.prog) w b 0 35 (hLs h p) _ (BxA.range X) Tryz.underlying35 rfl (by kernel_rfl)
 have e1:(asAddr (Value.pointer (some ⟨b,0,none⟩))).run Tryz.prog w=.ok ⟨b,0,none⟩ w:=rfl
 unfold results
 rw [hr]
 simp [ha,hl,e1,Sem.run_bind,Result.andThen_ok]
theorem results_H2 {fn:Func} {tmps:Array Value} {w:World} {a x b:Nat} {h:Hd} {p:Hp} {v:Value} (hr:fn.results=#[.cell a 35,.tmp x]) (ha:tmps[a]?.getD undef=.pointer (some ⟨b,0,none⟩)) (hx:tmps[x]?.getD undef=v) (X:BxA w b 35 (hC h p)):(results fn tmps).run Tryz.prog w=.ok (.tuple #[.agg (hC h p),v]) w :=
 results_box (l:=(hLs h p)) hr ha hx X ⟨_,Tryz.underlying35,rfl⟩ (by kernel_rfl)
theorem own_grB {u v:World} {B e s n b:Nat} {x:Value} {xs:List Value} (h:u.ownsRow B e s x n xs) (hg:u.grownBy v (some b)) (hb:b<B):v.ownsRow B e s x n xs :=
 World.ownsRow.kept h hg (.inr (fun e=>by have:=(h.lt b e).1;omega))
theorem FB.grB {u v:World} {lo:Nat} {a:Option Addr} {n c b:Nat} {R:List Rw} (h:FB u lo u.heap.size a n c R) (hg:u.grownBy v (some b)) (hb:b<lo):FB v lo v.heap.size a n c R :=
 ⟨h.len,own_grB h.own hg hb,fun g hx=>Nat.lt_of_lt_of_le (h.row g hx) hg.size,Nat.le_refl _,fun r hr=>by
  have:=h.ins r hr
  have h2:=this.1.grown hg (fun e=>by have:=Option.some.inj e;omega)
  exact ⟨h2,this.2.1,h2.lt⟩,h.nod⟩
theorem HW.grB {u v:World} {lo:Nat} {h:Hd} {p:Hp} {R:List Rw} {b:Nat} (k:HW u lo h p R) (hg:u.grownBy v (some b)) (hb:b<lo):HW v lo h p R :=
 ⟨⟨own_grB k.ow.o hg hb,own_grB k.ow.c hg hb,k.ow.l.grB hg hb,k.ow.r,own_grB k.ow.n hg hb,own_grB k.ow.e hg hb,own_grB k.ow.s hg hb⟩,k.sp,k.ce⟩
theorem below_grB {w u v:World} {C b:Nat} (h:Below C w u) (hg:u.grownBy v (some b)) (hb:C≤b) (hC:C≤w.heap.size):Below C w v :=
 ⟨hg.os.trans h.os,hg.tape.trans h.tape,hg.output.trans h.output,Nat.le_trans h.size hg.size,fun j hj=>(hg.block j (Nat.lt_of_lt_of_le (Nat.lt_of_lt_of_le hj hC) h.size) (fun e=>by have:=Option.some.inj e;omega)).trans (h.block j hj)⟩
end Go.Proofs.YtnagchanokbgdaaGreat
