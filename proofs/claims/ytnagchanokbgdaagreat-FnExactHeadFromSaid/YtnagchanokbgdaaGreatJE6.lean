/- Busy, and the place of what is said, on both sides. The program's HeadNew. Heads that records lead to, and what a question makes of them. The program's HeadNew, the specification's. The program's look at a head that records lead to: its shards, owners, cuts, what it has said, its task. Lists of edges in memory; what the drawn laws of chapter 6 have of chapter 5. -/
import Derived.Test.YtnagchanokbgdaaGreatJHj13
import Derived.Test.YtnagchanokbgdaaGreatJUn11
import Derived.Deep.AppendLies
import Derived.Test.YtnagchanokbgdaaGreatJRd10
import Derived.Test.YtnagchanokbgdaaGreatJSq1
import Derived.Test.YtnagchanokbgdaaGreatJLawB10
import Derived.Test.YtnagchanokbgdaaGreatJCon11
import Derived.Test.YtnagchanokbgdaaGreatJVerts
namespace Go.Proofs.YtnagchanokbgdaaGreat
open Go.RowKit
def sdP (ss:List Sd) (id:Int) (k:Nat):Bool:=match ss[k]? with | some x=>(x.id == id) | none=>false
theorem sdP_at {ss:List Sd} {id:Int} {k:Nat} {x:Sd} (h:ss[k]?=some x):sdP ss id k=(x.id == id):=by simp [sdP,h]
def plc (ss:List Sd) (id:Int):Int:=firstN (sdP ss id) ss.length
set_option maxRecDepth 100000 in
set_option maxHeartbeats 2000000 in
theorem iBusy_any (h:Hd) (p:Hp) (w:World):Calls Tryz.prog 91 #[.agg (hC h p)] w fun e w'=>e=.returned (.bool (h.sh != 0))∧Below w.heap.size w w':=by
 obtain ⟨N,own,cuts,lab,nums,i,o,a,b,sh,num,op,es,v,said⟩:=h
 obtain ⟨⟨a1,n1,c1⟩,⟨a2,n2,c2⟩,⟨a3,n3,c3⟩,⟨a4,n4,c4⟩,⟨a5,n5,c5⟩,⟨a6,n6,c6⟩⟩:=p
 dsimp only [hC,Sx.v]
 go_enter Tryz.func91,Tryz.ntmps91
 go_wp2
 go_ret
 exact ⟨rfl,belA _ _⟩
set_option maxRecDepth 100000 in
set_option maxHeartbeats 2000000 in
theorem sBusy_any (h:Hd) (p:Hp) (w:World):Calls Tryz.prog 48 #[.agg (hC h p)] w fun e w'=>e=.returned (.bool (h.sh != 0))∧Below w.heap.size w w':=by
 obtain ⟨N,own,cuts,lab,nums,i,o,a,b,sh,num,op,es,v,said⟩:=h
 obtain ⟨⟨a1,n1,c1⟩,⟨a2,n2,c2⟩,⟨a3,n3,c3⟩,⟨a4,n4,c4⟩,⟨a5,n5,c5⟩,⟨a6,n6,c6⟩⟩:=p
 dsimp only [hC,Sx.v]
 go_enter Tryz.func48,Tryz.ntmps48
 go_wp2
 go_ret
 exact ⟨rfl,belA _ _⟩
theorem saidIt_any (x:Sd) (id:Int) (B:Nat) (w:World) (hB:w.cell? ⟨B,0,none⟩=some (.int .i64 id)) (hl:B<w.heap.size) :
  Calls Tryz.prog 132 #[sdV x,.pointer (some ⟨B,0,none⟩)] w fun e w'=>e=.returned (.bool (x.id == id))∧Below w.heap.size w w':=by
 obtain ⟨xid,i,o,a,b,s⟩:=x
 dsimp only [sdV]
 go_enter Tryz.func132,Tryz.ntmps132
 go_wp2
 go_ret
 exact ⟨rfl,belA _ _⟩
set_option maxRecDepth 100000 in
set_option maxHeartbeats 2000000 in
theorem idxFS_any (ss:List Sd) (id:Int) (n:Nat) (a:Option Addr) (c:Nat) (hn:n≤1048576) (B:Nat) (w:World) (h:Ss w w.heap.size a n ss) (hB:w.cell? ⟨B,0,none⟩=some (.int .i64 id)) (hl:B<w.heap.size) :
  Calls Tryz.prog 131 #[.slice a n c,.func (.func 132) #[] #[.pointer (some ⟨B,0,none⟩)]] w fun e w'=>e=.returned (.int .i64 (plc ss id))∧Below w.heap.size w w':=by
 have HC:=hideIt (fun x u (hu:Below w.heap.size w u)=>saidIt_any x id B u (by rw [hu.cell (p:=⟨B,0,none⟩) hl];exact hB) (by have:=hu.size;omega))
 have hlen:=h.1
 have HR:=hideIt h
 clear h hB
 go_enter Tryz.func131,Tryz.ntmps131
 go_wp2
 go_loopw [8] (fun i wr=>∃ (k:Nat),k≤n∧i=.int .i64 (k:Int)∧Hid (∀ j,j<k→sdP ss id j=false)∧Hid (Below w.heap.size w wr)) (fun i _=>n - (intOf i).toNat)
 case atStart=>exact ⟨0,by omega,rfl,fun j hj=>by omega,Below.refl _ _⟩
 case round =>
  obtain ⟨k,hk,rfl,HF,HB⟩:=hrel
  by_cases hlt:k<n
  ·obtain ⟨b1,off,x,rfl,_,hx,hat⟩:=(HR.out.below HB.out (Nat.le_refl _)).at hlt
   obtain ⟨e0,e1,e2,e3,e4,e5⟩:=hat
   have q1:(0:Int)≤(k:Int):=by omega
   have q2:(k:Int)<(n:Int):=by omega
   have HC1:=hideIt (HC.out x wr HB.out)
   have hcf:=sdP_at (id:=id) hx
   cases hv:(x.id == id) with
   | true =>
    rw [hv] at HC1 hcf
    have hm:=hideIt (show plc ss id=(k:Int) from firstN_yes (by omega) hcf HF.out)
    clear hx hv HF hcf HC
    go_wp2_with (go_at_call 132;refine HC1.out.mono ?_;rintro e w1 ⟨rfl,hb⟩)
    go_ret
    exact ⟨retI hm.out,HB.out.trans (hb.mono HB.out.size)⟩
   | false =>
    rw [hv] at HC1 hcf
    have HF2:=hideIt (all_step HF.out hcf)
    clear hx hv HF hcf HC
    go_wp2_with (go_at_call 132;refine HC1.out.mono ?_;rintro e w1 ⟨rfl,hb⟩)
    exact ⟨⟨k+1,by omega,by go_num,HF2,HB.out.trans (hb.mono HB.out.size)⟩,by simp [intOf];omega⟩
  ·obtain rfl:k=n:=by omega
   have hm:=hideIt (show plc ss id = -1 from firstN_no (by rw [hlen];exact HF.out))
   clear HF
   go_wp2
   go_ret
   exact ⟨retI hm.out,HB.out⟩
theorem placeSaid_any (ss:List Sd) (id:Int) (n:Nat) (a:Option Addr) (c:Nat) (hn:n≤1048576) (w:World) (h:Ss w w.heap.size a n ss) :
  Calls Tryz.prog 109 #[.slice a n c,.int .i64 id] w fun e w'=>e=.returned (.int .i64 (plc ss id))∧Below w.heap.size w w':=by
 have hb:=belA w (.cells #[.int .i64 id] 3)
 have HI:=hideIt (idxFS_any ss id n a c hn w.heap.size (w.alloc (.cells #[.int .i64 id] 3)) (h.up hb) (by simp) (by simp))
 clear h
 go_enter Tryz.func109,Tryz.ntmps109
 go_wp2_with (go_at_call 131;refine HI.out.mono ?_;rintro e w1 ⟨rfl,hb1⟩)
 go_ret
 exact ⟨rfl,hb.trans (hb1.mono (by simp))⟩
set_option maxRecDepth 100000 in
set_option maxHeartbeats 4000000 in
theorem l12Said_any (h:Hd) (p:Hp) (id:Int) (hn:p.s.n≤1048576) (w:World) (k:Ss w w.heap.size p.s.a p.s.n h.said) :
  Calls Tryz.prog 47 #[.agg (hC h p),.int .i64 id] w fun e w'=>e=.returned (.int .i64 (plc h.said id))∧Below w.heap.size w w':=by
 have hb0:=belA w (.cells (hC h p) 35)
 have X0:=BxA.new w 35 (hC h p)
 obtain ⟨N,own,cuts,lab,nums,i,o,a,b,sh,num,op,es,v,said⟩:=h
 obtain ⟨⟨a1,n1,c1⟩,⟨a2,n2,c2⟩,⟨a3,n3,c3⟩,⟨a4,n4,c4⟩,⟨a5,n5,c5⟩,⟨a6,n6,c6⟩⟩:=p
 dsimp only [hC,Sx.v] at *
 have hlen:=k.1
 have HR:=hideIt (k.up hb0)
 have x14:=X0.cell 14 rfl
 have HB:=hideIt hb0
 obtain ⟨W,hW⟩:∃ W,W=w.alloc (.cells #[.int .i64 N,.slice a1 n1 c1,.slice a2 n2 c2,.slice a3 n3 c3,.slice a4 n4 c4,.int .i64 i,.int .i64 o,.int .i64 a,.int .i64 b,.int .i64 sh,.int .i64 num,.int .i64 op,.slice a5 n5 c5,.int .i64 v,.slice a6 n6 c6] 35):=⟨_,rfl⟩
 rw [← hW] at HR x14 HB
 clear k hb0 X0
 go_enter Tryz.func47,Tryz.ntmps47
 go_upto_region 1 with fail
 rw [← hW]
 clear hW
 go_wp2
 go_loopw [5] (fun i wr=>∃ (k:Nat),k≤n6∧i=.int .i64 (k:Int)∧Hid (∀ j,j<k→sdP said id j=false)∧wr=W) (fun i _=>n6 - (intOf i).toNat)
 case atStart=>exact ⟨0,by omega,rfl,fun j hj=>by omega,rfl⟩
 case round =>
  obtain ⟨k,hk,rfl,HF,hw⟩:=hrel
  have hw':=hw.symm
  subst hw'
  clear hw
  by_cases hlt:k<n6
  ·obtain ⟨b1,off,x,rfl,_,hx,hat⟩:=HR.out.at hlt
   obtain ⟨e0,e1,e2,e3,e4,e5⟩:=hat
   have q1:(0:Int)≤(k:Int):=by omega
   have q2:(k:Int)<(n6:Int):=by omega
   have hcf:=sdP_at (id:=id) hx
   cases hv:(x.id == id) with
   | true =>
    rw [hv] at hcf
    have hm:=hideIt (show plc said id=(k:Int) from firstN_yes (by omega) hcf HF.out)
    clear hx HF hcf
    go_wp2
    go_ret
    exact ⟨retI hm.out,HB.out⟩
   | false =>
    rw [hv] at hcf
    have HF2:=hideIt (all_step HF.out hcf)
    clear hx HF hcf
    go_wp2
    exact ⟨⟨k+1,by omega,by go_num,HF2,by first | trivial | rfl⟩,by simp [intOf];omega⟩
  ·obtain rfl:k=n6:=by omega
   have hm:=hideIt (show plc said id = -1 from firstN_no (by rw [hlen];exact HF.out))
   clear HF
   go_wp2
   go_ret
   exact ⟨retI hm.out,HB.out⟩
def ownL (sh n:Nat):List Int:=(List.range n).map fun v:Nat=>1+(v:Int).tmod (sh:Int)
theorem ownL_succ (sh n:Nat):ownL sh (n+1)=ownL sh n ++ [1+(n:Int).tmod (sh:Int)]:=by simp [ownL,List.range_succ]
theorem ownL_len (sh n:Nat):(ownL sh n).length=n:=by simp [ownL]
def newH (nn sh:Nat):Hd:=⟨(nn:Int),ownL sh nn,[],List.replicate sh (O.labs [] nn nn),List.replicate sh 0,0,0,0,0,0,0,0,[],0,[]⟩
def zeroH:Hd:=⟨0,[],[],[],[],0,0,0,0,0,0,0,[],0,[]⟩
abbrev nilS:Sx:=⟨none,0,0⟩
def zeroP:Hp:=⟨nilS,nilS,nilS,nilS,nilS,nilS⟩
abbrev hnC (N:Int) (aO:Option Addr) (v cO:Nat) (aL:Option Addr) (k cL:Nat) (aN:Option Addr) (sh:Nat):Array Value:=#[.int .i64 N,.slice aO v cO,.slice none 0 0,.slice aL k cL,.slice aN sh sh,.int .i64 0,.int .i64 0,.int .i64 0,.int .i64 0,.int .i64 0,.int .i64 0,.int .i64 0,.slice none 0 0,.int .i64 0,.slice none 0 0]
theorem BxA.grown {u v:World} {b:Nat} {t:TypeId} {cs:Array Value} {row:Option Nat} (h:BxA u b t cs) (hg:u.grownBy v row) (hr:row≠some b):BxA v b t cs:=by
 unfold BxA
 rw [hg.block b h.lt (fun e=>hr e.symm)]
 exact h
theorem rowsNe {w:World} {B B' S S' n n':Nat} {e e':TypeId} {v v':Value} {xs xs':List Value} (h:w.ownsRow B e S v n xs) (h':w.ownsRow B' e' S' v' n' xs') (hne:e≠e') (g:Nat) (hg:v.ownBlock=some g):v'.ownBlock≠some g:=by
 intro hg'
 rcases h.2 with ⟨rfl,_⟩ | ⟨g1,_,_,rfl,_,h1,_⟩
 ·simp [Value.ownBlock] at hg
 ·rcases h'.2 with ⟨rfl,_⟩ | ⟨g2,_,_,rfl,_,h2,_⟩
  ·simp [Value.ownBlock] at hg'
  ·simp [Value.ownBlock] at hg hg'
   subst hg
   subst hg'
   rw [h1] at h2
   simp at h2
   exact hne h2.2
structure HN (w:World) (nn sh k:Nat) (aL:Option Addr) (cL:Nat) (R:List Rw) (v:Nat) (aO:Option Addr) (cO:Nat) (u:World):Prop where
 rs:BxA u w.heap.size 35 (hnC 0 none 0 0 none 0 0 none 0)
 hb:BxA u (w.heap.size+1+1) 35 (hnC (nn:Int) aO v cO aL k cL (some ⟨w.heap.size+1,0,none⟩) sh)
 nu:u.ownsRow (w.heap.size+1) 3 1 (.slice (some ⟨w.heap.size+1,0,none⟩) sh sh) sh (ic (List.replicate sh 0))
 fb:FB u (w.heap.size+3) u.heap.size aL k cL R
 rt:rts R=List.replicate k (O.labs [] nn nn)
 ow:u.ownsRow (w.heap.size+3) 3 1 (.slice aO v cO) v (ic (ownL sh v))
 ne:∀ r ∈ R,(Value.slice aO v cO).ownBlock≠some r.g
 bl:Below w.heap.size w u
section
variable {w:World} {nn sh k:Nat} {aL:Option Addr} {cL:Nat} {R:List Rw} {v:Nat} {aO:Option Addr} {cO:Nat} {u u':World}
theorem HN.lt (h:HN w nn sh k aL cL R v aO cO u):w.heap.size+3≤u.heap.size:=h.hb.lt
theorem HN.up (h:HN w nn sh k aL cL R v aO cO u) (b:Below u.heap.size u u'):HN w nn sh k aL cL R v aO cO u':=⟨h.rs.up b,h.hb.up b,own_up h.nu b,h.fb.keep b,h.rt,own_up h.ow b,h.ne,h.bl.trans (b.mono h.bl.size)⟩
theorem HN.drew (h:HN w nn sh k aL cL R v aO cO u):HN w nn sh k aL cL R v aO cO u.drew:=h.up (Below.refl _ _).drew
theorem HN.boxL (h:HN w nn sh k aL cL R v aO cO u) {o:Obj} (hg:(u.alloc o).grownBy u' (Value.slice aL k cL).ownBlock):BxA u' (w.heap.size+1+1) 35 (hnC (nn:Int) aO v cO aL k cL (some ⟨w.heap.size+1,0,none⟩) sh) :=
 (h.hb.up (belA _ _)).grown hg fun e=>by have:=(h.fb.own.lt _ e).1;omega
theorem HN.boxO (h:HN w nn sh k aL cL R v aO cO u) {o:Obj} (hg:(u.alloc o).grownBy u' (Value.slice aO v cO).ownBlock):BxA u' (w.heap.size+1+1) 35 (hnC (nn:Int) aO v cO aL k cL (some ⟨w.heap.size+1,0,none⟩) sh) :=
 (h.hb.up (belA _ _)).grown hg fun e=>by have:=(h.ow.lt _ e).1;omega
theorem newsH (w:World) (x:Value):∀ j u,([x]:List Value)[j]?=some u→(w.alloc (.cells #[x] 24)).cell? ((⟨w.heap.size,0,none⟩:Addr).add j)=some u:=by
 intro j u hj
 rcases j with _ | j
 ·simp at hj;subst hj;simp [Addr.add]
 ·simp at hj
theorem HN.lab (h:HN w nn sh k aL cL R v aO cO u) {r:Rw} (hr:RwB u r) (hl:w.heap.size+3≤r.g) (hne:∀ x ∈ R,x.g≠r.g) (hno:(Value.slice aO v cO).ownBlock≠some r.g) (ht:r.t=O.labs [] nn nn) {o:Obj} {g c:Nat}
  (ho:u'.ownsRow (w.heap.size+3) 24 1 (.slice (some ⟨g,0,none⟩) (k+1) c) (k+1) (rhs R ++ [r.hdr])) (hg:(u.alloc o).grownBy u' (Value.slice aL k cL).ownBlock) :
  HN w nn sh (k+1) (some ⟨g,0,none⟩) c (R ++ [r]) v aO cO (u'.setCell ⟨w.heap.size+1+1,3,none⟩ (.slice (some ⟨g,0,none⟩) (k+1) c)):=by
 obtain ⟨a7,c7,e7,F7⟩:=h.fb.app hr hl hne ho hg
 simp at e7
 obtain ⟨rfl,rfl⟩:=e7
 have hlt:=h.lt
 have bA:Below u.heap.size u (u.alloc o):=belA _ _
 have row:∀ {b:Nat},(Value.slice aL k cL).ownBlock=some b→w.heap.size+3≤b:=fun e=>(h.fb.own.lt _ e).1
 have n0:(Value.slice aL k cL).ownBlock≠some w.heap.size:=fun e=>by have:=row e;omega
 have n1:(Value.slice aL k cL).ownBlock≠some (w.heap.size+1+1):=fun e=>by have:=row e;omega
 have n2:(Value.slice aL k cL).ownBlock≠some (w.heap.size+1):=fun e=>by have:=row e;omega
 have q1:=(h.hb.up bA).grown hg n1
 refine ⟨(((h.rs.up bA).grown hg n0).setO _ (by omega)),q1.set 3 _,?_,?_,?_,?_,?_,?_⟩
 ·exact own_setOther (World.ownsRow.kept (own_up h.nu bA) hg (.inr fun e=>n2 e.symm)) _ _ _ (by omega)
 ·exact (F7.setLow (by omega) 3 _).hi (by simp [World.setCell]) (by simp [World.setCell])
 ·rw [rts_snoc,h.rt,ht,List.replicate_succ']
 ·refine own_lowA (World.ownsRow.kept (own_up h.ow bA) hg ?_) (by omega)
  cases hb:(Value.slice aO v cO).ownBlock with
  | none=>exact .inl rfl
  | some b=>exact .inr fun e=>rowsNe h.ow h.fb.own (by decide) b hb e.symm
 ·intro x hx
  rcases List.mem_append.1 hx with hx | hx
  ·exact h.ne x hx
  ·simp at hx
   subst hx
   exact hno
 ·have b2:Below w.heap.size w (u.alloc o):=h.bl.alloc h.bl.size o
  exact (b2.grown hg (by simp;omega) (fun j hj=>by have:=row hj;omega)).setCell (p:=⟨w.heap.size+1+1,3,none⟩) (by show w.heap.size≤w.heap.size+1+1;omega) _
theorem HN.own (h:HN w nn sh k aL cL R v aO cO u) {o:Obj} {g c:Nat} (ho:u'.ownsRow (w.heap.size+3) 3 1 (.slice (some ⟨g,0,none⟩) (v+1) c) (v+1) (ic (ownL sh v) ++ [.int .i64 (1+(v:Int).tmod (sh:Int))])) (hg:(u.alloc o).grownBy u' (Value.slice aO v cO).ownBlock)
  (hG:(Value.slice aO v cO).ownBlock=some g∨g=u.heap.size+1) :
  HN w nn sh k aL cL R (v+1) (some ⟨g,0,none⟩) c (u'.setCell ⟨w.heap.size+1+1,1,none⟩ (.slice (some ⟨g,0,none⟩) (v+1) c)):=by
 have hlt:=h.lt
 have bA:Below u.heap.size u (u.alloc o):=belA _ _
 have row:∀ {b:Nat},(Value.slice aO v cO).ownBlock=some b→w.heap.size+3≤b:=fun e=>(h.ow.lt _ e).1
 have n0:(Value.slice aO v cO).ownBlock≠some w.heap.size:=fun e=>by have:=row e;omega
 have n1:(Value.slice aO v cO).ownBlock≠some (w.heap.size+1+1):=fun e=>by have:=row e;omega
 have n2:(Value.slice aO v cO).ownBlock≠some (w.heap.size+1):=fun e=>by have:=row e;omega
 have F1:=h.fb.keep bA
 have F2:FB u' (w.heap.size+3) u'.heap.size aL k cL R:=by
  refine ⟨F1.len,World.ownsRow.kept F1.own hg ?_,fun g hg2=>Nat.lt_of_lt_of_le (F1.row g hg2) hg.size,Nat.le_refl _,fun r hr=>?_,F1.nod⟩
  ·cases hb:(Value.slice aL k cL).ownBlock with
   | none=>exact .inl rfl
   | some b=>exact .inr fun e=>rowsNe F1.own (own_up h.ow bA) (by decide) b hb e.symm
  ·have:=F1.ins r hr
   have h2:=this.1.grown hg (h.ne r hr)
   exact ⟨h2,this.2.1,h2.lt⟩
 refine ⟨(((h.rs.up bA).grown hg n0).setO _ (by omega)),((h.hb.up bA).grown hg n1).set 1 _,?_,?_,h.rt,?_,?_,?_⟩
 ·exact own_setOther (World.ownsRow.kept (own_up h.nu bA) hg (.inr fun e=>n2 e.symm)) _ _ _ (by omega)
 ·exact (F2.setLow (by omega) 1 _).hi (by simp [World.setCell]) (by simp [World.setCell])
 ·rw [ownL_succ,ic_snoc]
  exact own_lowA ho (by omega)
 ·intro r hr e
  have e:g=r.g:=by simpa [Value.ownBlock] using e
  rcases hG with h1 | h1
  ·exact h.ne r hr (by rw [h1,e])
  ·have:=(h.fb.ins r hr).2.2
   omega
 ·have b2:Below w.heap.size w (u.alloc o):=h.bl.alloc h.bl.size o
  exact (b2.grown hg (by simp;omega) (fun j hj=>by have:=row hj;omega)).setCell (p:=⟨w.heap.size+1+1,1,none⟩) (by show w.heap.size≤w.heap.size+1+1;omega) _
end
def ctB (h:Hd):Bool:=h.cuts.all fun e=>!(O.atI h.own e.1 == O.atI h.own e.2)
def rgB (N:Int) (S:Nat) (o a b:Int):Bool:=decide (0≤a∧a<N∧((o=4∧1≤b∧b≤(S:Int))∨((o=1∨o=2∨o=3)∧0≤b∧b<N∧(o=3∨a≠b))))
def SdOk (ss:List Sd):Prop:=∀ (k:Nat) (x:Sd),ss[k]?=some x→x.id=x.i∧(1≤x.s∧x.s≤3)∧plc ss x.id=(k:Int)
structure TkB (S:Nat) (h:Hd):Prop where
 sh:1≤h.sh∧h.sh≤(S:Int)
 or:O.oB h.N ⟨h.num,h.op,h.es,h.v⟩=true
 nu:h.num=O.atI h.nums (h.sh - 1)+1
 pl:plc h.said h.i = -1
 rg:rgB h.N S h.o h.a h.b=true
 o3:h.o≠3
 id:1≤h.i∧h.i≤100000
 ln:h.said.length≤79
 op:(h.o≠4∧h.op≠4)∨(h.o=4∧(h.op=3∨h.op=4))
def TkZ (h:Hd):Prop:=h.sh=0∧h.i=0∧h.o=0∧h.a=0∧h.b=0∧h.num=0∧h.op=0∧h.es=[]∧h.v=0
structure HInv (S:Nat) (h:Hd):Prop where
 n:1≤h.N∧h.N≤12
 s:1≤S∧S≤3
 own:(h.own.length:Int)=h.N∧∀ x ∈ h.own,1≤x∧x≤(S:Int)
 cut:O.eOk h.N h.cuts=true
 lab:h.lab.length=S∧∀ l ∈ h.lab,O.lB h.N l=true
 num:h.nums.length=S∧∀ x ∈ h.nums,0≤x∧x≤2*(h.said.length:Int)+(if h.op=4 then 1 else 0)
 sd:h.said.length≤80∧SdOk h.said
 tk:TkZ h∨TkB S h
theorem atI_mem {ls:List Int} {v:Int} (h0:0≤v) (h1:v<(ls.length:Int)):O.atI ls v ∈ ls∧ls[v.toNat]?=some (O.atI ls v):=by
 have hl:v.toNat<ls.length:=by omega
 have e:O.atI ls v=ls[v.toNat]:=by unfold O.atI;simp [List.getD,hl]
 rw [e]
 exact ⟨List.getElem_mem hl,List.getElem?_eq_getElem hl⟩
theorem plc_none {ss:List Sd} {id:Int} (h:plc ss id = -1):∀ (k:Nat) (x:Sd),ss[k]?=some x→(x.id == id)=false:=by
 intro k x hx
 rcases firstN_cases (sdP ss id) ss.length with ⟨q,hq,hc,_,he⟩ | ⟨hn,_⟩
 ·have he':plc ss id=(q:Int):=he
  omega
 ·have:=hn k (List.getElem?_eq_some_iff.1 hx).1
  rwa [sdP_at hx] at this
theorem plc_cases (ss:List Sd) (id:Int):plc ss id = -1∨∃ k:Nat,k<ss.length∧plc ss id=(k:Int):=by
 rcases firstN_cases (sdP ss id) ss.length with ⟨q,hq,_,_,he⟩ | ⟨_,he⟩
 ·exact .inr ⟨q,hq,he⟩
 ·exact .inl he
theorem plc_yes {ss:List Sd} {id:Int} {k:Nat} {x:Sd} (hx:ss[k]?=some x) (he:(x.id == id)=true) (hn:∀ (j:Nat) (y:Sd),j<k→ss[j]?=some y→(y.id == id)=false):plc ss id=(k:Int):=by
 have hk:=(List.getElem?_eq_some_iff.1 hx).1
 refine firstN_yes hk (by rw [sdP_at hx];exact he) fun j hj=>?_
 obtain ⟨y,hy⟩:∃ y,ss[j]?=some y:=⟨ss[j]'(by omega),List.getElem?_eq_getElem (by omega)⟩
 rw [sdP_at hy]
 exact hn j y hj hy
theorem plc_no {ss:List Sd} {id:Int} (hn:∀ (j:Nat) (y:Sd),ss[j]?=some y→(y.id == id)=false):plc ss id = -1:=by
 refine firstN_no fun j hj=>?_
 obtain ⟨y,hy⟩:∃ y,ss[j]?=some y:=⟨ss[j]'(by omega),List.getElem?_eq_getElem (by omega)⟩
 rw [sdP_at hy]
 exact hn j y hy
theorem plc_fst {ss:List Sd} {id:Int} {k:Nat} (h:plc ss id=(k:Int)):∀ (j:Nat) (y:Sd),j<k→ss[j]?=some y→(y.id == id)=false:=by
 intro j y hj hy
 rcases firstN_cases (sdP ss id) ss.length with ⟨q,_,_,hf,he⟩ | ⟨_,he⟩
 ·have he':plc ss id=(q:Int):=he
  have:=hf j (by omega)
  rwa [sdP_at hy] at this
 ·have he':plc ss id = -1:=he
  omega
theorem SdOk.snoc {ss:List Sd} {x:Sd} (h:SdOk ss) (h1:x.id=x.i) (h2:1≤x.s∧x.s≤3) (h3:plc ss x.id = -1):SdOk (ss ++ [x]):=by
 intro k y hy
 by_cases hk:k<ss.length
 ·rw [List.getElem?_append_left hk] at hy
  obtain ⟨p1,p2,p3⟩:=h k y hy
  refine ⟨p1,p2,plc_yes (by rw [List.getElem?_append_left hk];exact hy) (by simp) fun j z hj hz=>?_⟩
  rw [List.getElem?_append_left (by omega)] at hz
  exact plc_fst p3 j z hj hz
 ·have hl:=(List.getElem?_eq_some_iff.1 hy).1
  simp at hl
  obtain rfl:k=ss.length:=by omega
  simp at hy
  subst hy
  refine ⟨h1,h2,plc_yes (x:=x) (by simp) (by simp) fun j z hj hz=>?_⟩
  rw [List.getElem?_append_left (by omega)] at hz
  exact plc_none h3 j z hz
def sayH (h:Hd) (i o a b s:Int):Hd:=⟨h.N,h.own,h.cuts,h.lab,h.nums,0,0,0,0,0,0,0,[],0,h.said ++ [⟨i,i,o,a,b,s⟩]⟩
def ordH (h:Hd) (i o a b sh op:Int) (es:List O.EdgeV) (v:Int):Hd:=⟨h.N,h.own,h.cuts,h.lab,h.nums,i,o,a,b,sh,O.atI h.nums (sh - 1)+1,op,es,v,h.said⟩
def withCuts (h:Hd) (cs:List O.EdgeV):Hd:=⟨h.N,h.own,cs,h.lab,h.nums,h.i,h.o,h.a,h.b,h.sh,h.num,h.op,h.es,h.v,h.said⟩
def edgeA (a b:Int):O.EdgeV:=(min a b,max a b)
def chgH (h:Hd) (i o a b:Int):Hd :=
 if O.atI h.own (edgeA a b).1=O.atI h.own (edgeA a b).2 then ordH h i o a b (O.atI h.own (edgeA a b).1) o [edgeA a b] 0
 else match (if o=1 then O.addE h.N h.cuts (edgeA a b) else O.takE h.N h.cuts (edgeA a b)) with
  | some cs=>sayH (withCuts h cs) i o a b 1
  | none=>sayH h i o a b 2
def wlL (h:Hd):List Int:=O.labs (O.uE h.lab h.N.toNat ++ h.cuts) h.N.toNat h.N.toNat
def tkH (h:Hd) (i o a b:Int):Hd :=
 if rgB h.N h.lab.length o a b=false then sayH h i o a b 3
 else if o=3 then sayH h i o a b (if O.atI (wlL h) a=O.atI (wlL h) b then 1 else 2)
 else if o=4 then (if O.atI h.own a=b then sayH h i o a b 2 else ordH h i o a b (O.atI h.own a) 3 [] a)
 else chgH h i o a b
def tkB (h:Hd) (i:Int):Bool:=ctB h && decide ((1≤i∧i≤100000)∧plc h.said i<0∧h.sh=0∧h.said.length<80)
def takeR (h:Hd) (i o a b:Int):Option Hd:=if tkB h i=true then some (tkH h i o a b) else none
theorem HInv.say {S:Nat} {h:Hd} (k:HInv S h) {i o a b s:Int} (hl:h.said.length≤79) (hp:plc h.said i = -1) (hs:1≤s∧s≤3):HInv S (sayH h i o a b s) :=
 ⟨k.n,k.s,k.own,k.cut,k.lab,⟨k.num.1,fun x hx=>by
  have h1:=k.num.2 x hx
  have e:(sayH h i o a b s).op=0:=rfl
  have e2:(sayH h i o a b s).said.length=h.said.length+1:=by simp [sayH]
  rw [e,e2]
  split at h1 <;> simp <;> omega⟩,⟨by simp [sayH];omega,k.sd.2.snoc rfl hs hp⟩,.inl ⟨rfl,rfl,rfl,rfl,rfl,rfl,rfl,rfl,rfl⟩⟩
theorem HInv.order {S:Nat} {h:Hd} (k:HInv S h) {i o a b sh op:Int} {es:List O.EdgeV} {v:Int} (hnu:∀ x ∈ h.nums,x≤2*(h.said.length:Int)+(if op=4 then 1 else 0)) (hl:h.said.length≤79) (hp:plc h.said i = -1) (hi:1≤i∧i≤100000)
  (hr:rgB h.N S o a b=true) (h3:o≠3) (ho:(o≠4∧op≠4)∨(o=4∧(op=3∨op=4))) (hsh:1≤sh∧sh≤(S:Int)) (he:O.eOk h.N es=true) (hO:∀ num,O.OpOk h.N ⟨num,op,es,v⟩):HInv S (ordH h i o a b sh op es v):=by
 refine ⟨k.n,k.s,k.own,k.cut,k.lab,⟨k.num.1,fun x hx=>⟨(k.num.2 x hx).1,hnu x hx⟩⟩,k.sd,.inr ⟨hsh,?_,rfl,hp,hr,h3,hi,hl,ho⟩⟩
 have hm:=(atI_mem (ls:=h.nums) (v:=sh - 1) (by omega) (by have:=k.num.1;omega)).1
 have h1:=(k.num.2 _ hm).1
 have h2:=hnu _ hm
 show O.oB h.N ⟨O.atI h.nums (sh - 1)+1,op,es,v⟩=true
 unfold O.oB
 rw [he,decide_eq_true k.n,decide_eq_true (hO _),decide_eq_true]
 ·rfl
 ·refine ⟨by show 1≤O.atI h.nums (sh - 1)+1;omega,?_⟩
  show O.atI h.nums (sh - 1)+1≤100000
  split at h2 <;> omega
theorem HInv.cuts {S:Nat} {h:Hd} (k:HInv S h) {cs:List O.EdgeV} (hc:O.eOk h.N cs=true):HInv S (withCuts h cs) :=
 ⟨k.n,k.s,k.own,hc,k.lab,k.num,k.sd,k.tk.imp id fun t=>⟨t.sh,t.or,t.nu,t.pl,t.rg,t.o3,t.id,t.ln,t.op⟩⟩
theorem HInv.gB {S:Nat} {h:Hd} (k:HInv S h):O.gB h.N h.cuts=true:=by
 unfold O.gB
 rw [decide_eq_true k.n]
 exact k.cut
theorem eOk_gB {N:Int} {es:List O.EdgeV} (h:O.gB N es=true):O.eOk N es=true:=by
 unfold O.gB at h
 rw [Bool.and_eq_true] at h
 exact h.2
theorem rgB_parts {N:Int} {S:Nat} {o a b:Int} (h:rgB N S o a b=true):0≤a∧a<N∧((o=4∧1≤b∧b≤(S:Int))∨((o=1∨o=2∨o=3)∧0≤b∧b<N∧(o=3∨a≠b))):=of_decide_eq_true h
theorem edgeA_ok {N a b:Int} (hn:1≤N∧N≤12) (ha:0≤a∧a<N) (hb:0≤b∧b<N) (hne:a≠b):O.eB N (edgeA a b)=true:=by
 unfold O.eB edgeA
 refine decide_eq_true ⟨hn.1,hn.2,?_,?_,?_⟩ <;> dsimp only <;> omega
theorem edgeA_in {N a b:Int} (ha:0≤a∧a<N) (hb:0≤b∧b<N):(0≤(edgeA a b).1∧(edgeA a b).1<N)∧(0≤(edgeA a b).2∧(edgeA a b).2<N):=by
 unfold edgeA
 dsimp only
 omega
theorem HInv.ownAt {S:Nat} {h:Hd} (k:HInv S h) {v:Int} (h0:0≤v) (h1:v<h.N):(1≤O.atI h.own v∧O.atI h.own v≤(S:Int))∧h.own[v.toNat]?=some (O.atI h.own v):=by
 have:=atI_mem (ls:=h.own) (v:=v) h0 (by have:=k.own.1;omega)
 exact ⟨k.own.2 _ this.1,this.2⟩
theorem HInv.change {S:Nat} {h:Hd} (k:HInv S h) {i o a b:Int} (hz:h.op≠4) (hl:h.said.length≤79) (hp:plc h.said i = -1) (hi:1≤i∧i≤100000) (hr:rgB h.N S o a b=true) (ho:o=1∨o=2):HInv S (chgH h i o a b):=by
 obtain ⟨a0,a1,hr'⟩:=rgB_parts hr
 have hb:0≤b∧b<h.N∧a≠b:=by omega
 have he:=edgeA_ok k.n ⟨a0,a1⟩ ⟨hb.1,hb.2.1⟩ hb.2.2
 have hin:=edgeA_in ⟨a0,a1⟩ ⟨hb.1,hb.2.1⟩
 unfold chgH
 split
 ·refine k.order (fun x hx=>?_) hl hp hi hr (by omega) (.inl ⟨by omega,by omega⟩) (k.ownAt hin.1.1 hin.1.2).1 (by rw [show O.eOk h.N [edgeA a b]=O.eB h.N (edgeA a b) by unfold O.eOk O.chk;simp [O.chkAt]];exact he) fun num=>.inr (.inl ⟨rfl,ho,rfl⟩)
  have:=(k.num.2 x hx).2
  rw [if_neg hz] at this
  rw [if_neg (by omega)]
  exact this
 ·split
  ·rename_i cs hcs
   have hg:O.gB h.N cs=true:=by
    split at hcs
    ·unfold O.addE at hcs
     split at hcs
     ·cases hcs
      exact O.gB_put k.gB he
     ·cases hcs
    ·unfold O.takE at hcs
     split at hcs
     ·cases hcs
      exact O.gB_out k.gB
     ·cases hcs
   exact (k.cuts (eOk_gB hg)).say hl hp (by omega)
  ·exact k.say hl hp (by omega)
theorem HInv.take {S:Nat} {h g:Hd} (k:HInv S h) {i o a b:Int} (ht:takeR h i o a b=some g):HInv S g:=by
 unfold takeR at ht
 split at ht
 ·rename_i hb
  cases ht
  unfold tkB at hb
  rw [Bool.and_eq_true,decide_eq_true_iff] at hb
  obtain ⟨_,hi,hp,hs,hl⟩:=hb
  have hp':plc h.said i = -1:=by rcases plc_cases h.said i with h1 | ⟨q,_,h1⟩ <;> omega
  have hop:h.op≠4:=by
   rcases k.tk with t | t
   ·have:=t.2.2.2.2.2.2.1;omega
   ·have:=t.sh;omega
  have hls:=k.lab.1
  unfold tkH
  rw [hls]
  split
  ·exact k.say (by omega) hp' (by omega)
  ·rename_i hr
   rw [Bool.not_eq_false] at hr
   obtain ⟨a0,a1,hr'⟩:=rgB_parts hr
   split
   ·exact k.say (by omega) hp' (by split <;> omega)
   ·split
    ·split
     ·exact k.say (by omega) hp' (by omega)
     ·rename_i h4 _
      refine k.order (fun x hx=>?_) (by omega) hp' hi hr (by omega) (.inr ⟨h4,.inl rfl⟩) (k.ownAt a0 a1).1 rfl fun num=>.inl ⟨rfl,rfl,a0,a1⟩
      have:=(k.num.2 x hx).2
      rw [if_neg hop] at this
      rw [if_neg (by omega)]
      exact this
    ·exact k.change hop (by omega) hp' hi hr (by omega)
 ·cases ht
theorem shIdOk_any (i:Int) (w:World):Calls Tryz.prog 61 #[.int .i64 i] w fun e w'=>e=.returned (.bool (decide (1≤i∧i≤3)))∧w'=w:=by
 by_cases h1:1≤i
 ·by_cases h2:i≤3
  ·have d1:decide (1≤i)=true:=by simpa using h1
   have d2:decide (i≤3)=true:=by simpa using h2
   go_enter Tryz.func61,Tryz.ntmps61
   go_wp2
   go_ret
   exact ⟨by simp [h1,h2],rfl⟩
  ·have d1:decide (1≤i)=true:=by simpa using h1
   have d2:decide (i≤3)=false:=by simpa using h2
   go_enter Tryz.func61,Tryz.ntmps61
   go_wp2
   go_ret
   exact ⟨by simp,rfl⟩
 ·have d1:decide (1≤i)=false:=by simpa using h1
  go_enter Tryz.func61,Tryz.ntmps61
  go_wp2
  go_ret
  exact ⟨by simp,rfl⟩
theorem made1 (v:Value) (n:Nat):(madeCells #[v] n).toList=List.replicate n v:=by
 refine List.ext_getElem? fun i=>?_
 rw [Array.getElem?_toList]
 unfold madeCells
 rw [Array.getElem?_map]
 by_cases h:i<n
 ·rw [Array.getElem?_eq_getElem (by simpa using h),Array.getElem_range]
  simp [h,Nat.mod_one]
 ·rw [Array.getElem?_eq_none (by simpa using h)]
  simp [h]
theorem drew_alloc13 (w:World) (o:Obj):w.drew.alloc o=(w.alloc o).drew:=rfl
structure HSep (p:Hp) (R:List Rw):Prop where
 on:∀ b,p.o.v.ownBlock=some b→p.n.v.ownBlock≠some b
 orr:∀ r ∈ R,p.o.v.ownBlock≠some r.g
 nr:∀ r ∈ R,p.n.v.ownBlock≠some r.g
def hnB (n sh:Int):Bool:=decide ((1≤n∧n≤12)∧1≤sh∧sh≤3)
def hnH (n sh:Int):Hd:=if (1≤n∧n≤12)∧1≤sh∧sh≤3 then newH n.toNat sh.toNat else zeroH
theorem hn_yes {nn s:Nat} (h:(1≤nn∧nn≤12)∧1≤s∧s≤3):hnH (nn:Int) (s:Int)=newH nn s∧hnB (nn:Int) (s:Int)=true:=by
 have h':(1≤(nn:Int)∧(nn:Int)≤12)∧1≤(s:Int)∧(s:Int)≤3:=by omega
 constructor
 ·unfold hnH;rw [if_pos h'];simp
 ·unfold hnB;exact decide_eq_true h'
theorem hn_no {n sh:Int} (h:¬ ((1≤n∧n≤12)∧1≤sh∧sh≤3)):hnH n sh=zeroH∧hnB n sh=false:=by
 constructor
 ·unfold hnH;rw [if_neg h]
 ·unfold hnB;exact decide_eq_false h
abbrev nwP (aO:Option Addr) (v cO:Nat) (aL:Option Addr) (k cL:Nat) (aN:Option Addr):Hp:=⟨⟨aO,v,cO⟩,nilS,⟨aL,k,cL⟩,⟨aN,k,k⟩,nilS,nilS⟩
def HnA (w:World) (n sh:Int) (e:Ending) (w':World):Prop:=∃ (aO:Option Addr) (v cO:Nat) (aL:Option Addr) (k cL:Nat) (aN:Option Addr) (R:List Rw),
 e=.returned (.tuple #[.agg (hnC (hnH n sh).N aO v cO aL k cL aN k),.bool (hnB n sh)])∧HOwn w' w.heap.size (hnH n sh) (nwP aO v cO aL k cL aN) R∧HSep (nwP aO v cO aL k cL aN) R∧Below w.heap.size w w'
theorem hna_no {w w':World} {n sh:Int} (h:¬ ((1≤n∧n≤12)∧1≤sh∧sh≤3)) (hb:Below w.heap.size w w'):HnA w n sh (.returned (.tuple #[.agg #[.int .i64 0,.slice none 0 0,.slice none 0 0,.slice none 0 0,.slice none 0 0,.int .i64 0,.int .i64 0,.int .i64 0,.int .i64 0,.int .i64 0,.int .i64 0,.int .i64 0,.slice none 0 0,.int .i64 0,.slice none 0 0],.bool false])) w':=by
 refine ⟨none,0,0,none,0,0,none,[],by rw [(hn_no h).1,(hn_no h).2];rfl,?_,⟨by simp [Value.ownBlock],by simp,by simp⟩,hb⟩
 rw [(hn_no h).1]
 exact ⟨World.ownsRow_nil _ _ _ _,World.ownsRow_nil _ _ _ _,(FB.nil w' w.heap.size),rfl,World.ownsRow_nil _ _ _ _,World.ownsRow_nil _ _ _ _,World.ownsRow_nil _ _ _ _⟩
set_option maxRecDepth 100000 in
set_option maxHeartbeats 8000000 in
theorem iHeadNew_any (n sh:Int) (w:World):Calls Tryz.prog 25 #[.int .i64 n,.int .i64 sh] w fun e w'=>HnA w n sh e w':=by
 have HV:=hideIt O.vertsOk_any
 have HI:=hideIt shIdOk_any
 have HB0:=hideIt (belA w (.cells #[.int .i64 0,.slice none 0 0,.slice none 0 0,.slice none 0 0,.slice none 0 0,.int .i64 0,.int .i64 0,.int .i64 0,.int .i64 0,.int .i64 0,.int .i64 0,.int .i64 0,.slice none 0 0,.int .i64 0,.slice none 0 0] 35))
 by_cases h1:1≤n∧n≤12
 case neg =>
  have r1:decide (1≤n∧n≤12)=false:=decide_eq_false h1
  have HH:=hideIt h1
  clear h1
  go_enter Tryz.func25,Tryz.ntmps25
  go_wp2_with (go_at_call 60;refine (HV.out _ _).mono ?_;rintro e w1 ⟨rfl,rfl⟩)
  exact bodyPost_ret (v:=.tuple #[.agg #[.int .i64 0,.slice none 0 0,.slice none 0 0,.slice none 0 0,.slice none 0 0,.int .i64 0,.int .i64 0,.int .i64 0,.int .i64 0,.int .i64 0,.int .i64 0,.int .i64 0,.slice none 0 0,.int .i64 0,.slice none 0 0],.bool false]) (by simp [results,Tryz.results25,go_sem]) rfl (hna_no (fun h=>HH.out h.1) HB0.out)
 case pos =>
  by_cases h2:1≤sh∧sh≤3
  case neg =>
   have r1:decide (1≤n∧n≤12)=true:=decide_eq_true h1
   have r2:decide (1≤sh∧sh≤3)=false:=decide_eq_false h2
   have HH:=hideIt h2
   clear h1 h2
   go_enter Tryz.func25,Tryz.ntmps25
   go_wp2_with (first | (go_at_call 60;refine (HV.out _ _).mono ?_;rintro e w1 ⟨rfl,rfl⟩) | (go_at_call 61;refine (HI.out _ _).mono ?_;rintro e w1 ⟨rfl,rfl⟩))
   exact bodyPost_ret (v:=.tuple #[.agg #[.int .i64 0,.slice none 0 0,.slice none 0 0,.slice none 0 0,.slice none 0 0,.int .i64 0,.int .i64 0,.int .i64 0,.int .i64 0,.int .i64 0,.int .i64 0,.int .i64 0,.slice none 0 0,.int .i64 0,.slice none 0 0],.bool false]) (by simp [results,Tryz.results25,go_sem]) rfl (hna_no (fun h=>HH.out h.2) HB0.out)
  case pos =>
   obtain ⟨nn,rfl⟩:∃ nn:Nat,n=(nn:Int):=⟨n.toNat,by omega⟩
   obtain ⟨s,rfl⟩:∃ s:Nat,sh=(s:Int):=⟨sh.toNat,by omega⟩
   have r1:decide (1≤(nn:Int)∧(nn:Int)≤12)=true:=decide_eq_true h1
   have r2:decide (1≤(s:Int)∧(s:Int)≤3)=true:=decide_eq_true h2
   have hn1:1≤nn∧nn≤12:=by omega
   have hs1:1≤s∧s≤3:=by omega
   have HY:=hideIt (hn_yes ⟨hn1,hs1⟩)
   obtain ⟨i0,hi,hz0,hz1,hz2⟩:=info_parts info3i
   obtain ⟨i1,hi',hy0,hy1,hy2⟩:=info_parts infoIT
   have hmk:∀ u:World,(Instr.makeSlice 24 (.int .i64 (s:Int)) (.int .i64 (s:Int))).run Tryz.prog u =
     .ok (.slice (some ⟨u.heap.size,0,none⟩) s s) (u.alloc (.cells (madeCells #[.int .i64 0] s) 3)):=fun u=>by
    have h:=run_make (P:=Tryz.prog) u 24 3 i0 _ Tryz.underlying24 hi hz0 .i64 .i64 (s:Int) (s:Int) (by omega) (by omega) (by rw [hz2];omega) (by omega)
    rw [Int.toNat_natCast] at h
    simpa [hz1,Value.cells] using h
   obtain ⟨W1,hW1⟩:=ex0 (((w.alloc (.cells #[.int .i64 0,.slice none 0 0,.slice none 0 0,.slice none 0 0,.slice none 0 0,.int .i64 0,.int .i64 0,.int .i64 0,.int .i64 0,.int .i64 0,.int .i64 0,.int .i64 0,.slice none 0 0,.int .i64 0,.slice none 0 0] 35)).alloc (.cells (madeCells #[.int .i64 0] s) 3)).alloc (.cells (hnC (nn:Int) none 0 0 none 0 0 (some ⟨w.heap.size+1,0,none⟩) s) 35))
   have N1:HN w nn s 0 none 0 [] 0 none 0 W1:=by
    have q1:=((BxA.new w 35 #[.int .i64 0,.slice none 0 0,.slice none 0 0,.slice none 0 0,.slice none 0 0,.int .i64 0,.int .i64 0,.int .i64 0,.int .i64 0,.int .i64 0,.int .i64 0,.int .i64 0,.slice none 0 0,.int .i64 0,.slice none 0 0]).up (belA _ (.cells (madeCells #[.int .i64 0] s) 3))).up (belA _ (.cells (hnC (nn:Int) none 0 0 none 0 0 (some ⟨w.heap.size+1,0,none⟩) s) 35))
    have q2:=BxA.new ((w.alloc (.cells #[.int .i64 0,.slice none 0 0,.slice none 0 0,.slice none 0 0,.slice none 0 0,.int .i64 0,.int .i64 0,.int .i64 0,.int .i64 0,.int .i64 0,.int .i64 0,.int .i64 0,.slice none 0 0,.int .i64 0,.slice none 0 0] 35)).alloc (.cells (madeCells #[.int .i64 0] s) 3)) 35 (hnC (nn:Int) none 0 0 none 0 0 (some ⟨w.heap.size+1,0,none⟩) s)
    have q3:=own_up (World.ownsRow_lit (base:=(w.alloc (.cells #[.int .i64 0,.slice none 0 0,.slice none 0 0,.slice none 0 0,.slice none 0 0,.int .i64 0,.int .i64 0,.int .i64 0,.int .i64 0,.int .i64 0,.int .i64 0,.int .i64 0,.slice none 0 0,.int .i64 0,.slice none 0 0] 35)).heap.size) (e:=3) (size:=1) (w.alloc (.cells #[.int .i64 0,.slice none 0 0,.slice none 0 0,.slice none 0 0,.slice none 0 0,.int .i64 0,.int .i64 0,.int .i64 0,.int .i64 0,.int .i64 0,.int .i64 0,.int .i64 0,.slice none 0 0,.int .i64 0,.slice none 0 0] 35)) (madeCells #[.int .i64 0] s) s (Nat.le_refl _) (by unfold maxLen;omega) (by simp [madeCells])) (belA _ (.cells (hnC (nn:Int) none 0 0 none 0 0 (some ⟨w.heap.size+1,0,none⟩) s) 35))
    rw [← hW1] at q1 q2 q3
    have e1:(w.alloc (.cells #[.int .i64 0,.slice none 0 0,.slice none 0 0,.slice none 0 0,.slice none 0 0,.int .i64 0,.int .i64 0,.int .i64 0,.int .i64 0,.int .i64 0,.int .i64 0,.int .i64 0,.slice none 0 0,.int .i64 0,.slice none 0 0] 35)).heap.size=w.heap.size+1:=by simp
    have e2:((w.alloc (.cells #[.int .i64 0,.slice none 0 0,.slice none 0 0,.slice none 0 0,.slice none 0 0,.int .i64 0,.int .i64 0,.int .i64 0,.int .i64 0,.int .i64 0,.int .i64 0,.int .i64 0,.slice none 0 0,.int .i64 0,.slice none 0 0] 35)).alloc (.cells (madeCells #[.int .i64 0] s) 3)).heap.size=w.heap.size+1+1:=by simp
    rw [e1] at q3
    rw [e2] at q2
    have e3:(madeCells #[Value.int .i64 0] s).toList=ic (List.replicate s 0):=by rw [made1];simp [ic]
    rw [e3] at q3
    refine ⟨q1,q2,q3,FB.nil _ _,rfl,World.ownsRow_nil _ _ _ _,by simp,?_⟩
    rw [hW1]
    exact (((Below.refl _ _).alloc (Nat.le_refl _) _).alloc (by simp) _).alloc (by simp;omega) _
   have HLb:Hid (∀ u,Calls Tryz.prog 62 #[.agg #[.int .i64 (nn:Int),.slice none 0 0]] u fun e v=>∃ g c,e=.returned (.slice (some ⟨g,0,none⟩) nn c)∧Hid (v.ownsRow u.heap.size 3 1 (.slice (some ⟨g,0,none⟩) nn c) nn (ic (O.labs [] nn nn)))∧Below u.heap.size u v):=fun u=>by
    have h:=O.iLabels_any (nn:Int) [] 0 none 0 (by omega) u ⟨rfl,.inl rfl⟩
    have e:O.labE (nn:Int) []=O.labs [] nn nn:=by
     have hg:O.gB (nn:Int) []=true:=by
      have:nn=1∨nn=2∨nn=3∨nn=4∨nn=5∨nn=6∨nn=7∨nn=8∨nn=9∨nn=10∨nn=11∨nn=12:=by omega
      rcases this with rfl | rfl | rfl | rfl | rfl | rfl | rfl | rfl | rfl | rfl | rfl | rfl <;> rfl
     unfold O.labE
     rw [if_pos hg,Int.toNat_natCast]
    rw [e] at h
    refine h.mono fun e v ⟨a2,m2,c2,h1,h2,h3⟩=>?_
    have hl:(ic (O.labs [] nn nn)).length=m2*1:=h2.1
    rw [ic_len,O.labs_len] at hl
    have hm:m2=nn:=by omega
    subst hm
    rcases h2.2 with ⟨_,h0⟩ | ⟨g,cap,cur,hv,hr⟩
    ·omega
    ·simp at hv
     obtain ⟨rfl,rfl⟩:=hv
     exact ⟨g,c2,h1,h2,h3⟩
   clear h1 h2
   go_enter Tryz.func25,Tryz.ntmps25
   go_wp2_with (first | (go_at_call 60;refine (HV.out _ _).mono ?_;rintro e w1 ⟨rfl,rfl⟩) | (go_at_call 61;refine (HI.out _ _).mono ?_;rintro e w1 ⟨rfl,rfl⟩))
   rw [← hW1]
   clear hW1 hmk
   go_loopw [22] (fun i wr=>∃ (k cL:Nat) (aL:Option Addr) (R:List Rw),k≤s∧i=.int .i64 (k:Int)∧Hid (HN w nn s k aL cL R 0 none 0 wr)) (fun i _=>s - (intOf i).toNat)
   case atStart=>exact ⟨0,0,none,[],by omega,rfl,N1⟩
   case round =>
    obtain ⟨k,cL,aL,R,hk,rfl,HS⟩:=hrel
    clear N1
    by_cases hlt:k<s
    ·have b2:(k:Int)<(s:Int):=by omega
     have x3:=HS.out.hb.cell 3 rfl
     have y3:wr.drew.cell? ⟨w.heap.size+1+1,3,none⟩=some (.slice aL k cL):=HS.out.drew.hb.cell 3 rfl
     have hz3:=HS.out.lt
     go_upto_region 6 with fail
     refine wp_region_any (by kernel_rfl) ?_
     change wpAny _ _ _ _ _ _ _ (World.drew _)
     refine takeOp (i:=0) (v:=?_) rfl (by kernel_rfl) (by kernel_rfl) (by kernel_rfl) (fun _ _ _ h=>h) (by kernel_rfl) ?_ ?_
     rotate_left
     ·intro w;go_simp;try with_reducible rfl
     try simp only [Act.put,pU0]
     refine takeOp (i:=2) (v:=?_) rfl (by kernel_rfl) (by kernel_rfl) (by kernel_rfl) (fun _ _ _ h=>h) (by kernel_rfl) ?_ ?_
     rotate_left
     ·intro w;go_simp;try with_reducible rfl
     try simp only [Act.put,pU0]
     refine takeOp (i:=3) (v:=?_) rfl (by kernel_rfl) (by kernel_rfl) (by kernel_rfl) (fun _ _ _ h=>h) (by kernel_rfl) ?_ ?_
     rotate_left
     ·intro w;go_simp;try with_reducible rfl
     try simp only [Act.put,pU0]
     refine wpAny_ready (rs:=[1,4]) (by kernel_rfl) (by simp) ?_
     refine AllReady.cons rfl (fun K hK=>?_) (AllReady.cons rfl (fun K hK=>?_) AllReady.nil)
     ·go_simp
      refine hK _ _ ?_
      clear hK K
      try simp only [Act.put,pU0]
      refine wpAny_ready (rs:=[4]) (by kernel_rfl) (by simp) ?_
      refine AllReady.cons rfl (fun K hK=>?_) AllReady.nil
      rw [if_pos]
      rotate_left
      ·kernel_rfl
      go_wp2_with (go_at_call 62;refine (HLb.out _).mono ?_;rintro e w3 ⟨g,c,rfl,o3,b3⟩;refine Hid.out ?_)
      refine (show ∀ {p:Prop},p→Hid p from fun h=>h) ?_
      have S3:=HS.out.drew.up b3
      have z3:w3.cell? ⟨w.heap.size+1+1,3,none⟩=some (.slice aL k cL):=S3.hb.cell 3 rfl
      have z4:(w3.alloc (.cells #[.slice (some ⟨g,0,none⟩) nn c] 24)).cell? ⟨w.heap.size+1+1,3,none⟩=some (.slice aL k cL):=(S3.up (belA _ _)).hb.cell 3 rfl
      have HS3:=hideIt S3
      have HRw:=hideIt (RwB.of_own o3.out)
      have HRl:Hid (w.heap.size+3≤g∧∀ x ∈ R,x.g≠g):=⟨by have h1:=(o3.out.lt g rfl).1;simp at h1;omega,fun x hx e=>by have h1:=(o3.out.lt g rfl).1;have h2:=(HS.out.fb.ins x hx).2.2;simp at h1;omega⟩
      clear S3 b3 o3
      refine hK _ _ ?_
      clear hK K
      try simp only [Act.put,pU0]
      refine wpAny_ready (rs:=[5]) (by kernel_rfl) (by simp) ?_
      refine AllReady.cons rfl (fun K hK=>?_) AllReady.nil
      go_simp
      refine hK _ _ ?_
      clear hK K
      try simp only [Act.put,pU0]
      refine wpAny_ready (rs:=[6]) (by kernel_rfl) (by simp) ?_
      refine AllReady.cons rfl (fun K hK=>?_) AllReady.nil
      refine step_append_lies _ rfl _ _ 26 rfl (w.heap.size+3) 24 i1 _ 1 24 Tryz.underlying26 hi' hy0 hy1 hy2 rfl (by decide) _ _ _ rfl (HS3.out.fb.own.alloc (.cells #[.slice (some ⟨g,0,none⟩) nn c] 24)) ⟨w3.heap.size,0,none⟩ 1 1 [.slice (some ⟨g,0,none⟩) nn c] rfl rfl (newsH w3 _) (by intro u hu;simp at hu;subst hu;rfl) (by omega) (by unfold maxLen;omega) (by omega) (by have:=HS3.out.lt;simp;omega) (w3.heap.size+1) (by simp) ?_
      intro g5 c5 w5 hown5 hg5 hat5 hlt5
      have e5:Rw.hdr ⟨g,c,O.labs [] nn nn⟩=.slice (some ⟨g,0,none⟩) nn c:=by unfold Rw.hdr;rw [O.labs_len]
      have Q5:=HS3.out.boxL hg5
      have x5:=Q5.cell 3 rfl
      have f5:=Q5.frozen 3
      rw [← e5] at hown5
      have HS5:=hideIt (HS3.out.lab (r:=⟨g,c,O.labs [] nn nn⟩) HRw.out HRl.out.1 HRl.out.2 (by simp [Value.ownBlock]) rfl hown5 hg5)
      clear hown5 hg5 hat5 hlt5 Q5 e5 HRw HRl z3 z4
      refine hK _ _ ?_
      clear hK K
      try simp only [Act.put,pU0]
      refine wpAny_ready (rs:=[7]) (by kernel_rfl) (by simp) ?_
      refine AllReady.cons rfl (fun K hK=>?_) AllReady.nil
      go_simp
      refine hK _ _ ?_
      clear hK K
      try simp only [Act.put,pU0]
      refine wpAny_ready (rs:=[8]) (by kernel_rfl) (by simp) ?_
      refine AllReady.cons rfl (fun K hK=>?_) AllReady.nil
      go_simp
      refine hK _ _ ?_
      clear hK K
      try simp only [Act.put,pU0]
      refine wpAny_done (by kernel_rfl) ?_ _
      clear x5 f5 HS3
      go_wp2
      exact ⟨⟨k+1,c5,some ⟨g5,0,none⟩,_,by omega,by go_num,HS5⟩,by simp [intOf];omega⟩
     ·rw [if_pos]
      rotate_left
      ·kernel_rfl
      go_wp2_with (go_at_call 62;refine (HLb.out _).mono ?_;rintro e w3 ⟨g,c,rfl,o3,b3⟩;refine Hid.out ?_)
      refine (show ∀ {p:Prop},p→Hid p from fun h=>h) ?_
      have S3:=HS.out.drew.up b3
      have z3:w3.cell? ⟨w.heap.size+1+1,3,none⟩=some (.slice aL k cL):=S3.hb.cell 3 rfl
      have z4:(w3.alloc (.cells #[.slice (some ⟨g,0,none⟩) nn c] 24)).cell? ⟨w.heap.size+1+1,3,none⟩=some (.slice aL k cL):=(S3.up (belA _ _)).hb.cell 3 rfl
      have HS3:=hideIt S3
      have HRw:=hideIt (RwB.of_own o3.out)
      have HRl:Hid (w.heap.size+3≤g∧∀ x ∈ R,x.g≠g):=⟨by have h1:=(o3.out.lt g rfl).1;simp at h1;omega,fun x hx e=>by have h1:=(o3.out.lt g rfl).1;have h2:=(HS.out.fb.ins x hx).2.2;simp at h1;omega⟩
      clear S3 b3 o3
      refine hK _ _ ?_
      clear hK K
      try simp only [Act.put,pU0]
      refine wpAny_ready (rs:=[1,5]) (by kernel_rfl) (by simp) ?_
      refine AllReady.cons rfl (fun K hK=>?_) (AllReady.cons rfl (fun K hK=>?_) AllReady.nil)
      ·go_simp
       refine hK _ _ ?_
       clear hK K
       try simp only [Act.put,pU0]
       refine wpAny_ready (rs:=[5]) (by kernel_rfl) (by simp) ?_
       refine AllReady.cons rfl (fun K hK=>?_) AllReady.nil
       go_simp
       refine hK _ _ ?_
       clear hK K
       try simp only [Act.put,pU0]
       refine wpAny_ready (rs:=[6]) (by kernel_rfl) (by simp) ?_
       refine AllReady.cons rfl (fun K hK=>?_) AllReady.nil
       refine step_append_lies _ rfl _ _ 26 rfl (w.heap.size+3) 24 i1 _ 1 24 Tryz.underlying26 hi' hy0 hy1 hy2 rfl (by decide) _ _ _ rfl (HS3.out.fb.own.alloc (.cells #[.slice (some ⟨g,0,none⟩) nn c] 24)) ⟨w3.heap.size,0,none⟩ 1 1 [.slice (some ⟨g,0,none⟩) nn c] rfl rfl (newsH w3 _) (by intro u hu;simp at hu;subst hu;rfl) (by omega) (by unfold maxLen;omega) (by omega) (by have:=HS3.out.lt;simp;omega) (w3.heap.size+1) (by simp) ?_
       intro g5 c5 w5 hown5 hg5 hat5 hlt5
       have e5:Rw.hdr ⟨g,c,O.labs [] nn nn⟩=.slice (some ⟨g,0,none⟩) nn c:=by unfold Rw.hdr;rw [O.labs_len]
       have Q5:=HS3.out.boxL hg5
       have x5:=Q5.cell 3 rfl
       have f5:=Q5.frozen 3
       rw [← e5] at hown5
       have HS5:=hideIt (HS3.out.lab (r:=⟨g,c,O.labs [] nn nn⟩) HRw.out HRl.out.1 HRl.out.2 (by simp [Value.ownBlock]) rfl hown5 hg5)
       clear hown5 hg5 hat5 hlt5 Q5 e5 HRw HRl z3 z4
       refine hK _ _ ?_
       clear hK K
       try simp only [Act.put,pU0]
       refine wpAny_ready (rs:=[7]) (by kernel_rfl) (by simp) ?_
       refine AllReady.cons rfl (fun K hK=>?_) AllReady.nil
       go_simp
       refine hK _ _ ?_
       clear hK K
       try simp only [Act.put,pU0]
       refine wpAny_ready (rs:=[8]) (by kernel_rfl) (by simp) ?_
       refine AllReady.cons rfl (fun K hK=>?_) AllReady.nil
       go_simp
       refine hK _ _ ?_
       clear hK K
       try simp only [Act.put,pU0]
       refine wpAny_done (by kernel_rfl) ?_ _
       clear x5 f5 HS3
       go_wp2
       exact ⟨⟨k+1,c5,some ⟨g5,0,none⟩,_,by omega,by go_num,HS5⟩,by simp [intOf];omega⟩
      ·go_simp
       refine hK _ _ ?_
       clear hK K
       try simp only [Act.put,pU0]
       refine wpAny_ready (rs:=[1]) (by kernel_rfl) (by simp) ?_
       refine AllReady.cons rfl (fun K hK=>?_) AllReady.nil
       go_simp
       refine hK _ _ ?_
       clear hK K
       try simp only [Act.put,pU0]
       refine wpAny_ready (rs:=[6]) (by kernel_rfl) (by simp) ?_
       refine AllReady.cons rfl (fun K hK=>?_) AllReady.nil
       refine step_append_lies _ rfl _ _ 26 rfl (w.heap.size+3) 24 i1 _ 1 24 Tryz.underlying26 hi' hy0 hy1 hy2 rfl (by decide) _ _ _ rfl (HS3.out.fb.own.alloc (.cells #[.slice (some ⟨g,0,none⟩) nn c] 24)) ⟨w3.heap.size,0,none⟩ 1 1 [.slice (some ⟨g,0,none⟩) nn c] rfl rfl (newsH w3 _) (by intro u hu;simp at hu;subst hu;rfl) (by omega) (by unfold maxLen;omega) (by omega) (by have:=HS3.out.lt;simp;omega) (w3.heap.size+1) (by simp) ?_
       intro g5 c5 w5 hown5 hg5 hat5 hlt5
       have e5:Rw.hdr ⟨g,c,O.labs [] nn nn⟩=.slice (some ⟨g,0,none⟩) nn c:=by unfold Rw.hdr;rw [O.labs_len]
       have Q5:=HS3.out.boxL hg5
       have x5:=Q5.cell 3 rfl
       have f5:=Q5.frozen 3
       rw [← e5] at hown5
       have HS5:=hideIt (HS3.out.lab (r:=⟨g,c,O.labs [] nn nn⟩) HRw.out HRl.out.1 HRl.out.2 (by simp [Value.ownBlock]) rfl hown5 hg5)
       clear hown5 hg5 hat5 hlt5 Q5 e5 HRw HRl z3 z4
       refine hK _ _ ?_
       clear hK K
       try simp only [Act.put,pU0]
       refine wpAny_ready (rs:=[7]) (by kernel_rfl) (by simp) ?_
       refine AllReady.cons rfl (fun K hK=>?_) AllReady.nil
       go_simp
       refine hK _ _ ?_
       clear hK K
       try simp only [Act.put,pU0]
       refine wpAny_ready (rs:=[8]) (by kernel_rfl) (by simp) ?_
       refine AllReady.cons rfl (fun K hK=>?_) AllReady.nil
       go_simp
       refine hK _ _ ?_
       clear hK K
       try simp only [Act.put,pU0]
       refine wpAny_done (by kernel_rfl) ?_ _
       clear x5 f5 HS3
       go_wp2
       exact ⟨⟨k+1,c5,some ⟨g5,0,none⟩,_,by omega,by go_num,HS5⟩,by simp [intOf];omega⟩
    ·obtain rfl:k=s:=by omega
     have HS1:=HS
     clear hlt hk HLb HS
     have hk0:¬ k=0:=by omega
     go_wp2
     go_loopw [34] (fun i wr=>∃ (v cO:Nat) (aO:Option Addr),v≤nn∧i=.int .i64 (v:Int)∧Hid (HN w nn k k aL cL R v aO cO wr)) (fun i _=>nn - (intOf i).toNat)
     case atStart=>exact ⟨0,0,none,by omega,rfl,HS1⟩
     case round =>
      obtain ⟨v,cO,aO,hv,rfl,HS⟩:=hrel
      clear HS1
      by_cases hlt:v<nn
      ·have b2:(v:Int)<(nn:Int):=by omega
       have x1:wr.drew.cell? ⟨w.heap.size+1+1,1,none⟩=some (.slice aO v cO):=HS.out.drew.hb.cell 1 rfl
       have y1:(wr.drew.alloc (.cells #[.int .i64 (1+(v:Int).tmod (k:Int))] 3)).cell? ⟨w.heap.size+1+1,1,none⟩=some (.slice aO v cO):=(HS.out.drew.up (belA _ _)).hb.cell 1 rfl
       rw [drew_alloc13] at y1
       have HOw:=hideIt (HS.out.drew.ow.alloc (.cells #[.int .i64 (1+(v:Int).tmod (k:Int))] 3))
       rw [drew_alloc13] at HOw
       have HNw:=hideIt (newsI wr.drew (1+(v:Int).tmod (k:Int)))
       rw [drew_alloc13] at HNw
       have ht1:0≤(v:Int).tmod (k:Int):=Int.tmod_nonneg _ (by omega)
       have ht2:(v:Int).tmod (k:Int)<3:=by have:=Int.tmod_lt_of_pos (v:Int) (b:=(k:Int)) (by omega);omega
       have hwr:IntKind.i64.wrap (1+(v:Int).tmod (k:Int))=1+(v:Int).tmod (k:Int):=by rw [IntKind.wrap_i64];omega
       go_upto_region 11 with fail
       refine wp_region_any (by kernel_rfl) ?_
       change wpAny _ _ _ _ _ _ _ (World.drew _)
       refine takeOp (i:=0) (v:=?_) rfl (by kernel_rfl) (by kernel_rfl) (by kernel_rfl) (fun _ _ _ h=>h) (by kernel_rfl) ?_ ?_
       rotate_left
       ·intro w;go_simp;try with_reducible rfl
       try simp only [Act.put,pU0]
       refine takeOp (i:=2) (v:=?_) rfl (by kernel_rfl) (by kernel_rfl) (by kernel_rfl) (fun _ _ _ h=>h) (by kernel_rfl) ?_ ?_
       rotate_left
       ·intro w;go_simp;try with_reducible rfl
       try simp only [Act.put,pU0]
       refine takeOp (i:=3) (v:=?_) rfl (by kernel_rfl) (by kernel_rfl) (by kernel_rfl) (fun _ _ _ h=>h) (by kernel_rfl) ?_ ?_
       rotate_left
       ·intro w;go_simp;try with_reducible rfl
       try simp only [Act.put,pU0]
       refine takeOp (i:=4) (v:=?_) rfl (by kernel_rfl) (by kernel_rfl) (by kernel_rfl) (fun _ _ _ h=>h) (by kernel_rfl) ?_ ?_
       rotate_left
       ·intro w;go_simp;try with_reducible rfl
       try simp only [Act.put,pU0]
       refine takeOp (i:=5) (v:=?_) rfl (by kernel_rfl) (by kernel_rfl) (by kernel_rfl) (fun _ _ _ h=>h) (by kernel_rfl) ?_ ?_
       rotate_left
       ·intro w;go_simp;try with_reducible rfl
       try simp only [Act.put,pU0]
       refine wpAny_ready (rs:=[1,6]) (by kernel_rfl) (by simp) ?_
       refine AllReady.cons rfl (fun K hK=>?_) (AllReady.cons rfl (fun K hK=>?_) AllReady.nil)
       ·go_simp
        refine hK _ _ ?_
        clear hK K
        try simp only [Act.put,pU0]
        refine wpAny_ready (rs:=[6]) (by kernel_rfl) (by simp) ?_
        refine AllReady.cons rfl (fun K hK=>?_) AllReady.nil
        go_simp
        refine hK _ _ ?_
        clear hK K
        try simp only [Act.put,pU0]
        refine wpAny_ready (rs:=[7]) (by kernel_rfl) (by simp) ?_
        refine AllReady.cons rfl (fun K hK=>?_) AllReady.nil
        refine step_append_lies _ rfl _ _ 24 rfl (w.heap.size+3) 3 i0 _ 1 8 Tryz.underlying24 hi hz0 hz1 hz2 rfl (by decide) _ _ _ rfl (HOw.out) ⟨wr.heap.size,0,none⟩ 1 1 [.int .i64 (1+(v:Int).tmod (k:Int))] rfl rfl (HNw.out) (by intro u hu;simp at hu;subst hu;rfl) (by omega) (by unfold maxLen;omega) (by omega) (by have:=HS.out.lt;simp;omega) (wr.heap.size+1) (by simp) ?_
        intro g5 c5 w5 hown5 hg5 hat5 hlt5
        rw [← drew_alloc13] at hg5
        have Q5:=HS.out.drew.boxO hg5
        have x5:=Q5.cell 1 rfl
        have f5:=Q5.frozen 1
        have HS5:=hideIt (HS.out.drew.own hown5 hg5 hat5)
        clear hown5 hg5 hat5 hlt5 Q5
        refine hK _ _ ?_
        clear hK K
        try simp only [Act.put,pU0]
        refine wpAny_ready (rs:=[8]) (by kernel_rfl) (by simp) ?_
        refine AllReady.cons rfl (fun K hK=>?_) AllReady.nil
        go_simp
        refine hK _ _ ?_
        clear hK K
        try simp only [Act.put,pU0]
        refine wpAny_ready (rs:=[9]) (by kernel_rfl) (by simp) ?_
        refine AllReady.cons rfl (fun K hK=>?_) AllReady.nil
        go_simp
        refine hK _ _ ?_
        clear hK K
        try simp only [Act.put,pU0]
        refine wpAny_done (by kernel_rfl) ?_ _
        clear x5 f5
        go_wp2
        exact ⟨⟨v+1,c5,some ⟨g5,0,none⟩,by omega,by go_num,HS5⟩,by simp [intOf];omega⟩
       ·go_simp
        refine hK _ _ ?_
        clear hK K
        try simp only [Act.put,pU0]
        refine wpAny_ready (rs:=[1]) (by kernel_rfl) (by simp) ?_
        refine AllReady.cons rfl (fun K hK=>?_) AllReady.nil
        go_simp
        refine hK _ _ ?_
        clear hK K
        try simp only [Act.put,pU0]
        refine wpAny_ready (rs:=[7]) (by kernel_rfl) (by simp) ?_
        refine AllReady.cons rfl (fun K hK=>?_) AllReady.nil
        refine step_append_lies _ rfl _ _ 24 rfl (w.heap.size+3) 3 i0 _ 1 8 Tryz.underlying24 hi hz0 hz1 hz2 rfl (by decide) _ _ _ rfl (HOw.out) ⟨wr.heap.size,0,none⟩ 1 1 [.int .i64 (1+(v:Int).tmod (k:Int))] rfl rfl (HNw.out) (by intro u hu;simp at hu;subst hu;rfl) (by omega) (by unfold maxLen;omega) (by omega) (by have:=HS.out.lt;simp;omega) (wr.heap.size+1) (by simp) ?_
        intro g5 c5 w5 hown5 hg5 hat5 hlt5
        rw [← drew_alloc13] at hg5
        have Q5:=HS.out.drew.boxO hg5
        have x5:=Q5.cell 1 rfl
        have f5:=Q5.frozen 1
        have HS5:=hideIt (HS.out.drew.own hown5 hg5 hat5)
        clear hown5 hg5 hat5 hlt5 Q5
        refine hK _ _ ?_
        clear hK K
        try simp only [Act.put,pU0]
        refine wpAny_ready (rs:=[8]) (by kernel_rfl) (by simp) ?_
        refine AllReady.cons rfl (fun K hK=>?_) AllReady.nil
        go_simp
        refine hK _ _ ?_
        clear hK K
        try simp only [Act.put,pU0]
        refine wpAny_ready (rs:=[9]) (by kernel_rfl) (by simp) ?_
        refine AllReady.cons rfl (fun K hK=>?_) AllReady.nil
        go_simp
        refine hK _ _ ?_
        clear hK K
        try simp only [Act.put,pU0]
        refine wpAny_done (by kernel_rfl) ?_ _
        clear x5 f5
        go_wp2
        exact ⟨⟨v+1,c5,some ⟨g5,0,none⟩,by omega,by go_num,HS5⟩,by simp [intOf];omega⟩
      ·obtain rfl:v=nn:=by omega
       have XF:=BxA.setA (l:=[.int .i64 0,.slice none 0 0,.slice none 0 0,.slice none 0 0,.slice none 0 0,.int .i64 0,.int .i64 0,.int .i64 0,.int .i64 0,.int .i64 0,.int .i64 0,.int .i64 0,.slice none 0 0,.int .i64 0,.slice none 0 0]) HS.out.rs 0 [.int .i64 (v:Int),.slice aO v cO,.slice none 0 0,.slice aL k cL,.slice (some ⟨w.heap.size+1,0,none⟩) k k,.int .i64 0,.int .i64 0,.int .i64 0,.int .i64 0,.int .i64 0,.int .i64 0,.int .i64 0,.slice none 0 0,.int .i64 0,.slice none 0 0]
       rw [setV_all [.int .i64 0,.slice none 0 0,.slice none 0 0,.slice none 0 0,.slice none 0 0,.int .i64 0,.int .i64 0,.int .i64 0,.int .i64 0,.int .i64 0,.int .i64 0,.int .i64 0,.slice none 0 0,.int .i64 0,.slice none 0 0] [.int .i64 (v:Int),.slice aO v cO,.slice none 0 0,.slice aL k cL,.slice (some ⟨w.heap.size+1,0,none⟩) k k,.int .i64 0,.int .i64 0,.int .i64 0,.int .i64 0,.int .i64 0,.int .i64 0,.int .i64 0,.slice none 0 0,.int .i64 0,.slice none 0 0] rfl] at XF
       have c0_:=XF.at 0 rfl
       have c1_:=XF.at 1 rfl
       have c2_:=XF.at 2 rfl
       have c3_:=XF.at 3 rfl
       have c4_:=XF.at 4 rfl
       have c5_:=XF.at 5 rfl
       have c6_:=XF.at 6 rfl
       have c7_:=XF.at 7 rfl
       have c8_:=XF.at 8 rfl
       have c9_:=XF.at 9 rfl
       have c10_:=XF.at 10 rfl
       have c11_:=XF.at 11 rfl
       have c12_:=XF.at 12 rfl
       have c13_:=XF.at 13 rfl
       have c14_:=XF.at 14 rfl
       dsimp only [setA] at c0_ c1_ c2_ c3_ c4_ c5_ c6_ c7_ c8_ c9_ c10_ c11_ c12_ c13_ c14_
       have HC:=hideIt (And.intro c0_ (And.intro c1_ (And.intro c2_ (And.intro c3_ (And.intro c4_ (And.intro c5_ (And.intro c6_ (And.intro c7_ (And.intro c8_ (And.intro c9_ (And.intro c10_ (And.intro c11_ (And.intro c12_ (And.intro c13_ c14_))))))))))))))
       have k0:=HS.out.hb.cell 0 rfl
       have r0:=HS.out.rs.cell 0 rfl
       have z0:=HS.out.rs.frozen 0
       have k1:=HS.out.hb.cell 1 rfl
       have r1:=HS.out.rs.cell 1 rfl
       have z1:=HS.out.rs.frozen 1
       have k2:=HS.out.hb.cell 2 rfl
       have r2:=HS.out.rs.cell 2 rfl
       have z2:=HS.out.rs.frozen 2
       have k3:=HS.out.hb.cell 3 rfl
       have r3:=HS.out.rs.cell 3 rfl
       have z3:=HS.out.rs.frozen 3
       have k4:=HS.out.hb.cell 4 rfl
       have r4:=HS.out.rs.cell 4 rfl
       have z4:=HS.out.rs.frozen 4
       have k5:=HS.out.hb.cell 5 rfl
       have r5:=HS.out.rs.cell 5 rfl
       have z5:=HS.out.rs.frozen 5
       have k6:=HS.out.hb.cell 6 rfl
       have r6:=HS.out.rs.cell 6 rfl
       have z6:=HS.out.rs.frozen 6
       have k7:=HS.out.hb.cell 7 rfl
       have r7:=HS.out.rs.cell 7 rfl
       have z7:=HS.out.rs.frozen 7
       have k8:=HS.out.hb.cell 8 rfl
       have r8:=HS.out.rs.cell 8 rfl
       have z8:=HS.out.rs.frozen 8
       have k9:=HS.out.hb.cell 9 rfl
       have r9:=HS.out.rs.cell 9 rfl
       have z9:=HS.out.rs.frozen 9
       have k10:=HS.out.hb.cell 10 rfl
       have r10:=HS.out.rs.cell 10 rfl
       have z10:=HS.out.rs.frozen 10
       have k11:=HS.out.hb.cell 11 rfl
       have r11:=HS.out.rs.cell 11 rfl
       have z11:=HS.out.rs.frozen 11
       have k12:=HS.out.hb.cell 12 rfl
       have r12:=HS.out.rs.cell 12 rfl
       have z12:=HS.out.rs.frozen 12
       have k13:=HS.out.hb.cell 13 rfl
       have r13:=HS.out.rs.cell 13 rfl
       have z13:=HS.out.rs.frozen 13
       have k14:=HS.out.hb.cell 14 rfl
       have r14:=HS.out.rs.cell 14 rfl
       have z14:=HS.out.rs.frozen 14
       have HF:Hid (HOwn (setA wr w.heap.size 0 [.int .i64 (v:Int),.slice aO v cO,.slice none 0 0,.slice aL k cL,.slice (some ⟨w.heap.size+1,0,none⟩) k k,.int .i64 0,.int .i64 0,.int .i64 0,.int .i64 0,.int .i64 0,.int .i64 0,.int .i64 0,.slice none 0 0,.int .i64 0,.slice none 0 0]) w.heap.size (newH v k) ⟨⟨aO,v,cO⟩,nilS,⟨aL,k,cL⟩,⟨some ⟨w.heap.size+1,0,none⟩,k,k⟩,nilS,nilS⟩ R∧Below w.heap.size w (setA wr w.heap.size 0 [.int .i64 (v:Int),.slice aO v cO,.slice none 0 0,.slice aL k cL,.slice (some ⟨w.heap.size+1,0,none⟩) k k,.int .i64 0,.int .i64 0,.int .i64 0,.int .i64 0,.int .i64 0,.int .i64 0,.int .i64 0,.slice none 0 0,.int .i64 0,.slice none 0 0])) :=
        ⟨⟨own_mono (own_setA HS.out.ow (by omega) _ _) (by omega),World.ownsRow_nil _ _ _ _,(FB.setS HS.out.fb (by omega) _ _).lo (by omega),HS.out.rt,own_mono (own_setA HS.out.nu (by omega) _ _) (by omega),World.ownsRow_nil _ _ _ _,World.ownsRow_nil _ _ _ _⟩,below_setA HS.out.bl (by omega) _ _⟩
       have HP:Hid (HSep ⟨⟨aO,v,cO⟩,nilS,⟨aL,k,cL⟩,⟨some ⟨w.heap.size+1,0,none⟩,k,k⟩,nilS,nilS⟩ R):=by
        refine ⟨fun b hb e=>?_,HS.out.ne,fun r hr e=>?_⟩
        ·have h1:=(HS.out.ow.lt b hb).1
         simp [Value.ownBlock] at e
         omega
        ·have h1:=(HS.out.fb.ins r hr).2.1
         simp [Value.ownBlock] at e
         omega
       dsimp only [setA] at HF
       clear XF HS c0_ c1_ c2_ c3_ c4_ c5_ c6_ c7_ c8_ c9_ c10_ c11_ c12_ c13_ c14_
       go_wp2
       obtain ⟨c0_,c1_,c2_,c3_,c4_,c5_,c6_,c7_,c8_,c9_,c10_,c11_,c12_,c13_,c14_⟩:=HC.out
       exact bodyPost_ret (v:=.tuple #[.agg #[.int .i64 (v:Int),.slice aO v cO,.slice none 0 0,.slice aL k cL,.slice (some ⟨w.heap.size+1,0,none⟩) k k,.int .i64 0,.int .i64 0,.int .i64 0,.int .i64 0,.int .i64 0,.int .i64 0,.int .i64 0,.slice none 0 0,.int .i64 0,.slice none 0 0],.bool true]) (by simp [results,Tryz.results25,go_sem,c0_,c1_,c2_,c3_,c4_,c5_,c6_,c7_,c8_,c9_,c10_,c11_,c12_,c13_,c14_]) rfl ⟨aO,v,cO,aL,k,cL,_,R,by rw [HY.out.1,HY.out.2];rfl,by rw [HY.out.1];exact HF.out.1,HP.out,HF.out.2⟩
theorem HInv.lens {S:Nat} {h:Hd} {p:Hp} (k:HInv S h) {w:World} (H:HIn w h p):(p.o.n:Int)=h.N∧p.c.n≤66∧p.l.n=S∧p.n.n=S∧p.s.n≤80∧h.said.length=p.s.n∧h.own.length=p.o.n∧h.lab.length=p.l.n∧h.nums.length=p.n.n:=by
 have h1:=H.o.1
 have h2:=H.c.1
 have h3:=H.l.1
 have h4:=H.n.1
 have h6:=H.s.1
 have e:=k.cut
 unfold O.eOk at e
 rw [Bool.and_eq_true,decide_eq_true_iff] at e
 have:=k.own.1
 have:=k.lab.1
 have:=k.num.1
 have:=k.sd.1
 refine ⟨by omega,by omega,by omega,by omega,by omega,by omega,by omega,by omega,by omega⟩
theorem hidp20 {p:Prop} (h:p):Hid p:=h
theorem retB20 {a b:Bool} (h:a=b):Ending.returned (.bool a)=.returned (.bool b):=by rw [h]
theorem hasShard_any (h:Hd) (p:Hp) (x:Int) (w:World) :
  Calls Tryz.prog 124 #[.agg (hC h p),.int .i64 x] w fun e w'=>e=.returned (.bool (decide (1≤x∧x≤(p.l.n:Int))))∧Below w.heap.size w w':=by
 have X:=BxA.new w 35 (hC h p)
 have c3:=X.cell 3 rfl
 by_cases h1:1≤x
 ·have d1:decide (1≤x)=true:=decide_eq_true h1
  go_enter Tryz.func124,Tryz.ntmps124
  go_wp2
  go_ret
  exact ⟨retB20 (decide_eq_decide.2 (by omega)),belA _ _⟩
 ·have d1:decide (1≤x)=false:=decide_eq_false h1
  rw [decide_eq_false (show ¬ (1≤x∧x≤(p.l.n:Int)) by omega)]
  go_enter Tryz.func124,Tryz.ntmps124
  go_wp2
  go_ret
  exact ⟨rfl,belA _ _⟩
theorem hasVertex_any (h:Hd) (p:Hp) (x:Int) (w:World) :
  Calls Tryz.prog 133 #[.agg (hC h p),.int .i64 x] w fun e w'=>e=.returned (.bool (decide (0≤x∧x<h.N)))∧Below w.heap.size w w':=by
 have X:=BxA.new w 35 (hC h p)
 have c0:=X.cell 0 rfl
 by_cases h1:0≤x
 ·have d1:decide (0≤x)=true:=decide_eq_true h1
  go_enter Tryz.func133,Tryz.ntmps133
  go_wp2
  go_ret
  exact ⟨retB20 (decide_eq_decide.2 (by omega)),belA _ _⟩
 ·have d1:decide (0≤x)=false:=decide_eq_false h1
  rw [decide_eq_false (show ¬ (0≤x∧x<h.N) by omega)]
  go_enter Tryz.func133,Tryz.ntmps133
  go_wp2
  go_ret
  exact ⟨rfl,belA _ _⟩
set_option maxRecDepth 100000 in
set_option maxHeartbeats 8000000 in
theorem shardsOk_inv {S:Nat} {h:Hd} {p:Hp} (k:HInv S h) (w:World) (H:HIn w h p) :
  Calls Tryz.prog 102 #[.agg (hC h p)] w fun e w'=>e=.returned (.bool true)∧Below w.heap.size w w':=by
 have HE:Hid (h.lab.length=p.l.n∧h.nums.length=p.n.n∧p.n.n=p.l.n∧1≤p.l.n∧p.l.n≤3):=by
  have:=k.lens H
  have:=k.s
  refine ⟨?_,?_,?_,?_,?_⟩ <;> omega
 obtain ⟨sO,sC,⟨a3,n3,k3⟩,⟨a4,n4,k4⟩,sE,sS⟩:=p
 dsimp only at HE
 have s1:=HE.out.2.2.2
 obtain ⟨W,hW⟩:∃ W,W=w.alloc (.cells (hC h ⟨sO,sC,⟨a3,n3,k3⟩,⟨a4,n4,k4⟩,sE,sS⟩) 35):=⟨_,rfl⟩
 have bW:Below w.heap.size w W:=by rw [hW];exact belA _ _
 have X:BxA W w.heap.size 35 (hC h ⟨sO,sC,⟨a3,n3,k3⟩,⟨a4,n4,k4⟩,sE,sS⟩):=by rw [hW];exact BxA.new _ _ _
 have HX:=hideIt X
 have HB:=hideIt bW
 have HL:=hideIt (H.l.up bW)
 have HN:=hideIt (H.n.up bW)
 have HS:=hideIt (shIdOk_any (n3:Int))
 have r1:decide (1≤(n3:Int)∧(n3:Int)≤3)=true:=decide_eq_true (by omega)
 have r2:((n4:Int) != (n3:Int))=false:=by rw [HE.out.2.2.1];simp
 have HLb:=hideIt k.lab.2
 have HNb:=hideIt k.num.2
 have HSd:=hideIt k.sd.1
 have HN12:=hideIt k.n.2
 rw [r1] at HS
 have c3:W.cell? ⟨w.heap.size,3,none⟩=some (.slice a3 n3 k3):=X.cell 3 rfl
 have c4:W.cell? ⟨w.heap.size,4,none⟩=some (.slice a4 n4 k4):=X.cell 4 rfl
 clear X bW H r1 k
 go_enter Tryz.func102,Tryz.ntmps102
 go_upto_region 1 with fail
 rw [← hW]
 clear hW
 go_wp2_with (go_at_call 61;refine (HS.out _).mono ?_;rintro e w1 ⟨rfl,e1⟩;have e2:=e1.symm;subst e2)
 go_loopw [22] (fun i wr=>∃ j:Nat,j≤n3∧i=.int .i64 (j:Int)∧Hid (Below W.heap.size W wr)) (fun i _=>n3 - (intOf i).toNat)
 case atStart=>exact ⟨0,by omega,rfl,Below.refl _ _⟩
 case round =>
  obtain ⟨j,hj,rfl,hb⟩:=hrel
  have Y:=HX.out.up hb.out
  have y0:wr.cell? ⟨w.heap.size,0,none⟩=some (.int .i64 h.N):=Y.cell 0 rfl
  have y4:wr.cell? ⟨w.heap.size,4,none⟩=some (.slice a4 n4 k4):=Y.cell 4 rfl
  by_cases hlt:j<n3
  ·rcases (HL.out.up hb.out).2 with h0 | ⟨b,off,rfl,hbl,hc⟩
   ·omega
   rcases (HN.out.up hb.out).2 with h0 | ⟨bn,on,rfl,hbn,hcn⟩
   ·have:=HE.out;omega
   obtain ⟨ls,hls⟩:∃ ls,h.lab[j]?=some ls:=⟨h.lab[j]'(by have:=HE.out;omega),List.getElem?_eq_getElem (by have:=HE.out;omega)⟩
   obtain ⟨x,hx⟩:∃ x,h.nums[j]?=some x:=⟨h.nums[j]'(by have:=HE.out;omega),List.getElem?_eq_getElem (by have:=HE.out;omega)⟩
   obtain ⟨al,cl,cx,hIs,_⟩:=hc j _ hls
   have cn:=hcn j _ hx
   have hlb:=HLb.out ls (List.mem_of_getElem? hls)
   have hxb:=HNb.out x (List.mem_of_getElem? hx)
   have hl12:ls.length≤1048576:=by
    have:=(O.lB_bytes HN12.out hlb).1
    have:=HN12.out
    omega
   have HLk:=hideIt (Q.labelsOk_any h.N ls ls.length al cl hl12 wr hIs)
   rw [hlb] at HLk
   have b1:(0:Int)≤(j:Int):=by omega
   have b2:(j:Int)<(n3:Int):=by omega
   have b3:(j:Int)<(n4:Int):=by have:=HE.out;omega
   have d1:decide (x<0)=false:=decide_eq_false (by omega)
   have d2:decide (99991<x)=false:=decide_eq_false (by have:=HSd.out;split at hxb <;> omega)
   have kb:=(hideIt (show bn<wr.heap.size from hbn))
   clear hc hcn hls hIs
   go_wp2_with (go_at_call 116;refine HLk.out.mono ?_;rintro e w2 ⟨rfl,hb2⟩;have z4:w2.cell? ⟨w.heap.size,4,none⟩=some (.slice (some ⟨bn,on,none⟩) n4 k4):=(Y.up hb2).cell 4 rfl;have cn2:w2.cell? ⟨bn,on+j,none⟩=some (.int .i64 x):=by rw [hb2.cell (p:=⟨bn,on+j,none⟩) kb.out];exact cn)
   exact ⟨⟨j+1,by omega,by go_num,hb.out.trans (hb2.mono hb.out.size)⟩,by simp [intOf];omega⟩
  ·obtain rfl:j=n3:=by omega
   have d1:decide ((j:Int)<(j:Int))=false:=by simp
   go_wp2
   go_ret
   exact ⟨rfl,HB.out.trans (hb.out.mono HB.out.size)⟩
abbrev EdgeV:=Int × Int
def Es (w:World) (B:Nat) (a:Option Addr) (n:Nat) (es:List EdgeV):Prop :=
 es.length=n∧(n=0∨∃ b off,a=some ⟨b,off,none⟩∧b<B∧∀ (j:Nat) (f:EdgeV),es[j]?=some f →
  w.cell? ⟨b,off+j*2,none⟩=some (.int .i64 f.1)∧w.cell? ⟨b,off+j*2+1,none⟩=some (.int .i64 f.2))
theorem Es.below {w w':World} {B C:Nat} {a:Option Addr} {n:Nat} {fs:List EdgeV} (h:Es w B a n fs) (hb:Below C w w') (hB:B≤C):Es w' B a n fs:=by
 refine ⟨h.1,h.2.imp id ?_⟩
 rintro ⟨b,off,ha,hbl,hc⟩
 refine ⟨b,off,ha,hbl,fun j f hf=>?_⟩
 obtain ⟨c0,c1⟩:=hc j f hf
 have hl:b<C:=by omega
 exact ⟨by rw [hb.cell (p:=⟨b,_,none⟩) hl];exact c0,by rw [hb.cell (p:=⟨b,_,none⟩) hl];exact c1⟩
def ecell (f:EdgeV):List Value:=[.int .i64 f.1,.int .i64 f.2]
def ecells (fs:List EdgeV):List Value:=fs.flatMap ecell
theorem ecells_length (fs:List EdgeV):(ecells fs).length=fs.length*2:=by
 induction fs with
 | nil=>rfl
 | cons f fs ih=>simp only [ecells,List.flatMap_cons,List.length_append,List.length_cons] at ih ⊢;rw [ih];simp [ecell];omega
theorem ecells_at (fs:List EdgeV) (j:Nat) (f:EdgeV) (h:fs[j]?=some f) :
  (ecells fs)[j*2]?=some (.int .i64 f.1)∧(ecells fs)[j*2+1]?=some (.int .i64 f.2):=by
 induction fs generalizing j with
 | nil=>simp at h
 | cons g fs ih =>
  cases j with
  | zero=>simp at h;subst h;simp [ecells,ecell]
  | succ j =>
   have h2:=ih j (by simpa using h)
   have e:∀ m,(ecells (g :: fs))[m+2]?=(ecells fs)[m]?:=fun m=>by simp [ecells,ecell]
   refine ⟨?_,?_⟩
   ·rw [show (j+1)*2=j*2+2 by omega,e];exact h2.1
   ·rw [show (j+1)*2+1=j*2+1+2 by omega,e];exact h2.2
theorem ecells_append (fs gs:List EdgeV):ecells (fs ++ gs)=ecells fs ++ ecells gs:=by simp [ecells]
theorem infoIE:(Tryz.prog.info? 107).map (fun i=>(i.zero,i.size,i.bytes))=some (some (.agg #[.int .i64 0,.int .i64 0]),2,16):=by kernel_rfl
theorem Es_of_own {w:World} {B n c:Nat} {a:Option Addr} {fs:List EdgeV} (h:w.ownsRow B 107 2 (.slice a n c) n (ecells fs)):Es w w.heap.size a n fs:=by
 have hl:=h.1
 rw [ecells_length] at hl
 refine ⟨by omega,?_⟩
 rcases h.2 with ⟨hv,h0⟩ | ⟨g,cap,cur,hv,hrest⟩
 ·exact .inl h0
 ·simp at hv
  obtain ⟨rfl,rfl⟩:=hv
  by_cases h0:n=0
  ·exact .inl h0
  ·refine .inr ⟨g,0,rfl,(h.lt g rfl).2,fun j f hf=>?_⟩
   have hj:j<fs.length:=(List.getElem?_eq_some_iff.1 hf).1
   obtain ⟨c0,c1⟩:=ecells_at fs j f hf
   rw [Nat.zero_add]
   exact ⟨by rw [h.cellAt (j*2) (by omega)];exact c0,by rw [h.cellAt (j*2+1) (by omega)];exact c1⟩
end Go.Proofs.YtnagchanokbgdaaGreat
