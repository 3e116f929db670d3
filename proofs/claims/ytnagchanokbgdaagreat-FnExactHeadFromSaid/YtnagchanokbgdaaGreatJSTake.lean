/- slices.SortFunc of a list of edges by compareEdges, in place. All edges of a whole: the program's WholeEdges. The edges inside of a shard: the program's Inside and the specification's. Edges that come together, edges that go. The program's TakeEdge. The specification's l05Without and TakeEdge. -/
import Derived.Test.YtnagchanokbgdaaGreatJIGraph
import Derived.Test.YtnagchanokbgdaaGreatJCon11
import Derived.Test.YtnagchanokbgdaaGreatJShelf8
import Derived.Test.YtnagchanokbgdaaGreatJUn11
import Derived.Test.YtnagchanokbgdaaGreatJRd10
import Derived.Test.YtnagchanokbgdaaGreatJArnd
namespace Go.Proofs.YtnagchanokbgdaaGreat.O
open Go.RowKit Go.Sort Go.Lib
set_option maxHeartbeats 1000000 in
theorem compareEdges_grow (d e:EdgeV) (w:World) :
  Calls Tryz.prog 122 #[.agg #[.int .i64 d.1,.int .i64 d.2],.agg #[.int .i64 e.1,.int .i64 e.2]] w fun x w'=>x=.returned (.int .i64 (cmpE d e))∧∃ q os',w'=grow (w.drewN q) os':=by
 obtain ⟨a,b⟩:=d
 obtain ⟨c,f⟩:=e
 dsimp only
 have HC:=hideIt cmpCompare_any
 have HO:Hid (Calls Tryz.prog 145 #[.slice (some ⟨w.heap.size+1+1,0,none⟩) 2 2] (((w.alloc (.cells #[.int .i64 a,.int .i64 b] 107)).alloc (.cells #[.int .i64 c,.int .i64 f] 107)).alloc (.cells #[.int .i64 (cmpI a c),.int .i64 (cmpI b f)] 3)).drew
   fun e w'=>e=.returned (.int .i64 (cmpE (a,b) (c,f)))∧w'=(((w.alloc (.cells #[.int .i64 a,.int .i64 b] 107)).alloc (.cells #[.int .i64 c,.int .i64 f] 107)).alloc (.cells #[.int .i64 (cmpI a c),.int .i64 (cmpI b f)] 3)).drew) :=
  cmpOr_any (cmpI a c) (cmpI b f) (w.heap.size+1+1) _ (by simp [go_sem]) (by simp [go_sem])
 go_enter Tryz.func122,Tryz.ntmps122
 go_wp2
 go_region_held3 (fun u=>(u.cell? ⟨w.heap.size,0,none⟩=some (.int .i64 a)∧u.cell? ⟨w.heap.size,1,none⟩=some (.int .i64 b))∧u.cell? ⟨w.heap.size+1,0,none⟩=some (.int .i64 c)∧u.cell? ⟨w.heap.size+1,1,none⟩=some (.int .i64 f))
  (go_keep)
  (first
   | (go_at_call 101;refine (HC.out _ _ _).mono ?_;rintro e w1 ⟨rfl,rfl⟩)
   | (go_at_call 145;refine HO.out.mono ?_;rintro e w1 ⟨rfl,rfl⟩))
 all_goals
  go_wp2
  go_ret
  exact ⟨rfl,1,_,by rw [alloc_eq_grow,alloc_eq_grow,alloc_eq_grow,grow_grow,grow_grow];rfl⟩
theorem ltE (x y:EdgeV):ltOf cmpE x y=lt x y:=by
 unfold ltOf
 rw [Bool.eq_iff_iff,decide_eq_true_iff,cmpE_neg]
theorem swoE:SWO (ltOf cmpE) where
 irrefl x:=by rw [ltE];exact lt_irrefl' x
 trans x y z h1 h2:=by rw [ltE] at *;exact lt_trans' h1 h2
 ntrans x y z h1 h2:=by
  rw [ltE] at *
  cases h:lt x z with
  | false=>rfl
  | true =>
   rw [lt_iff] at h
   have a1:¬ (lt x y=true):=by rw [h1];simp
   have a2:¬ (lt y z=true):=by rw [h2];simp
   rw [lt_iff] at a1 a2
   omega
def srtE (es:List EdgeV):List EdgeV:=es.mergeSort fun x y=>!(lt y x)
theorem srtE_eq (es:List EdgeV):(es.mergeSort fun x y=>!(ltOf cmpE) y x)=srtE es:=by
 unfold srtE
 congr 1
 funext x y
 rw [ltE]
theorem srtE_perm (es:List EdgeV):(srtE es).Perm es:=List.mergeSort_perm _ _
theorem srtE_mem (es:List EdgeV) (e:EdgeV):e ∈ srtE es↔e ∈ es:=(srtE_perm es).mem_iff
theorem srtE_len (es:List EdgeV):(srtE es).length=es.length:=(srtE_perm es).length_eq
theorem srtE_asc {es:List EdgeV} (hn:es.Nodup):Asc (srtE es):=by
 have hp:(srtE es).Pairwise (fun x y=>(!(lt y x))=true):=List.pairwise_mergeSort (fun a b c h1 h2=>by
   simp only [Bool.not_eq_true'] at h1 h2 ⊢
   have a1:¬ (lt b a=true):=by rw [h1];simp
   have a2:¬ (lt c b=true):=by rw [h2];simp
   cases h:lt c a with
   | false=>rfl
   | true =>
    rw [lt_iff] at h a1 a2
    omega) (fun a b=>by
   cases h:lt b a with
   | false=>simp
   | true=>simp [lt_asymm' h]) es
 have hn2:(srtE es).Nodup:=(srtE_perm es).nodup_iff.2 hn
 intro i j d e hij hd he
 obtain ⟨q0,q1⟩:=List.getElem?_eq_some_iff.1 hd
 obtain ⟨q2,q3⟩:=List.getElem?_eq_some_iff.1 he
 have h1:=List.pairwise_iff_getElem.1 hp i j q0 q2 hij
 have h2:=List.pairwise_iff_getElem.1 hn2 i j q0 q2 hij
 rw [q1,q3] at h1 h2
 simp only [Bool.not_eq_true'] at h1
 exact lt_total' h1 (fun e=>h2 e.symm)
theorem flat_cells (es:List EdgeV):flatK ecell 2 es.toArray=(ecells es).toArray:=by
 refine ext_get! (by simp [ecells_length]) fun t ht=>?_
 have ht':t<es.length*2:=by simpa using ht
 rw [get_flatK _ _ _ t (by simpa using ht')]
 obtain ⟨f,hf⟩:∃ f,es[t / 2]?=some f:=⟨es[t / 2]'(by omega),List.getElem?_eq_getElem (by omega)⟩
 have hfe:es.toArray[t / 2]! = f:=by
  rw [getElem!_pos _ _ (by simp;omega)]
  obtain ⟨q,e⟩:=List.getElem?_eq_some_iff.1 hf
  simpa using e
 rw [hfe]
 obtain ⟨h0,h1⟩:=ecells_at es (t / 2) f hf
 have hl:t<(ecells es).length:=by rw [ecells_length];exact ht'
 rw [getElem!_pos _ t (by simpa using hl)]
 rcases Nat.mod_two_eq_zero_or_one t with h | h
 ·have et:t / 2*2=t:=by omega
  rw [et] at h0
  obtain ⟨q,e⟩:=List.getElem?_eq_some_iff.1 h0
  rw [h]
  simpa [ecell] using e.symm
 ·have et:t / 2*2+1=t:=by omega
  rw [et] at h1
  obtain ⟨q,e⟩:=List.getElem?_eq_some_iff.1 h1
  rw [h]
  simpa [ecell] using e.symm
theorem take_putId (cur F:Array Value) (h:F.size≤cur.size):(putCells id 0 F cur).toList.take F.size=F.toList:=by
 apply List.ext_getElem?
 intro j
 by_cases hj:j<F.size
 ·rw [List.getElem?_take_of_lt hj,Array.getElem?_toList]
  simp [putCells,hj,show j<cur.size by omega]
 ·rw [List.getElem?_take_eq_none (by omega),List.getElem?_eq_none (by simp;omega)]
theorem heap_putId {w:World} {g n:Nat} {os:Array Obj} {cur:Array Value} {e:TypeId} {fr:Nat × Nat} (F:Array Value) (hb:w.heap[g]?=some (.cells cur e fr)) :
  (grow (putRow id (Sort.ahead w n) g 0 F) os).heap[g]?=some (.cells (putCells id 0 F cur) e fr):=by
 have hg:g<w.heap.size:=(Array.getElem?_eq_some_iff.1 hb).1
 rw [heap_grow_old _ _ (by simpa using hg)]
 simp [putRow,mapBlock,Sort.ahead,Array.getElem?_modify,hb,onCells]
theorem grown_putId {w:World} {g n:Nat} {os:Array Obj} (F:Array Value):w.grownBy (grow (putRow id (Sort.ahead w n) g 0 F) os) (some g):=by
 refine ⟨rfl,rfl,rfl,by simp,fun k hk hne=>?_⟩
 rw [heap_grow_old _ _ (by simpa using hk)]
 have:g≠k:=fun e=>hne (by rw [e])
 simp [putRow,mapBlock,Sort.ahead,Array.getElem?_modify,this]
set_option maxHeartbeats 1000000 in
theorem sortFE_any (es:List EdgeV) (m:Nat) (v:Value) (B:Nat) (hm:m≤3000000) (w:World) (h:w.ownsRow B 107 2 v m (ecells es)) :
  Calls Tryz.prog 162 #[v,.func (.func 122) #[] #[]] w fun e w'=>e=.returned (.tuple #[])∧w'.ownsRow B 107 2 v m (ecells (srtE es))∧(B≤w.heap.size→Below B w w'):=by
 have hl:=h.1
 rw [ecells_length] at hl
 rcases h.2 with ⟨rfl,h0⟩ | ⟨g,cap,cur,rfl,hg,hgb,r1,r2,r3,r4⟩
 ·have hc:=AnyF.slices_SortFunc_none Tryz.laysSF none 0 (.func (.func 122) #[] #[]) w
  change Calls Tryz.prog 162 _ _ _ at hc
  refine hc.mono ?_
  rintro e w' ⟨rfl,rfl⟩
  have e:es=[]:=List.eq_nil_of_length_eq_zero (by omega)
  subst e
  exact ⟨rfl,by simpa [srtE] using h,fun _=>Below.refl _ _⟩
 ·have hgl:g<w.heap.size:=(Array.getElem?_eq_some_iff.1 hgb).1
  have hH:HoldsK ecell 2 w g 0 es.toArray:=by
   unfold HoldsK
   rw [flat_cells]
   intro j hj
   have hj':j<(ecells es).length:=by simpa using hj
   refine ⟨?_,h.frozenAt (0+j)⟩
   rw [Nat.zero_add,h.cellAt j (by rw [ecells_length] at hj';omega),getElem!_pos _ j hj]
   simp [hj']
  have hc:=AnyQ.slices_SortFunc_total Tryz.laysSF 2 Tryz.isAgg107 Tryz.sizeOf107 ecell (fun _=>rfl) (fun x u hu=>by simp [ecell] at hu;rcases hu with rfl | rfl <;> rfl) cmpE swoE 122 #[] g 0 cap es.toArray w
   (enters_of Tryz.func122 (by kernel_rfl) rfl) (fun _ _ _ _ x y=>compareEdges_grow x y _) hH hgl (by simp;omega) (fun x y h1 h2=>by
    rw [ltE] at h1 h2
    exact Classical.byContradiction fun hne=>by have:=lt_total' h1 hne;rw [h2] at this;simp at this)
  change Calls Tryz.prog 162 _ _ _ at hc
  rw [show es.toArray.size=m by simp;omega] at hc
  refine hc.mono ?_
  rintro e w' ⟨rfl,n,os,rfl⟩
  rw [show es.toArray.toList=es by simp,srtE_eq]
  unfold sortWorldK putRowK
  rw [flat_cells]
  have hsl:(ecells (srtE es)).toArray.size=m*2:=by simp [ecells_length,srtE_len];omega
  refine ⟨rfl,⟨by rw [ecells_length,srtE_len];omega,.inr ⟨g,cap,_,rfl,hg,heap_putId _ hgb,r1,r2,by simp [putCells,r3],?_⟩⟩,fun hB=>(Below.refl _ w).grown (grown_putId _) hB (fun j e=>by cases e;exact hg)⟩
  have:=take_putId cur (ecells (srtE es)).toArray (by rw [hsl,r3];omega)
  rw [hsl] at this
  simpa using this
end Go.Proofs.YtnagchanokbgdaaGreat.O
namespace Go.Proofs.YtnagchanokbgdaaGreat.O
open Go.RowKit
def PEs (w:World) (B:Nat) (a:Option Addr) (n:Nat) (ps:List Part):Prop :=
 ps.length=n∧(n=0∨∃ b off,a=some ⟨b,off,none⟩∧b<B∧∀ (j:Nat) (p:Part),ps[j]?=some p→w.cell? ⟨b,off+j,none⟩=some (.slice p.a p.m p.c))∧∀ p ∈ ps,Es w B p.a p.m p.es∧(p.a=none→p.m=0∧p.c=0)
theorem PEs.up {w w':World} {a:Option Addr} {n:Nat} {ps:List Part} (h:PEs w w.heap.size a n ps) (hb:Below w.heap.size w w'):PEs w' w'.heap.size a n ps:=by
 refine ⟨h.1,h.2.1.imp id ?_,fun p hp=>⟨(h.2.2 p hp).1.up hb,(h.2.2 p hp).2⟩⟩
 rintro ⟨b,off,h1,h2,h3⟩
 have:=hb.size
 exact ⟨b,off,h1,by omega,fun j p hp=>by rw [hb.cell (p:=⟨b,_,none⟩) h2];exact h3 j p hp⟩
def hdr (p:Part):Value:=.slice p.a p.m p.c
theorem PEs.vs {w:World} {B:Nat} {a:Option Addr} {n:Nat} {ps:List Part} (h:PEs w B a n ps):Vs w B a n (ps.map hdr)∧Hdr (ps.map hdr):=by
 refine ⟨⟨by rw [List.length_map];exact h.1,h.2.1.imp id ?_⟩,fun v hv=>?_⟩
 ·rintro ⟨b,off,h1,h2,h3⟩
  refine ⟨b,off,h1,h2,fun j v hv=>?_⟩
  rw [List.getElem?_map,Option.map_eq_some_iff] at hv
  obtain ⟨p,hp,rfl⟩:=hv
  exact h3 j p hp
 ·obtain ⟨p,_,rfl⟩:=List.mem_map.1 hv
  exact ⟨_,_,_,rfl⟩
set_option maxHeartbeats 2000000 in
theorem sortedEdges_any (ps:List Part) (b k0 cp:Nat) (hk0:ps.length=k0) (hsm:k0≤3000000) (w:World) (h:Parts w b ps) (hlen:pLen ps≤3000000) :
  Calls Tryz.prog 158 #[.slice (some ⟨b,0,none⟩) k0 cp] w fun e w'=>∃ a m c,e=.returned (.slice a m c)∧w'.ownsRow w.heap.size 107 2 (.slice a m c) m (ecells (srtE (pAll ps)))∧Below w.heap.size w w':=by
 have hl:=pAll_len h k0
 rw [List.take_of_length_le (by omega)] at hl
 have HA:=hideIt (ConcatN_any ps b k0 cp hk0 hsm w h hlen)
 clear h hk0
 go_enter Tryz.func158,Tryz.ntmps158
 go_wp2_with (go_at_call 107;refine HA.out.mono ?_;rintro e w1 ⟨a,m,c,rfl,ho,hb⟩;refine Hid.out ?_)
 refine (show ∀ {p:Prop},p→Hid p from fun h=>h) ?_
 have hm:m≤3000000:=by have:=ho.1;rw [ecells_length] at this;omega
 have HS:=hideIt (sortFE_any (pAll ps) m _ w.heap.size hm w1 ho)
 clear HA ho
 go_wp2_with (go_at_call 162;refine HS.out.mono ?_;rintro e w2 ⟨rfl,ho2,hb2⟩)
 go_ret
 exact ⟨a,m,c,rfl,ho2,hb.trans (hb2 hb.size)⟩
noncomputable def weO (all:List EdgeV):Option (List EdgeV):=if all.Nodup then some (srtE all) else none
theorem srt_sorted (es:List EdgeV):(srtE es).Pairwise (fun x y=>lt y x=false):=by
 have hp:(srtE es).Pairwise (fun x y=>(!(lt y x))=true):=List.pairwise_mergeSort (fun a b c h1 h2=>by
   simp only [Bool.not_eq_true'] at h1 h2 ⊢
   have a1:¬ (lt b a=true):=by rw [h1];simp
   have a2:¬ (lt c b=true):=by rw [h2];simp
   cases h:lt c a with
   | false=>rfl
   | true =>
    rw [lt_iff] at h a1 a2
    omega) (fun a b=>by
   cases h:lt b a with
   | false=>simp
   | true=>simp [lt_asymm' h]) es
 exact hp.imp (fun h=>by simpa using h)
theorem weO_no {all:List EdgeV} {k:Nat} {e:EdgeV} (h1:(srtE all)[k+1]?=some e) (h0:(srtE all)[k]?=some e):weO all=none:=by
 unfold weO
 rw [if_neg]
 intro hn
 have hn2:=(srtE_perm all).nodup_iff.2 hn
 obtain ⟨q0,q1⟩:=List.getElem?_eq_some_iff.1 h0
 obtain ⟨q2,q3⟩:=List.getElem?_eq_some_iff.1 h1
 have:=List.pairwise_iff_getElem.1 hn2 k (k+1) q0 q2 (by omega)
 rw [q1,q3] at this
 exact this rfl
theorem weO_yes {all:List EdgeV} (h:∀ k d e,(srtE all)[k]?=some d→(srtE all)[k+1]?=some e→d≠e):weO all=some (srtE all):=by
 unfold weO
 rw [if_pos]
 refine (srtE_perm all).nodup_iff.1 ?_
 have hs:=srt_sorted all
 generalize srtE all=L at *
 have hstep:∀ k d e,L[k]?=some d→L[k+1]?=some e→lt d e=true:=fun k d e hd he=>by
  obtain ⟨q0,q1⟩:=List.getElem?_eq_some_iff.1 hd
  obtain ⟨q2,q3⟩:=List.getElem?_eq_some_iff.1 he
  have h1:=List.pairwise_iff_getElem.1 hs k (k+1) q0 q2 (by omega)
  rw [q1,q3] at h1
  exact lt_total' h1 (fun x=>h k d e hd he x.symm)
 have hall:∀ j k d e,L[k]?=some d→L[k+(j+1)]?=some e→lt d e=true:=fun j=>by
  induction j with
  | zero=>exact fun k d e hd he=>hstep k d e hd he
  | succ j ih =>
   intro k d e hd he
   have hk:=(List.getElem?_eq_some_iff.1 he).1
   obtain ⟨f,hf⟩:∃ f,L[k+1]?=some f:=⟨L[k+1]'(by omega),List.getElem?_eq_getElem (by omega)⟩
   exact lt_trans' (hstep k d f hd hf) (ih (k+1) f e hf (by rw [show k+1+(j+1)=k+(j+1+1) by omega];exact he))
 refine List.pairwise_iff_getElem.2 fun i j hi hj hij e=>?_
 have:=hall (j - i - 1) i L[i] L[j] (List.getElem?_eq_getElem hi) (by rw [show i+(j - i - 1+1)=j by omega];exact List.getElem?_eq_getElem hj)
 rw [← e,lt_irrefl'] at this
 cases this
def WAns2 (w:World) (o:Option (List EdgeV)) (e:Ending) (w':World):Prop :=
 ∃ a m c,e=.returned (.tuple #[.slice a m c,.bool o.isSome])∧w'.ownsRow w.heap.size 107 2 (.slice a m c) m (ecells (o.getD []))∧Below w.heap.size w w'
set_option maxRecDepth 100000 in
set_option maxHeartbeats 4000000 in
theorem iWholeEdges_any (ps:List Part) (n:Nat) (a:Option Addr) (c:Nat) (ha:a=none→n=0∧c=0) (cuts:List EdgeV) (m:Nat) (ac:Option Addr) (cc:Nat) (hac:ac=none→m=0∧cc=0) (hn:n≤1048576) (hm:m+pLen ps≤2097152) (w:World) (h:PEs w w.heap.size a n ps) (hE:Es w w.heap.size ac m cuts) :
  Calls Tryz.prog 139 #[.slice a n c,.slice ac m cc] w fun e w'=>WAns2 w (weO (pAll ps ++ cuts)) e w':=by
 obtain ⟨W1,hW1⟩:∃ W1,W1=(w.alloc (.cells #[.slice ac m cc] 25)).alloc (.cells #[.slice a n c,.slice (some ⟨w.heap.size,0,none⟩) 1 1] 151):=⟨_,rfl⟩
 have bW:Below w.heap.size w W1:=by rw [hW1];exact ((Below.refl _ _).alloc (Nat.le_refl _) _).alloc (by simp) _
 have z1:W1.heap.size=w.heap.size+2:=by rw [hW1];simp
 have hPV:PartsV W1 (w.heap.size+1) [⟨a,n,c,ps.map hdr⟩,⟨some ⟨w.heap.size,0,none⟩,1,1,[.slice ac m cc]⟩]:=by
  refine ⟨by omega,fun j p hp=>?_⟩
  rcases j with _ | _ | j
  ·simp at hp
   subst hp
   exact ⟨by rw [hW1];simp [go_sem],(h.up bW).vs,ha⟩
  ·simp at hp
   subst hp
   refine ⟨by rw [hW1];simp [go_sem],⟨⟨rfl,.inr ⟨w.heap.size,0,rfl,by omega,fun j v hv=>?_⟩⟩,fun v hv=>?_⟩,fun e=>by cases e⟩
   ·rcases j with _ | j
    ·simp at hv
     subst hv
     rw [hW1]
     simp [go_sem]
    ·simp at hv
   ·simp at hv
    subst hv
    exact ⟨_,_,_,rfl⟩
  ·simp at hp
 have HC:=hideIt (ConcatV_any _ (w.heap.size+1) 2 rfl (by omega) W1 hPV (by simp [vLen];omega))
 have HP:=hideIt (h.up bW)
 have HE:=hideIt (hE.up bW)
 have hpl:=h.1
 clear h hE hPV
 go_enter Tryz.func139,Tryz.ntmps139
 go_wp2_with (go_at_call 159;rw [← hW1];refine HC.out.mono ?_;rintro e w2 ⟨a2,m2,c2,rfl,ho2,b2⟩;refine Hid.out ?_)
 refine (show ∀ {p:Prop},p→Hid p from fun h=>h) ?_
 obtain ⟨g,rfl,hm2,hpa⟩:∃ g,a2=some ⟨g,0,none⟩∧m2=n+1∧Parts w2 g (ps ++ [⟨ac,m,cc,cuts⟩]):=by
  have hl:=ho2.1
  simp [vAll] at hl
  rcases ho2.2 with ⟨_,h0⟩ | ⟨g,cap,cur,hv,_⟩
  ·omega
  ·simp at hv
   obtain ⟨rfl,rfl⟩:=hv
   refine ⟨g,rfl,by omega,(ho2.lt g rfl).2,fun j p hp=>?_⟩
   refine ⟨?_,?_⟩
   ·have hj:=(List.getElem?_eq_some_iff.1 hp).1
    rw [ho2.cellAt j (by simp at hj;omega)]
    have e:vAll [⟨a,n,c,ps.map hdr⟩,⟨some ⟨w.heap.size,0,none⟩,1,1,[.slice ac m cc]⟩]=(ps ++ [(⟨ac,m,cc,cuts⟩:Part)]).map hdr:=by simp [vAll,hdr]
    rw [e,List.getElem?_map,hp]
    rfl
   ·rcases List.mem_append.1 (List.mem_of_getElem? hp) with h1 | h1
    ·exact ⟨((HP.out.2.2 p h1).1).up b2,(HP.out.2.2 p h1).2⟩
    ·simp at h1
     subst h1
     exact ⟨HE.out.up b2,hac⟩
 subst hm2
 have hll:(pAll ps ++ cuts).length≤3000000:=by
  have:=pAll_len hpa (n+1)
  rw [List.take_of_length_le (by simp;omega),pAll_snoc,pLen_snoc] at this
  dsimp only at this
  omega
 have HS:=hideIt (sortedEdges_any (ps ++ [⟨ac,m,cc,cuts⟩]) g (n+1) c2 (by simp;exact hpl) (by omega) w2 hpa (by rw [pLen_snoc];show pLen ps+m≤_;omega))
 rw [pAll_snoc] at HS
 have B2:Below w.heap.size w w2:=bW.trans (b2.mono (by omega))
 clear HC ho2 hpa HP HE hpl b2 bW
 go_wp2_with (go_at_call 158;refine HS.out.mono ?_;rintro e w3 ⟨a3,m3,c3,rfl,ho3,b3⟩;refine Hid.out ?_)
 refine (show ∀ {p:Prop},p→Hid p from fun h=>h) ?_
 have HO3:=hideIt (own_mono ho3 B2.size)
 have B3:=B2.trans (b3.mono B2.size)
 have hEs:=Es_of_own ho3
 obtain ⟨hl3,hr3⟩:=hEs
 have HR:=hideIt hr3
 have hm3:m3≤3000000:=by rw [← hl3,srtE_len];exact hll
 have HN:=hideIt (fun k e h1 h0=>weO_no (all:=pAll ps ++ cuts) (k:=k) (e:=e) h1 h0)
 have HY:=hideIt (fun h=>weO_yes (all:=pAll ps ++ cuts) h)
 generalize srtE (pAll ps ++ cuts)=L at *
 clear hr3 HS ho3 b3 B2 hll hW1 z1
 go_wp2
 go_loopw [7] (fun i wr=>∃ k:Nat,k≤m3+1∧i=.int .i64 ((k:Int)+1)∧Hid (∀ j d e,j<k→L[j]?=some d→L[j+1]?=some e→d≠e)∧Below w3.heap.size w3 wr) (fun i _=>m3+2 - (intOf i).toNat)
 case atStart=>exact ⟨0,by omega,rfl,fun j d e hj=>by omega,Below.refl _ _⟩
 case round =>
  obtain ⟨k,hk,rfl,hck,hb⟩:=hrel
  by_cases hlt:k+1<m3
  ·rcases HR.out with hz | ⟨b,off,rfl,hbl,hc⟩
   ·omega
   ·obtain ⟨d,hd⟩:∃ d,L[k]?=some d:=⟨L[k]'(by omega),List.getElem?_eq_getElem (by omega)⟩
    obtain ⟨f,hf⟩:∃ f,L[k+1]?=some f:=⟨L[k+1]'(by omega),List.getElem?_eq_getElem (by omega)⟩
    obtain ⟨c0,c1⟩:=hc k d hd
    obtain ⟨c2,c3⟩:=hc (k+1) f hf
    have e0:wr.cell? ⟨b,off+k*2,none⟩=some (.int .i64 d.1):=by rw [hb.cell hbl];exact c0
    have e1:wr.cell? ⟨b,off+k*2+1,none⟩=some (.int .i64 d.2):=by rw [hb.cell hbl];exact c1
    have e2:wr.cell? ⟨b,off+(k+1)*2,none⟩=some (.int .i64 f.1):=by rw [hb.cell hbl];exact c2
    have e3:wr.cell? ⟨b,off+(k+1)*2+1,none⟩=some (.int .i64 f.2):=by rw [hb.cell hbl];exact c3
    have b1:(0:Int)≤(k:Int):=by omega
    have b2:(k:Int)<(m3:Int):=by omega
    have b3:(k:Int)+1<(m3:Int):=by omega
    have b4:(0:Int)≤(k:Int)+1:=by omega
    have t1:((k:Int)+1).toNat=k+1:=by omega
    have dl:decide ((k:Int)+1<(m3:Int))=true:=decide_eq_true b3
    have s1:(k:Int)+1 - 1=(k:Int):=by omega
    by_cases hdf:f=d
    ·subst hdf
     have HO:=hideIt (HN.out k f hf hd)
     clear hc c0 c1 c2 c3 hd hf hck HN HY
     go_wp2
     go_quiet (fail)
     go_wp2
     refine bodyPost_ret (v:=.tuple #[.slice none 0 0,.bool false]) (by simp [results,Tryz.results139,go_sem]) rfl ⟨none,0,0,by rw [HO.out];rfl,by rw [HO.out];exact World.ownsRow_nil _ _ _ _,?_⟩
     exact B3.trans ((below_drewN hb _).mono B3.size)
    ·have HC:Hid (∀ j d e,j<k+1→L[j]?=some d→L[j+1]?=some e→d≠e):=fun j d' e' hj h1 h2=>by
      by_cases e:j=k
      ·subst e
       rw [hd] at h1
       rw [hf] at h2
       simp at h1 h2
       subst h1 h2
       exact fun e=>hdf e.symm
      ·exact hck.out j d' e' (by omega) h1 h2
     clear hc c0 c1 c2 c3 hd hf hck
     by_cases h1:f.1=d.1
     ·have h2:¬ f.2=d.2:=fun h2=>hdf (Prod.ext h1 h2)
      have d2:(f.2 == d.2)=false:=by simpa using h2
      rw [h1] at e2
      clear hdf h1 h2
      go_wp2
      go_quiet (fail)
      go_wp2
      exact ⟨⟨k+1,by omega,by go_num,HC,below_drewN hb _⟩,by simp [intOf];omega⟩
     ·have d1:(f.1 == d.1)=false:=by simpa using h1
      clear hdf h1
      go_wp2
      go_quiet (fail)
      go_wp2
      exact ⟨⟨k+1,by omega,by go_num,HC,below_drewN hb _⟩,by simp [intOf];omega⟩
  ·have dl:decide ((k:Int)+1<(m3:Int))=false:=decide_eq_false (by omega)
   have HO:=hideIt (HY.out fun j d e h0 h1=>hck.out j d e (by have:=(List.getElem?_eq_some_iff.1 h1).1;omega) h0 h1)
   have HO4:=hideIt (own_up HO3.out hb)
   clear hck HN HY HR
   go_wp2
   exact bodyPost_ret (v:=.tuple #[.slice a3 m3 c3,.bool true]) (by simp [results,Tryz.results139,go_sem]) rfl ⟨a3,m3,c3,by rw [HO.out];rfl,by rw [HO.out];exact HO4.out,B3.trans (hb.mono B3.size)⟩
set_option maxRecDepth 100000 in
set_option maxHeartbeats 4000000 in
theorem iInside_any (ls:List Int) (q:Nat) (ao:Option Addr) (co:Nat) (es:List EdgeV) (n:Nat) (a:Option Addr) (c:Nat) (s:Int) (hn:n≤1048576) (w:World) (ho:Is w w.heap.size ao q ls) (h:Es w w.heap.size a n es) :
  Calls Tryz.prog 140 #[.slice ao q co,.slice a n c,.int .i64 s] w fun e w'=>EAns w (insE ls es s) e w':=by
 obtain ⟨i0,hi,hz0,hz1,hz2⟩:=info_parts infoIE
 obtain ⟨hlen,hrow⟩:=h
 have HR:=hideIt hrow
 have HS:Hid (∀ u,Below w.heap.size w u→∀ v,Calls Tryz.prog 160 #[.slice ao q co,.int .i64 v,.int .i64 s] u fun e u'=>e=.returned (.bool (hasV ls s v))∧u'=u):=fun u hu v =>
  shardHas_any ls q ao co v s u (ho.up hu)
 clear hrow ho
 go_enter Tryz.func140,Tryz.ntmps140
 go_wp2
 go_loopw [7,13] (fun v i wr=>∃ (k m':Nat) (a':Option Addr) (c':Nat) (gs:List EdgeV),k≤n∧i=.int .i64 (k:Int)∧v=.slice a' m' c'∧m'≤k∧Hid (gs=insE ls (es.take k) s)∧ESt w a' m' c' gs wr) (fun _ i _=>n - (intOf i).toNat)
 case atStart=>exact ⟨0,0,_,_,[],by omega,rfl,rfl,by omega,by show _=_;simp [insE],ESt.start w⟩
 case round =>
  obtain ⟨k,m',a',c',gs,hk,rfl,rfl,hm,hgs,hst⟩:=hrel
  by_cases hlt:k<n
  ·rcases HR.out with hz | ⟨b,off,rfl,hbl,hc⟩
   ·omega
   ·obtain ⟨f,hf⟩:∃ f,es[k]?=some f:=⟨es[k]'(by omega),List.getElem?_eq_getElem (by omega)⟩
    obtain ⟨c0,c1⟩:=hc k f hf
    have b1:(0:Int)≤(k:Int):=by omega
    have b2:(k:Int)<(n:Int):=by omega
    have e0:wr.cell? ⟨b,off+k*2,none⟩=some (.int .i64 f.1):=by rw [hst.bel.cell hbl];exact c0
    have e1:wr.cell? ⟨b,off+k*2+1,none⟩=some (.int .i64 f.2):=by rw [hst.bel.cell hbl];exact c1
    have S1:ESt w a' m' c' gs (wr.alloc (.cells #[.int .i64 f.1,.int .i64 f.2] 107)):=hst.up ((Below.refl _ _).alloc (Nat.le_refl _) _)
    have HS1:=hideIt (HS.out _ S1.bel)
    have z1:=hst.size
    have HX:=hideIt (insE_snoc ls es s k f hf)
    clear hc hf c0 c1
    cases g1:hasV ls s f.1 with
    | false =>
     have HG:Hid (gs=insE ls (es.take (k+1)) s):=by show _=_;rw [HX.out,hgs.out];simp [inB,g1]
     clear HX hgs
     go_wp2_with (go_at_call 160;refine (HS1.out _).mono ?_;rintro e w1 ⟨rfl,rfl⟩)
     exact ⟨⟨k+1,m',a',c',gs,by omega,by go_num,rfl,by omega,HG,S1⟩,by simp [intOf];omega⟩
    | true =>
     cases g2:hasV ls s f.2 with
     | false =>
      have HG:Hid (gs=insE ls (es.take (k+1)) s):=by show _=_;rw [HX.out,hgs.out];simp [inB,g1,g2]
      clear HX hgs
      go_wp2_with (go_at_call 160;refine (HS1.out _).mono ?_;rintro e w1 ⟨rfl,rfl⟩)
      exact ⟨⟨k+1,m',a',c',gs,by omega,by go_num,rfl,by omega,HG,S1⟩,by simp [intOf];omega⟩
     | true =>
      have HG:Hid (gs ++ [f]=insE ls (es.take (k+1)) s):=by show _=_;rw [HX.out,hgs.out];simp [inB,g1,g2]
      clear HX hgs
      go_wp2_with (first | (go_at_call 160;refine (HS1.out _).mono ?_;rintro e w1 ⟨rfl,rfl⟩) | (at_builtin;refine wpList_append_own _ rfl _ _ 25 rfl w.heap.size 107 i0 _ 2 16 Tryz.underlying25 hi hz0 hz1 hz2 rfl (by decide) _ _ _ rfl (S1.own.alloc _) ⟨wr.heap.size+1,0,none⟩ 1 1 [.int .i64 f.1,.int .i64 f.2] rfl (by simp) (by have:=news2 (wr.alloc (.cells #[.int .i64 f.1,.int .i64 f.2] 107)) f;simpa using this) (by intro u hu;simp at hu;rcases hu with rfl | rfl <;> rfl) (by unfold maxLen;omega) (by omega) (by simp;omega) ?_))
      intro v2 w2 hown2 hg2 hn2
      obtain ⟨a2,c2,rfl,hst2⟩:=S1.app (x:=f) hown2 hg2
      clear hown2 hg2 hn2 S1 e0 e1 hst
      go_wp2
      exact ⟨⟨k+1,m'+1,a2,c2,gs ++ [f],by omega,by go_num,rfl,by omega,HG,hst2⟩,by simp [intOf];omega⟩
  ·have HF:Hid (gs=insE ls es s):=by show _=_;rw [hgs.out,List.take_of_length_le (by omega)]
   have HO:=hideIt hst.own
   have hb:=hst.bel
   clear hgs hst
   go_wp2
   go_ret
   exact ⟨a',m',c',rfl,by rw [← HF.out];exact HO.out,hb⟩
theorem hasV_out {ls:List Int} {s v:Int} (h:¬ (0≤v∧v≤(ls.length:Int) - 1)):hasV ls s v=false:=by
 unfold hasV
 by_cases h1:0≤v
 ·rw [List.getElem?_eq_none (by omega)];simp
 ·simp [h1]
theorem hasV_at {ls:List Int} {s v x:Int} (h:0≤v) (hx:ls[v.toNat]?=some x):hasV ls s v=(x == s):=by
 unfold hasV
 rw [hx]
 by_cases hxs:x=s <;> simp [h,hxs]
set_option maxRecDepth 100000 in
set_option maxHeartbeats 4000000 in
theorem sInside_any (ls:List Int) (q:Nat) (ao:Option Addr) (co:Nat) (es:List EdgeV) (n:Nat) (a:Option Addr) (c:Nat) (s:Int) (hq:q≤1048576) (hn:n≤1048576) (w:World) (ho:Is w w.heap.size ao q ls) (h:Es w w.heap.size a n es) :
  Calls Tryz.prog 81 #[.slice ao q co,.slice a n c,.int .i64 s] w fun e w'=>EAns w (insE ls es s) e w':=by
 obtain ⟨i0,hi,hz0,hz1,hz2⟩:=info_parts infoIE
 obtain ⟨hlen,hrow⟩:=h
 obtain ⟨hol,horow⟩:=ho
 have HR:=hideIt hrow
 have HOr:=hideIt horow
 have HI:=hideIt l01In_any
 clear hrow horow
 go_enter Tryz.func81,Tryz.ntmps81
 go_wp2
 go_loopw [7,8] (fun v i wr=>∃ (k m':Nat) (a':Option Addr) (c':Nat) (gs:List EdgeV),k≤n∧i=.int .i64 (k:Int)∧v=.slice a' m' c'∧m'≤k∧Hid (gs=insE ls (es.take k) s)∧ESt w a' m' c' gs wr) (fun _ i _=>n - (intOf i).toNat)
 case atStart=>exact ⟨0,0,_,_,[],by omega,rfl,rfl,by omega,by show _=_;simp [insE],ESt.start w⟩
 case round =>
  obtain ⟨k,m',a',c',gs,hk,rfl,rfl,hm,hgs,hst⟩:=hrel
  by_cases hlt:k<n
  ·rcases HR.out with hz | ⟨b,off,rfl,hbl,hc⟩
   ·omega
   ·obtain ⟨f,hf⟩:∃ f,es[k]?=some f:=⟨es[k]'(by omega),List.getElem?_eq_getElem (by omega)⟩
    obtain ⟨c0,c1⟩:=hc k f hf
    have b1:(0:Int)≤(k:Int):=by omega
    have b2:(k:Int)<(n:Int):=by omega
    have e0:wr.cell? ⟨b,off+k*2,none⟩=some (.int .i64 f.1):=by rw [hst.bel.cell hbl];exact c0
    have e1:wr.cell? ⟨b,off+k*2+1,none⟩=some (.int .i64 f.2):=by rw [hst.bel.cell hbl];exact c1
    have S1:ESt w a' m' c' gs (wr.alloc (.cells #[.int .i64 f.1,.int .i64 f.2] 107)):=hst.up ((Below.refl _ _).alloc (Nat.le_refl _) _)
    have z1:=hst.size
    have HX:=hideIt (insE_snoc ls es s k f hf)
    clear hc hf c0 c1
    by_cases g1:0≤f.1∧f.1≤(q:Int) - 1
    case neg =>
     have r1:decide (0≤f.1∧f.1≤(q:Int) - 1)=false:=decide_eq_false g1
     have HG:Hid (gs=insE ls (es.take (k+1)) s):=by show _=_;rw [HX.out,hgs.out];simp [inB,hasV_out (s:=s) (v:=f.1) (ls:=ls) (by omega)]
     clear HX hgs g1
     go_wp2_with (go_at_call 44;refine (HI.out _ _ _ _).mono ?_;rintro e w1 ⟨rfl,rfl⟩)
     exact ⟨⟨k+1,m',a',c',gs,by omega,by go_num,rfl,by omega,HG,S1⟩,by simp [intOf];omega⟩
    case pos =>
     have r1:decide (0≤f.1∧f.1≤(q:Int) - 1)=true:=decide_eq_true g1
     by_cases g2:0≤f.2∧f.2≤(q:Int) - 1
     case neg =>
      have r2:decide (0≤f.2∧f.2≤(q:Int) - 1)=false:=decide_eq_false g2
      have HG:Hid (gs=insE ls (es.take (k+1)) s):=by show _=_;rw [HX.out,hgs.out];simp [inB,hasV_out (s:=s) (v:=f.2) (ls:=ls) (by omega)]
      clear HX hgs g1 g2
      go_wp2_with (go_at_call 44;refine (HI.out _ _ _ _).mono ?_;rintro e w1 ⟨rfl,rfl⟩)
      exact ⟨⟨k+1,m',a',c',gs,by omega,by go_num,rfl,by omega,HG,S1⟩,by simp [intOf];omega⟩
     case pos =>
      have r2:decide (0≤f.2∧f.2≤(q:Int) - 1)=true:=decide_eq_true g2
      rcases HOr.out with hz | ⟨bo,offo,rfl,hbo,hco⟩
      ·omega
      ·obtain ⟨x,hx⟩:∃ x,ls[f.1.toNat]?=some x:=⟨ls[f.1.toNat]'(by omega),List.getElem?_eq_getElem (by omega)⟩
       obtain ⟨y,hy⟩:∃ y,ls[f.2.toNat]?=some y:=⟨ls[f.2.toNat]'(by omega),List.getElem?_eq_getElem (by omega)⟩
       have e2:wr.cell? ⟨bo,offo+f.1.toNat,none⟩=some (.int .i64 x):=by rw [hst.bel.cell hbo];exact hco _ x hx
       have e3:wr.cell? ⟨bo,offo+f.2.toNat,none⟩=some (.int .i64 y):=by rw [hst.bel.cell hbo];exact hco _ y hy
       have v1:=hasV_at (s:=s) g1.1 hx
       have v2:=hasV_at (s:=s) g2.1 hy
       have p1:(0:Int)≤f.1:=g1.1
       have p2:f.1<(q:Int):=by omega
       have p3:(0:Int)≤f.2:=g2.1
       have p4:f.2<(q:Int):=by omega
       have p5:bo<wr.heap.size:=by omega
       clear hco hx hy g1 g2
       cases w1:(x == s) with
       | false =>
        have HG:Hid (gs=insE ls (es.take (k+1)) s):=by show _=_;rw [HX.out,hgs.out];simp [inB,v1,w1]
        clear HX hgs v1 v2
        go_wp2_with (go_at_call 44;refine (HI.out _ _ _ _).mono ?_;rintro e w1 ⟨rfl,rfl⟩)
        exact ⟨⟨k+1,m',a',c',gs,by omega,by go_num,rfl,by omega,HG,S1⟩,by simp [intOf];omega⟩
       | true =>
        cases w2:(y == s) with
        | false =>
         have HG:Hid (gs=insE ls (es.take (k+1)) s):=by show _=_;rw [HX.out,hgs.out];simp [inB,v2,w2]
         clear HX hgs v1 v2
         go_wp2_with (go_at_call 44;refine (HI.out _ _ _ _).mono ?_;rintro e w1 ⟨rfl,rfl⟩)
         exact ⟨⟨k+1,m',a',c',gs,by omega,by go_num,rfl,by omega,HG,S1⟩,by simp [intOf];omega⟩
        | true =>
         have HG:Hid (gs ++ [f]=insE ls (es.take (k+1)) s):=by show _=_;rw [HX.out,hgs.out];simp [inB,v1,w1,v2,w2]
         clear HX hgs v1 v2
         go_wp2_with (first | (go_at_call 44;refine (HI.out _ _ _ _).mono ?_;rintro e w1 ⟨rfl,rfl⟩) | (at_builtin;refine wpList_append_own _ rfl _ _ 25 rfl w.heap.size 107 i0 _ 2 16 Tryz.underlying25 hi hz0 hz1 hz2 rfl (by decide) _ _ _ rfl (S1.own.alloc _) ⟨wr.heap.size+1,0,none⟩ 1 1 [.int .i64 f.1,.int .i64 f.2] rfl (by simp) (by have:=news2 (wr.alloc (.cells #[.int .i64 f.1,.int .i64 f.2] 107)) f;simpa using this) (by intro u hu;simp at hu;rcases hu with rfl | rfl <;> rfl) (by unfold maxLen;omega) (by omega) (by simp;omega) ?_))
         intro v2 w2 hown2 hg2 hn2
         obtain ⟨a2,c2,rfl,hst2⟩:=S1.app (x:=f) hown2 hg2
         clear hown2 hg2 hn2 S1 e0 e1 hst
         go_wp2
         exact ⟨⟨k+1,m'+1,a2,c2,gs ++ [f],by omega,by go_num,rfl,by omega,HG,hst2⟩,by simp [intOf];omega⟩
  ·have HF:Hid (gs=insE ls es s):=by show _=_;rw [hgs.out,List.take_of_length_le (by omega)]
   have HO:=hideIt hst.own
   have hb:=hst.bel
   clear hgs hst
   go_wp2
   go_ret
   exact ⟨a',m',c',rfl,by rw [← HF.out];exact HO.out,hb⟩
def mvE (cs es:List EdgeV):Option (List EdgeV):=if es.any (fun e=>hasB cs e)=true then none else some (es.foldl putE cs)
theorem fold_mem (es:List EdgeV):∀ (cs:List EdgeV) (x:EdgeV),x ∈ es.foldl putE cs↔x ∈ cs∨x ∈ es:=by
 induction es with
 | nil=>intro cs x;simp
 | cons e es ih =>
  intro cs x
  rw [List.foldl_cons,ih,mem_put,List.mem_cons]
  constructor
  ·rintro ((h | ⟨h,_⟩) | h)
   ·exact .inr (.inl h)
   ·exact .inl h
   ·exact .inr (.inr h)
  ·rintro (h | h | h)
   ·by_cases hx:x=e
    ·exact .inl (.inl hx)
    ·exact .inl (.inr ⟨h,hx⟩)
   ·exact .inl (.inl h)
   ·exact .inr h
theorem fold_asc (es:List EdgeV):∀ (cs:List EdgeV),Asc cs→Asc (es.foldl putE cs):=by
 induction es with
 | nil=>intro cs h;exact h
 | cons e es ih=>intro cs h;rw [List.foldl_cons];exact ih _ (asc_put h)
theorem asc_nodup {es:List EdgeV} (h:Asc es):es.Nodup:=(pairwise_asc' h).imp fun {a b} hab e=>by subst e;rw [lt_irrefl'] at hab;cases hab
theorem weO_mv {cs es:List EdgeV} (he:Asc es) (hc:Asc cs):weO (es ++ cs)=mvE cs es:=by
 unfold weO mvE
 by_cases hd:es.any (fun e=>hasB cs e)=true
 ·rw [if_pos hd,if_neg]
  intro hn
  obtain ⟨e,h1,h2⟩:=List.any_eq_true.1 hd
  unfold hasB at h2
  exact (List.nodup_append.1 hn).2.2 e h1 e (of_decide_eq_true h2) rfl
 ·rw [if_neg hd]
  have hn:(es ++ cs).Nodup:=List.nodup_append.2 ⟨asc_nodup he,asc_nodup hc,fun a ha b hb e=>hd (List.any_eq_true.2 ⟨a,ha,by unfold hasB;exact decide_eq_true (e ▸ hb)⟩)⟩
  rw [if_pos hn]
  congr 1
  exact asc_ext (pairwise_asc' (srtE_asc hn)) (pairwise_asc' (fold_asc es cs hc)) fun x=>by rw [srtE_mem,fold_mem,List.mem_append,or_comm]
theorem eOk_of {n:Int} {es:List EdgeV} (h1:∀ e ∈ es,eB n e=true) (h2:Asc es):eOk n es=true:=by
 unfold eOk
 rw [chk_of h1 h2,decide_eq_true (asc_len h1 h2)]
 rfl
theorem eOk_parts {n:Int} {es:List EdgeV} (h:eOk n es=true):(∀ e ∈ es,eB n e=true)∧Asc es∧es.length≤66:=by
 unfold eOk at h
 rw [Bool.and_eq_true,decide_eq_true_iff] at h
 exact ⟨fun e he=>chk_eB h.1 he,asc_of_chk h.1,h.2⟩
theorem mvE_ok {n:Int} {cs es fs:List EdgeV} (hc:eOk n cs=true) (he:eOk n es=true) (h:mvE cs es=some fs):eOk n fs=true:=by
 unfold mvE at h
 split at h
 ·cases h
 ·cases h
  have c:=eOk_parts hc
  have e:=eOk_parts he
  refine eOk_of (fun x hx=>?_) (fold_asc es cs c.2.1)
  rcases (fold_mem es cs x).1 hx with h1 | h1
  ·exact c.1 x h1
  ·exact e.1 x h1
theorem eOk_filter {n:Int} {es:List EdgeV} (p:EdgeV→Bool) (h:eOk n es=true):eOk n (es.filter p)=true:=by
 have e:=eOk_parts h
 exact eOk_of (fun x hx=>e.1 x (List.mem_filter.1 hx).1) (asc_of_pairwise ((pairwise_asc' e.2.1).filter _))
theorem fold_out (ins:List EdgeV):∀ (fs:List EdgeV),ins.foldl outE fs=fs.filter fun e=>!(hasB ins e):=by
 induction ins with
 | nil=>intro fs;exact (List.filter_eq_self.2 (by simp [hasB])).symm
 | cons d ins ih =>
  intro fs
  rw [List.foldl_cons,ih]
  unfold outE
  rw [List.filter_filter]
  refine List.filter_congr fun e _=>?_
  unfold hasB
  by_cases h1:e=d <;> by_cases h2:e ∈ ins <;> simp [h1,h2]
theorem has_fold {cs es:List EdgeV} (he:Asc es) {k:Nat} {e:EdgeV} (hk:es[k]?=some e):hasB ((es.take k).foldl putE cs) e=hasB cs e:=by
 have hn:e ∉ es.take k:=fun h=>by
  obtain ⟨i,hi⟩:=List.mem_iff_getElem?.1 h
  have hik:i<k:=by have:=(List.getElem?_eq_some_iff.1 hi).1;simp at this;omega
  rw [List.getElem?_take_of_lt hik] at hi
  have:=he i k e e hik hi hk
  rw [lt_irrefl'] at this
  cases this
 unfold hasB
 rw [decide_eq_decide,fold_mem]
 exact ⟨fun h=>h.resolve_right hn,.inl⟩
theorem idxE_is {es:List EdgeV} {e:EdgeV} (h:hasB es e=true):∃ p:Nat,idxE es e=(p:Int)∧es[p]?=some e:=by
 have hm:e ∈ es:=by unfold hasB at h;exact of_decide_eq_true h
 refine ⟨es.idxOf e,by unfold idxE;rw [if_pos hm],?_⟩
 have h1:=List.idxOf_lt_length_iff.2 hm
 rw [List.getElem?_eq_getElem h1,List.getElem_idxOf h1]
theorem idxE_none {es:List EdgeV} {e:EdgeV} (h:hasB es e=false):idxE es e = -1:=by
 have hm:e ∉ es:=by unfold hasB at h;exact of_decide_eq_false h
 unfold idxE
 rw [if_neg hm]
set_option maxRecDepth 100000 in
set_option maxHeartbeats 4000000 in
theorem iTakeEdge_any (N:Int) (es:List EdgeV) (f:EdgeV) (n:Nat) (a:Option Addr) (c:Nat) (hsl:Sl a n c) (hn:n≤1048576) (w:World) (h:Es w w.heap.size a n es) :
  Calls Tryz.prog 136 #[.agg #[.int .i64 N,.slice a n c],.agg #[.int .i64 f.1,.int .i64 f.2]] w fun e w'=>GAns w N (takE N es f) e w':=by
 have hA:Hid (∀ u,In3 w N a n c f u→Es u u.heap.size a n es):=fun u hu=>h.up hu.below
 have HGO:Hid (∀ u,In3 w N a n c f u→Calls Tryz.prog 84 #[.agg #[.int .i64 N,.slice a n c]] u fun e v=>e=.returned (.bool (gB N es))∧In3 w N a n c f v):=fun u hu =>
  (iGraphOk_any N es n a c hn u (hA.out u hu)).mono fun _ _ ⟨he,hb⟩=>⟨he,hu.up hb⟩
 have HIX:Hid (∀ u,In3 w N a n c f u→Calls Tryz.prog 153 #[.slice a n c,.agg #[.int .i64 f.1,.int .i64 f.2]] u fun e v=>e=.returned (.int .i64 (idxE es f))∧In3 w N a n c f v):=fun u hu =>
  (Index_any es f n a c hn u (hA.out u hu)).mono fun _ _ ⟨he,hb⟩=>⟨he,hu.up hb⟩
 have S1:=In3.start w N a n c f
 have HK:Hid (∀ u,In3 w N a n c f u→(u.cell? ⟨w.heap.size,0,none⟩=some (.int .i64 N)∧u.cell? ⟨w.heap.size,1,none⟩=some (.slice a n c))∧(u.cell? ⟨w.heap.size+1,0,none⟩=some (.int .i64 f.1)∧u.cell? ⟨w.heap.size+1,1,none⟩=some (.int .i64 f.2))):=fun u hu=>hu.cells
 cases hG:gB N es with
 | false =>
  rw [hG] at HGO
  have HO:=hideIt (show takE N es f=none by unfold takE;rw [hG,if_neg (by simp)])
  generalize idxE es f=ix at HIX
  clear hG hsl h hA
  go_enter Tryz.func136,Tryz.ntmps136
  go_wp2_with (go_at_call 153;refine (HIX.out _ S1).mono ?_;rintro e w3 ⟨rfl,S3⟩;refine Hid.out ?_)
  refine (show ∀ {p:Prop},p→Hid p from fun h=>h) ?_
  obtain ⟨⟨k0,k1⟩,k2,k3⟩:=HK.out _ S3
  go_wp2_with (go_at_call 84;refine (HGO.out _ S3).mono ?_;rintro e w4 ⟨rfl,S4⟩;refine Hid.out ?_)
  refine (show ∀ {p:Prop},p→Hid p from fun h=>h) ?_
  clear k0 k1 k2 k3
  obtain ⟨⟨r0,r1⟩,r2,r3⟩:=S4.out
  have s4:=S4.size
  go_wp2
  exact bodyPost_ret (v:=.tuple #[.agg #[.int .i64 0,.slice none 0 0],.bool false]) (by simp [results,Tryz.results136,go_sem,r0,r1]) rfl (gans_no S4 HO.out)
 | true =>
  rw [hG] at HGO
  cases hH:hasB es f with
  | false =>
   have HO:=hideIt (show takE N es f=none by unfold takE;rw [hH,if_neg (by simp)])
   rw [idxE_none hH] at HIX
   clear hG hH hsl h hA
   go_enter Tryz.func136,Tryz.ntmps136
   go_wp2_with (go_at_call 153;refine (HIX.out _ S1).mono ?_;rintro e w3 ⟨rfl,S3⟩;refine Hid.out ?_)
   refine (show ∀ {p:Prop},p→Hid p from fun h=>h) ?_
   obtain ⟨⟨k0,k1⟩,k2,k3⟩:=HK.out _ S3
   go_wp2_with (go_at_call 84;refine (HGO.out _ S3).mono ?_;rintro e w4 ⟨rfl,S4⟩;refine Hid.out ?_)
   refine (show ∀ {p:Prop},p→Hid p from fun h=>h) ?_
   clear k0 k1 k2 k3
   obtain ⟨⟨r0,r1⟩,r2,r3⟩:=S4.out
   have s4:=S4.size
   go_wp2
   exact bodyPost_ret (v:=.tuple #[.agg #[.int .i64 0,.slice none 0 0],.bool false]) (by simp [results,Tryz.results136,go_sem,r0,r1]) rfl (gans_no S4 HO.out)
  | true =>
   have HO:=hideIt (show takE N es f=some (outE es f) by unfold takE;rw [hG,hH,if_pos (by simp)])
   have hasc:=asc_of_chk (gB_chk hG).2.1
   obtain ⟨p,hp,hpe⟩:=idxE_is hH
   rw [hp] at HIX
   have hl:=h.1
   have hpn:p<n:=by have:=(List.getElem?_eq_some_iff.1 hpe).1;omega
   have HOUT:=hideIt (out_at hasc hpe)
   have HLn:Hid (es.length=n):=h.1
   have dneg:decide ((p:Int)<0)=false:=decide_eq_false (by omega)
   obtain ⟨hnc,hcm,hform⟩:=hsl
   unfold maxLen at hcm
   clear hG hH h hasc hp hpe hl
   go_enter Tryz.func136,Tryz.ntmps136
   go_wp2_with (go_at_call 153;refine (HIX.out _ S1).mono ?_;rintro e w3 ⟨rfl,S3⟩;refine Hid.out ?_)
   refine (show ∀ {p:Prop},p→Hid p from fun h=>h) ?_
   obtain ⟨⟨k0,k1⟩,k2,k3⟩:=HK.out _ S3
   go_wp2_with (go_at_call 84;refine (HGO.out _ S3).mono ?_;rintro e w7 ⟨rfl,S7⟩;refine Hid.out ?_)
   refine (show ∀ {p:Prop},p→Hid p from fun h=>h) ?_
   clear k0 k1 k2 k3 S1 S3 HGO HIX
   have HES:=hideIt (hA.out w7 S7)
   have z7:=S7.size
   rcases hform with ⟨rfl,rfl,rfl⟩ | ⟨b,off,rfl⟩
   ·omega
   ·have S7d:=S7.drew
    have b1:(0:Int)≤(p:Int):=by omega
    have b2:(p:Int)+1≤(n:Int):=by omega
    have b3:(n:Int)≤(c:Int):=by omega
    have b4:(p:Int)+1≤(c:Int):=by omega
    have b5:(p:Int)≤(c:Int):=by omega
    have b6:(0:Int)≤(p:Int)+1:=by omega
    have b7:((p:Int)+1).toNat=p+1:=by omega
    have hw1:IntKind.i64.wrap ((p:Int)+1)=(p:Int)+1:=by rw [IntKind.wrap_i64];omega
    by_cases hcp:c=p+1
    ·obtain ⟨q,hq⟩:∃ q,q=p+1:=⟨_,rfl⟩
     obtain rfl:n=q:=by omega
     obtain rfl:c=n:=by omega
     have hq2:(p:Int)+1=(c:Int):=by omega
     have HQ:=hideIt hq
     have hwc:IntKind.i64.wrap (c:Int)=(c:Int):=by rw [IntKind.wrap_i64];omega
     have hcc:(0:Int)≤(c:Int):=by omega
     clear hcp hq b7 hw1 b2 b4 b6 b3
     have T2b:Below w7.heap.size w7 (w7.alloc (.cells #[.slice (some ⟨b,off,none⟩) p c,.slice (some ⟨b,off,none⟩) (0) (0)] 25)).drew:=((Below.refl _ _).alloc (Nat.le_refl _) _).drew
     have T2:=S7.up T2b
     have HCc:Hid (Calls Tryz.prog 107 #[.slice (some ⟨w7.heap.size,0,none⟩) 2 2] (w7.alloc (.cells #[.slice (some ⟨b,off,none⟩) p c,.slice (some ⟨b,off,none⟩) (0) (0)] 25)).drew
       fun e v=>∃ a' m' c',e=.returned (.slice a' m' c')∧Hid (v.ownsRow (w7.heap.size+1) 107 2 (.slice a' m' c') m' (ecells (outE es f)))∧In3 w N (some ⟨b,off,none⟩) c c f v):=by
      have hE2:=HES.out.up T2b
      refine (Concat_any [⟨some ⟨b,off,none⟩,p,c,es.take p⟩,⟨some ⟨b,off,none⟩,0,0,es.drop (p+1)⟩] w7.heap.size 2 rfl (by omega) _ ⟨by simp,fun j q hq=>?_⟩ (by simp [pLen];omega)).mono fun e v ⟨a',m',c',he,ho,hb⟩=>⟨a',m',c',he,?_,T2.up hb⟩
      ·rcases j with _ | _ | j
       ·simp at hq;subst hq
        exact ⟨by simp [go_sem],hE2.take (k:=p) (by omega),fun h=>by cases h⟩
       ·simp at hq;subst hq
        exact ⟨by simp [go_sem],Es.none_of (by rw [List.length_drop];have:=HLn.out;have:=HQ.out;omega),fun h=>by cases h⟩
       ·simp at hq
      ·have hp:pAll [⟨some ⟨b,off,none⟩,p,c,es.take p⟩,⟨some ⟨b,off,none⟩,0,0,es.drop (p+1)⟩]=outE es f:=by rw [HOUT.out];simp [pAll]
       rw [hp] at ho
       exact own_mono ho (by simp)
     clear hA
     go_wp2
     go_region_held3 (fun u=>(u.cell? ⟨w.heap.size,0,none⟩=some (.int .i64 N)∧u.cell? ⟨w.heap.size,1,none⟩=some (.slice (some ⟨b,off,none⟩) c c))∧(u.cell? ⟨w.heap.size+1,0,none⟩=some (.int .i64 f.1)∧u.cell? ⟨w.heap.size+1,1,none⟩=some (.int .i64 f.2)))
      (first | exact S8.cellsSet _ _ | exact HK.out _ S8 | exact HK.out _ T2 | exact HK.out _ S7d)
      ((go_at_call 107;refine HCc.out.mono ?_;rintro e w8 ⟨a',m',c',rfl,hown8,S8⟩;obtain ⟨⟨r0,r1⟩,r2,r3⟩:=S8.out))
     all_goals
      go_wp2
      exact bodyPost_ret (v:=.tuple #[.agg #[.int .i64 N,.slice a' m' c'],.bool true]) (by simp [results,Tryz.results136,go_sem,r0,r1]) rfl (gans_yes S8 HO.out (by omega) hown8.out)
    ·have T2b:Below w7.heap.size w7 (w7.alloc (.cells #[.slice (some ⟨b,off,none⟩) p c,.slice (some ⟨b,off+(p+1)*2,none⟩) (n - (p+1)) (c - (p+1))] 25)).drew:=((Below.refl _ _).alloc (Nat.le_refl _) _).drew
     have T2:=S7.up T2b
     have HCc:Hid (Calls Tryz.prog 107 #[.slice (some ⟨w7.heap.size,0,none⟩) 2 2] (w7.alloc (.cells #[.slice (some ⟨b,off,none⟩) p c,.slice (some ⟨b,off+(p+1)*2,none⟩) (n - (p+1)) (c - (p+1))] 25)).drew
       fun e v=>∃ a' m' c',e=.returned (.slice a' m' c')∧Hid (v.ownsRow (w7.heap.size+1) 107 2 (.slice a' m' c') m' (ecells (outE es f)))∧In3 w N (some ⟨b,off,none⟩) n c f v):=by
      have hE2:=HES.out.up T2b
      refine (Concat_any [⟨some ⟨b,off,none⟩,p,c,es.take p⟩,⟨some ⟨b,off+(p+1)*2,none⟩,n - (p+1),c - (p+1),es.drop (p+1)⟩] w7.heap.size 2 rfl (by omega) _ ⟨by simp,fun j q hq=>?_⟩ (by simp [pLen];omega)).mono fun e v ⟨a',m',c',he,ho,hb⟩=>⟨a',m',c',he,?_,T2.up hb⟩
      ·rcases j with _ | _ | j
       ·simp at hq;subst hq
        exact ⟨by simp [go_sem],hE2.take (k:=p) (by omega),fun h=>by cases h⟩
       ·simp at hq;subst hq
        exact ⟨by simp [go_sem],hE2.drop (k:=p+1) hpn,fun h=>by cases h⟩
       ·simp at hq
      ·have hp:pAll [⟨some ⟨b,off,none⟩,p,c,es.take p⟩,⟨some ⟨b,off+(p+1)*2,none⟩,n - (p+1),c - (p+1),es.drop (p+1)⟩]=outE es f:=by rw [HOUT.out];simp [pAll]
       rw [hp] at ho
       exact own_mono ho (by simp)
     clear hA
     go_wp2
     go_region_held3 (fun u=>(u.cell? ⟨w.heap.size,0,none⟩=some (.int .i64 N)∧u.cell? ⟨w.heap.size,1,none⟩=some (.slice (some ⟨b,off,none⟩) n c))∧(u.cell? ⟨w.heap.size+1,0,none⟩=some (.int .i64 f.1)∧u.cell? ⟨w.heap.size+1,1,none⟩=some (.int .i64 f.2)))
      (first | exact S8.cellsSet _ _ | exact HK.out _ S8 | exact HK.out _ T2 | exact HK.out _ S7d)
      ((go_at_call 107;refine HCc.out.mono ?_;rintro e w8 ⟨a',m',c',rfl,hown8,S8⟩;obtain ⟨⟨r0,r1⟩,r2,r3⟩:=S8.out))
     all_goals
      go_wp2
      exact bodyPost_ret (v:=.tuple #[.agg #[.int .i64 N,.slice a' m' c'],.bool true]) (by simp [results,Tryz.results136,go_sem,r0,r1]) rfl (gans_yes S8 HO.out (by omega) hown8.out)
theorem PutSt.drewN {w:World} {e:EdgeV} {a:Option Addr} {m c:Nat} {gs:List EdgeV} {u:World} (h:PutSt w e a m c gs u) (k:Nat):PutSt w e a m c gs (u.drewN k):=h.up (below_drewN (Below.refl _ _) k)
set_option maxRecDepth 100000 in
set_option maxHeartbeats 4000000 in
theorem l05Without_any (es:List EdgeV) (e:EdgeV) (n:Nat) (a:Option Addr) (c:Nat) (hn:n≤1048576) (w:World) (h:Es w w.heap.size a n es) :
  Calls Tryz.prog 79 #[.slice a n c,.agg #[.int .i64 e.1,.int .i64 e.2]] w fun x w'=>∃ a' m' c',x=.returned (.slice a' m' c')∧w'.ownsRow w.heap.size 107 2 (.slice a' m' c') m' (ecells (outE es e))∧Below w.heap.size w w':=by
 obtain ⟨i0,hi,hz0,hz1,hz2⟩:=info_parts infoIE
 obtain ⟨hlen,hrow⟩:=h
 have HR:=hideIt hrow
 clear hrow
 go_enter Tryz.func79,Tryz.ntmps79
 go_wp2
 go_loopw [5,6] (fun v i wr=>∃ (k m':Nat) (a':Option Addr) (c':Nat) (gs:List EdgeV),k≤n∧i=.int .i64 (k:Int)∧v=.slice a' m' c'∧m'≤k∧Hid (gs=outE (es.take k) e)∧PutSt w e a' m' c' gs wr) (fun _ i _=>n - (intOf i).toNat)
 case atStart =>
  refine ⟨0,0,_,_,[],by omega,rfl,rfl,by omega,by show _=_;simp [outE],?_,?_⟩
  ·have h0:=World.ownsRow_lit (base:=w.heap.size+1) (e:=107) (size:=2) (wE w e) #[] 0 (by rw [wE_size];omega) (by unfold maxLen;omega) (by simp)
   rw [wE_size] at h0
   simpa [ecells,wE] using h0
  ·have h1:=(Below.refl (w.heap.size+1) (wE w e)).alloc (by rw [wE_size];omega) (.cells #[] 107)
   simpa [wE] using h1
 case round =>
  obtain ⟨k,m',a',c',gs,hk,rfl,rfl,hm,hgs,hst⟩:=hrel
  by_cases hlt:k<n
  ·rcases HR.out with hz | ⟨b,off,rfl,hbl,hc⟩
   ·omega
   ·obtain ⟨f,hf⟩:∃ f,es[k]?=some f:=⟨es[k]'(by omega),List.getElem?_eq_getElem (by omega)⟩
    obtain ⟨c0,c1⟩:=hc k f hf
    have b1:(0:Int)≤(k:Int):=by omega
    have b2:(k:Int)<(n:Int):=by omega
    have e0:wr.cell? ⟨b,off+k*2,none⟩=some (.int .i64 f.1):=by rw [hst.below.cell hbl];exact c0
    have e1:wr.cell? ⟨b,off+k*2+1,none⟩=some (.int .i64 f.2):=by rw [hst.below.cell hbl];exact c1
    obtain ⟨x0,x1⟩:=hst.box
    by_cases hfe:f=e
    ·subst hfe
     have HG:Hid (gs=outE (es.take (k+1)) f):=by
      show _=_
      rw [take_snocF es k f hf,hgs.out]
      simp [outE]
     clear hc hf c0 c1 hgs
     go_wp2
     go_quiet (fail)
     go_wp2
     exact ⟨⟨k+1,m',a',c',gs,by omega,by go_num,rfl,by omega,HG,hst.drewN _⟩,by simp [intOf];omega⟩
    ·have HG:Hid (gs ++ [f]=outE (es.take (k+1)) e):=by
      show _=_
      rw [take_snocF es k f hf,hgs.out]
      simp [outE,hfe]
     have z1:=hst.size
     clear hc hf c0 c1 hgs
     have hk4:(wr.drew.cell? ⟨b,off+k*2,none⟩=some (.int .i64 f.1)∧wr.drew.cell? ⟨b,off+k*2+1,none⟩=some (.int .i64 f.2))∧wr.drew.cell? ⟨w.heap.size,0,none⟩=some (.int .i64 e.1)∧wr.drew.cell? ⟨w.heap.size,1,none⟩=some (.int .i64 e.2):=⟨⟨e0,e1⟩,x0,x1⟩
     by_cases h1:f.1=e.1
     ·obtain ⟨fa,fb⟩:=f
      dsimp only at *
      subst h1
      have h2:¬ fb=e.2:=fun h2=>hfe (Prod.ext rfl h2)
      have d2:(fb == e.2)=false:=by simpa using h2
      clear hfe
      go_wp2
      go_region_held3 (fun u=>(u.cell? ⟨b,off+k*2,none⟩=some (.int .i64 e.1)∧u.cell? ⟨b,off+k*2+1,none⟩=some (.int .i64 fb))∧u.cell? ⟨w.heap.size,0,none⟩=some (.int .i64 e.1)∧u.cell? ⟨w.heap.size,1,none⟩=some (.int .i64 e.2)) (exact hk4) (fail)
      go_wp2_with (at_builtin;refine wpList_append_own _ rfl _ _ 25 rfl (w.heap.size+1) 107 i0 _ 2 16 Tryz.underlying25 hi hz0 hz1 hz2 rfl (by decide) _ _ _ rfl ((hst.own.alloc _).drew) ⟨wr.heap.size,0,none⟩ 1 1 [.int .i64 e.1,.int .i64 fb] rfl rfl (news1 _ (e.1,fb)) (by intro u hu;simp at hu;rcases hu with rfl | rfl <;> rfl) (by unfold maxLen;omega) (by omega) (by simp;omega) ?_)
      intro v2 w2 hown2 hg2 hn2
      obtain ⟨a2,c2,rfl,hst2⟩:=(hst.up (Below.refl _ _).drew).app (g:=(e.1,fb)) (o:=.cells #[.int .i64 e.1,.int .i64 fb] 107) hown2 hg2
      clear hown2 hg2 hn2 e0 e1 x0 x1 hst hk4
      go_wp2
      exact ⟨⟨k+1,m'+1,a2,c2,gs ++ [(e.1,fb)],by omega,by go_num,rfl,by omega,HG,hst2⟩,by simp [intOf];omega⟩
     ·have d1:(f.1 == e.1)=false:=by simpa using h1
      clear hfe
      go_wp2
      go_region_held3 (fun u=>(u.cell? ⟨b,off+k*2,none⟩=some (.int .i64 f.1)∧u.cell? ⟨b,off+k*2+1,none⟩=some (.int .i64 f.2))∧u.cell? ⟨w.heap.size,0,none⟩=some (.int .i64 e.1)∧u.cell? ⟨w.heap.size,1,none⟩=some (.int .i64 e.2)) (exact hk4) (fail)
      go_wp2_with (at_builtin;refine wpList_append_own _ rfl _ _ 25 rfl (w.heap.size+1) 107 i0 _ 2 16 Tryz.underlying25 hi hz0 hz1 hz2 rfl (by decide) _ _ _ rfl ((hst.own.alloc _).drew) ⟨wr.heap.size,0,none⟩ 1 1 [.int .i64 f.1,.int .i64 f.2] rfl rfl (news1 _ f) (by intro u hu;simp at hu;rcases hu with rfl | rfl <;> rfl) (by unfold maxLen;omega) (by omega) (by simp;omega) ?_)
      intro v2 w2 hown2 hg2 hn2
      obtain ⟨a2,c2,rfl,hst2⟩:=(hst.up (Below.refl _ _).drew).app (o:=.cells #[.int .i64 f.1,.int .i64 f.2] 107) hown2 hg2
      clear hown2 hg2 hn2 e0 e1 x0 x1 hst hk4
      go_wp2
      exact ⟨⟨k+1,m'+1,a2,c2,gs ++ [f],by omega,by go_num,rfl,by omega,HG,hst2⟩,by simp [intOf];omega⟩
  ·obtain rfl:k=n:=by omega
   have HF:Hid (gs=outE es e):=by show _=_;rw [hgs.out,List.take_of_length_le (by omega)]
   have HO:=hideIt (own_mono hst.own (show w.heap.size≤w.heap.size+1 by omega))
   have hb:=hst.below
   clear hgs hst
   go_wp2
   go_ret
   exact ⟨a',m',c',rfl,by rw [← HF.out];exact HO.out,hb⟩
end Go.Proofs.YtnagchanokbgdaaGreat.O
