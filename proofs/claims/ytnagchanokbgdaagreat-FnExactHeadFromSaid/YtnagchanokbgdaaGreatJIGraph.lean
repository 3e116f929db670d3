/- The specification's GraphOk and HasEdge. Edges that ascend: where one is put in, and what is left without one. (No walk.). The library's comparisons; the program's compareEdges. The library's BinarySearchFunc over edges, at the program's compareEdges. The library's Grow (of nothing) and Concat, over edges. The program's GraphOk and HasEdge. -/
import Derived.Test.YtnagchanokbgdaaGreatJSGraph
import Derived.Lib.AppendZerosOnto
import Derived.Lib.Walk
import Derived.Lib.SliceRun
import Derived.Laws.AppendOwnNone
namespace Go.Proofs.YtnagchanokbgdaaGreat.O
open Go.RowKit
def hasB (es:List EdgeV) (e:EdgeV):Bool:=decide (e ∈ es)
theorem hasB_yes {es:List EdgeV} {e:EdgeV} {k:Nat} (h:es[k]?=some e):hasB es e=true:=decide_eq_true (List.mem_of_getElem? h)
theorem hasB_no {es:List EdgeV} {e:EdgeV} (h:∀ j,j<es.length→es[j]?≠some e):hasB es e=false:=decide_eq_false fun hm=>by
 obtain ⟨j,hj,rfl⟩:=List.getElem_of_mem hm
 exact h j hj (List.getElem?_eq_getElem hj)
set_option maxHeartbeats 1000000 in
theorem l05Has_any (es:List EdgeV) (e:EdgeV) (n:Nat) (a:Option Addr) (c:Nat) (hn:n≤1048576) (w:World) (h:Es w w.heap.size a n es) :
  Calls Tryz.prog 78 #[.slice a n c,.agg #[.int .i64 e.1,.int .i64 e.2]] w fun x w'=>x=.returned (.bool (hasB es e))∧Below w.heap.size w w':=by
 obtain ⟨hlen,hrow⟩:=h
 have HR:=hideIt hrow
 clear hrow
 go_enter Tryz.func78,Tryz.ntmps78
 go_wp2
 go_loopw [5] (fun i wr=>∃ k:Nat,k≤n∧i=.int .i64 (k:Int)∧Hid (∀ j,j<k→es[j]?≠some e)∧Below w.heap.size w wr∧wr.cell? ⟨w.heap.size,0,none⟩=some (.int .i64 e.1)∧wr.cell? ⟨w.heap.size,1,none⟩=some (.int .i64 e.2)) (fun i _=>n - (intOf i).toNat)
 case atStart=>exact ⟨0,by omega,rfl,fun j hj=>by omega,(Below.refl _ _).alloc (Nat.le_refl _) _,by simp,by simp⟩
 case round =>
  obtain ⟨k,hk,rfl,hck,hb,x0,x1⟩:=hrel
  by_cases hlt:k<n
  ·rcases HR.out with hz | ⟨b,off,rfl,hbl,hc⟩
   ·omega
   ·obtain ⟨f,hf⟩:∃ f,es[k]?=some f:=⟨es[k]'(by omega),List.getElem?_eq_getElem (by omega)⟩
    obtain ⟨c0,c1⟩:=hc k f hf
    have e0:wr.cell? ⟨b,off+k*2,none⟩=some (.int .i64 f.1):=by rw [hb.cell hbl];exact c0
    have e1:wr.cell? ⟨b,off+k*2+1,none⟩=some (.int .i64 f.2):=by rw [hb.cell hbl];exact c1
    have b1:(0:Int)≤(k:Int):=by omega
    have b2:(k:Int)<(n:Int):=by omega
    by_cases hfe:f=e
    ·subst hfe
     have HY:=hideIt (hasB_yes hf)
     clear hf hc c0 c1 hck
     go_wp2
     go_quiet (fail)
     go_wp2
     go_ret
     exact ⟨by rw [HY.out];rfl,below_drewN hb _⟩
    ·have HN:Hid (∀ j,j<k+1→es[j]?≠some e):=fun j hj=>by
      by_cases hjk:j=k
      ·subst hjk;rw [hf];exact fun hh=>hfe (Option.some.inj hh)
      ·exact hck.out j (by omega)
     clear hf hc c0 c1 hck
     by_cases h1:f.1=e.1
     ·have h2:¬ f.2=e.2:=fun h2=>hfe (Prod.ext h1 h2)
      rw [h1] at e0
      have d2:(f.2 == e.2)=false:=by simpa using h2
      clear hfe
      go_wp2
      go_quiet (fail)
      go_wp2
      exact ⟨⟨k+1,by omega,by go_num,HN,below_drewN hb _,x0,x1⟩,by simp [intOf];omega⟩
     ·have d1:(f.1 == e.1)=false:=by simpa using h1
      clear hfe
      go_wp2
      go_quiet (fail)
      go_wp2
      exact ⟨⟨k+1,by omega,by go_num,HN,below_drewN hb _,x0,x1⟩,by simp [intOf];omega⟩
  ·have HN:=hideIt (hasB_no (es:=es) (e:=e) (fun j hj=>hck.out j (by omega)))
   clear hck
   go_wp2
   go_ret
   exact ⟨by rw [HN.out];rfl,hb⟩
end Go.Proofs.YtnagchanokbgdaaGreat.O
namespace Go.Proofs.YtnagchanokbgdaaGreat.O
theorem lt_iff (d e:EdgeV):lt d e=true↔(d.1<e.1∨d.1=e.1∧d.2<e.2):=by unfold lt;rw [decide_eq_true_iff]
theorem lt_trans' {a b c:EdgeV} (h1:lt a b=true) (h2:lt b c=true):lt a c=true:=by rw [lt_iff] at *;omega
theorem lt_asymm' {a b:EdgeV} (h1:lt a b=true):lt b a=false:=by
 cases h:lt b a with
 | false=>rfl
 | true=>rw [lt_iff] at *;omega
theorem lt_irrefl' (a:EdgeV):lt a a=false:=by
 cases h:lt a a with
 | false=>rfl
 | true=>rw [lt_iff] at h;omega
theorem lt_total' {a b:EdgeV} (h1:lt a b=false) (h2:a≠b):lt b a=true:=by
 have h3:¬ (a.1<b.1∨a.1=b.1∧a.2<b.2):=fun h=>by rw [(lt_iff a b).2 h] at h1;cases h1
 rw [lt_iff]
 by_cases h4:a.1=b.1
 ·have h5:¬ a.2=b.2:=fun h5=>h2 (Prod.ext h4 h5)
  omega
 ·omega
def Asc (es:List EdgeV):Prop:=∀ (i j:Nat) (d e:EdgeV),i<j→es[i]?=some d→es[j]?=some e→lt d e=true
theorem chk_all {n:Int} {es:List EdgeV} (h:chk n es=true) (j:Nat) (hj:j<es.length):chkAt n es j=true:=by
 unfold chk at h
 rw [List.all_eq_true] at h
 exact h j (List.mem_range.2 hj)
theorem chk_eB {n:Int} {es:List EdgeV} (h:chk n es=true) {e:EdgeV} (he:e ∈ es):eB n e=true:=by
 obtain ⟨j,hj,rfl⟩:=List.getElem_of_mem he
 have h1:=chk_all h j hj
 have h2:es[j]?=some es[j]:=List.getElem?_eq_getElem hj
 cases h3:eB n es[j] with
 | true=>rfl
 | false=>rw [chkAt_no h2 h3] at h1;cases h1
theorem chk_next {n:Int} {es:List EdgeV} (h:chk n es=true) {i:Nat} {d e:EdgeV} (hd:es[i]?=some d) (he:es[i+1]?=some e):lt d e=true:=by
 have h1:=chk_all h (i+1) (List.getElem?_eq_some_iff.1 he).1
 rw [chkAt_succ he hd,Bool.and_eq_true] at h1
 exact h1.2
theorem asc_of_chk {n:Int} {es:List EdgeV} (h:chk n es=true):Asc es:=by
 intro i j d e hij hd he
 obtain ⟨k,rfl⟩:∃ k,j=i+1+k:=⟨j - i - 1,by omega⟩
 clear hij
 induction k generalizing e with
 | zero=>exact chk_next h hd he
 | succ k ih =>
  have hl:=(List.getElem?_eq_some_iff.1 he).1
  have h2:es[i+1+k]?=some (es[i+1+k]'(by omega)):=List.getElem?_eq_getElem (by omega)
  exact lt_trans' (ih _ h2) (chk_next h h2 he)
def Split (es:List EdgeV) (e:EdgeV) (p:Nat):Prop :=
 p≤es.length∧(∀ m d,m<p→es[m]?=some d→lt d e=true)∧(∀ m d,p≤m→es[m]?=some d→lt d e=false)
def putE (es:List EdgeV) (e:EdgeV):List EdgeV:=es.filter (fun d=>lt d e) ++ [e] ++ es.filter (fun d=>lt e d)
def outE (es:List EdgeV) (e:EdgeV):List EdgeV:=es.filter (fun d=>decide (d≠e))
theorem mem_take_at {es:List EdgeV} {p:Nat} {d:EdgeV} (h:d ∈ es.take p):∃ m,m<p∧es[m]?=some d:=by
 obtain ⟨m,hm,rfl⟩:=List.getElem_of_mem h
 have h1:m<p:=by simp at hm;omega
 exact ⟨m,h1,by rw [List.getElem_take];exact List.getElem?_eq_getElem _⟩
theorem mem_drop_at {es:List EdgeV} {p:Nat} {d:EdgeV} (h:d ∈ es.drop p):∃ m,p≤m∧es[m]?=some d:=by
 obtain ⟨m,hm,rfl⟩:=List.getElem_of_mem h
 exact ⟨p+m,by omega,by rw [List.getElem_drop];exact List.getElem?_eq_getElem _⟩
theorem put_split {es:List EdgeV} {e:EdgeV} {p:Nat} (hs:Split es e p) (hn:e ∉ es):putE es e=es.take p ++ [e] ++ es.drop p:=by
 have hd:es=es.take p ++ es.drop p:=(List.take_append_drop p es).symm
 unfold putE
 have a1:(es.take p).filter (fun d=>lt d e)=es.take p:=List.filter_eq_self.2 fun d hm=>by
  obtain ⟨m,h1,h2⟩:=mem_take_at hm
  exact hs.2.1 m d h1 h2
 have a2:(es.drop p).filter (fun d=>lt d e)=[]:=List.filter_eq_nil_iff.2 fun d hm=>by
  obtain ⟨m,h1,h2⟩:=mem_drop_at hm
  rw [hs.2.2 m d h1 h2];simp
 have b1:(es.take p).filter (fun d=>lt e d)=[]:=List.filter_eq_nil_iff.2 fun d hm=>by
  obtain ⟨m,h1,h2⟩:=mem_take_at hm
  rw [lt_asymm' (hs.2.1 m d h1 h2)];simp
 have b2:(es.drop p).filter (fun d=>lt e d)=es.drop p:=List.filter_eq_self.2 fun d hm=>by
  obtain ⟨m,h1,h2⟩:=mem_drop_at hm
  exact lt_total' (hs.2.2 m d h1 h2) fun h3=>hn (h3 ▸ List.mem_of_getElem? h2)
 have c1:es.filter (fun d=>lt d e)=es.take p:=by
  rw [hd,List.filter_append,← hd,a1,a2,List.append_nil]
 have c2:es.filter (fun d=>lt e d)=es.drop p:=by
  rw [hd,List.filter_append,← hd,b1,b2,List.nil_append]
 rw [c1,c2]
theorem out_at {es:List EdgeV} {e:EdgeV} {p:Nat} (ha:Asc es) (hp:es[p]?=some e):outE es e=es.take p ++ es.drop (p+1):=by
 have hl:=(List.getElem?_eq_some_iff.1 hp).1
 have hd:es=es.take p ++ es.drop p:=(List.take_append_drop p es).symm
 have h1:es.drop p=e :: es.drop (p+1):=by
  rw [List.drop_eq_getElem_cons hl,(List.getElem?_eq_some_iff.1 hp).2]
 unfold outE
 have a1:(es.take p).filter (fun d=>decide (d≠e))=es.take p:=List.filter_eq_self.2 fun d hm=>by
  obtain ⟨m,h2,h3⟩:=mem_take_at hm
  have h4:=ha m p d e h2 h3 hp
  exact decide_eq_true fun h5=>by rw [h5,lt_irrefl'] at h4;cases h4
 have a2:(es.drop (p+1)).filter (fun d=>decide (d≠e))=es.drop (p+1):=List.filter_eq_self.2 fun d hm=>by
  obtain ⟨m,h2,h3⟩:=mem_drop_at hm
  have h4:=ha p m e d (by omega) hp h3
  exact decide_eq_true fun h5=>by rw [h5,lt_irrefl'] at h4;cases h4
 have c1:es.filter (fun d=>decide (d≠e))=es.take p ++ es.drop (p+1):=by
  rw [hd,List.filter_append,← hd,a1,h1,List.filter_cons_of_neg (by simp),a2]
 exact c1
def addE (N:Int) (es:List EdgeV) (e:EdgeV):Option (List EdgeV):=if gB N es=true∧eB N e=true∧hasB es e=false then some (putE es e) else none
def takE (N:Int) (es:List EdgeV) (e:EdgeV):Option (List EdgeV):=if gB N es=true∧hasB es e=true then some (outE es e) else none
theorem gB_chk {N:Int} {es:List EdgeV} (h:gB N es=true):(1≤N∧N≤12)∧chk N es=true∧es.length≤66:=by
 unfold gB at h
 simp only [Bool.and_eq_true,decide_eq_true_eq] at h
 exact ⟨h.1,h.2.1,h.2.2⟩
end Go.Proofs.YtnagchanokbgdaaGreat.O
namespace Go.Proofs.YtnagchanokbgdaaGreat.O
open Go.RowKit
def cmpI (x y:Int):Int:=if x<y then -1 else if y<x then 1 else 0
def cmpE (d e:EdgeV):Int:=if cmpI d.1 e.1≠0 then cmpI d.1 e.1 else cmpI d.2 e.2
theorem cmpI_zero (x y:Int):cmpI x y=0↔x=y:=by unfold cmpI;split <;> (try split) <;> omega
theorem cmpI_neg (x y:Int):cmpI x y<0↔x<y:=by unfold cmpI;split <;> (try split) <;> omega
theorem cmpE_neg (d e:EdgeV):cmpE d e<0↔lt d e=true:=by
 unfold cmpE lt
 rw [decide_eq_true_iff]
 by_cases h:cmpI d.1 e.1=0
 ·rw [if_neg (by simpa using h),cmpI_neg]
  have:=(cmpI_zero d.1 e.1).1 h
  omega
 ·rw [if_pos h,cmpI_neg]
  have:=mt (cmpI_zero d.1 e.1).2 h
  omega
theorem cmpCompare_any (x y:Int) (w:World):Calls Tryz.prog 101 #[.int .i64 x,.int .i64 y] w fun e w'=>e=.returned (.int .i64 (cmpI x y))∧w'=w:=by
 unfold cmpI
 by_cases h1:x<y
 ·rw [if_pos h1]
  have d1:decide (x<y)=true:=decide_eq_true h1
  go_enter Tryz.func101,Tryz.ntmps101
  go_wp2
  go_ret
  exact ⟨rfl,rfl⟩
 ·rw [if_neg h1]
  have d1:decide (x<y)=false:=decide_eq_false h1
  by_cases h2:y<x
  ·rw [if_pos h2]
   have d2:decide (y<x)=true:=decide_eq_true h2
   go_enter Tryz.func101,Tryz.ntmps101
   go_wp2
   go_ret
   exact ⟨rfl,rfl⟩
  ·rw [if_neg h2]
   have d2:decide (y<x)=false:=decide_eq_false h2
   go_enter Tryz.func101,Tryz.ntmps101
   go_wp2
   go_ret
   exact ⟨rfl,rfl⟩
theorem cmpOr_any (x y:Int) (b:Nat) (w:World) (h0:w.cell? ⟨b,0,none⟩=some (.int .i64 x)) (h1:w.cell? ⟨b,1,none⟩=some (.int .i64 y)) :
  Calls Tryz.prog 145 #[.slice (some ⟨b,0,none⟩) 2 2] w fun e w'=>e=.returned (.int .i64 (if x≠0 then x else y))∧w'=w:=by
 go_enter Tryz.func145,Tryz.ntmps145
 go_wp2
 go_loopw [8] (fun i wr=>∃ k:Nat,k≤2∧i=.int .i64 (k:Int)∧wr=w∧Hid (1≤k→x=0)∧Hid (2≤k→y=0)) (fun i _=>2 - (intOf i).toNat)
 case atStart=>exact ⟨0,by omega,rfl,rfl,fun h=>by omega,fun h=>by omega⟩
 case round =>
  obtain ⟨k,hk,rfl,rfl,hx,hy⟩:=hrel
  rcases k with _ | _ | k
  ·by_cases g:x=0
   ·subst g
    go_wp2
    exact ⟨⟨1,by omega,by go_num,by first | trivial | rfl,by first | exact fun _=>True.intro | exact fun _=>rfl,by first | exact True.intro | exact fun h=>by omega⟩,by simp [intOf]⟩
   ·have d:(x != 0)=true:=by simpa using g
    go_wp2
    go_ret
    exact ⟨rfl,rfl⟩
  ·have g:=hx.out (by omega)
   subst g
   clear hx hy
   by_cases g:y=0
   ·subst g
    go_wp2
    exact ⟨⟨2,by omega,by go_num,by first | trivial | rfl,by first | exact fun _=>True.intro | exact fun _=>rfl,by first | exact fun _=>True.intro | exact fun _=>rfl⟩,by simp [intOf]⟩
   ·have d:(y != 0)=true:=by simpa using g
    go_wp2
    go_ret
    exact ⟨rfl,rfl⟩
  ·obtain rfl:k=0:=by omega
   have g:=hx.out (by omega)
   have g2:=hy.out (by omega)
   subst g g2
   clear hx hy
   go_wp2
   go_ret
   exact ⟨rfl,rfl⟩
set_option maxHeartbeats 1000000 in
theorem compareEdges_any (d e:EdgeV) (w:World) :
  Calls Tryz.prog 122 #[.agg #[.int .i64 d.1,.int .i64 d.2],.agg #[.int .i64 e.1,.int .i64 e.2]] w fun x w'=>x=.returned (.int .i64 (cmpE d e))∧Below w.heap.size w w':=by
 obtain ⟨a,b⟩:=d
 obtain ⟨c,f⟩:=e
 dsimp only
 have HC:=hideIt cmpCompare_any
 have HO:Hid (Calls Tryz.prog 145 #[.slice (some ⟨w.heap.size+1+1,0,none⟩) 2 2] (((w.alloc (.cells #[.int .i64 a,.int .i64 b] 107)).alloc (.cells #[.int .i64 c,.int .i64 f] 107)).alloc (.cells #[.int .i64 (cmpI a c),.int .i64 (cmpI b f)] 3)).drew
   fun e w'=>e=.returned (.int .i64 (cmpE (a,b) (c,f)))∧w'=(((w.alloc (.cells #[.int .i64 a,.int .i64 b] 107)).alloc (.cells #[.int .i64 c,.int .i64 f] 107)).alloc (.cells #[.int .i64 (cmpI a c),.int .i64 (cmpI b f)] 3)).drew) :=
  cmpOr_any (cmpI a c) (cmpI b f) (w.heap.size+1+1) _ (by simp [go_sem]) (by simp [go_sem])
 go_enter Tryz.func122,Tryz.ntmps122
 go_wp2
 go_region_held3 (fun u=>(u.cell? ⟨w.heap.size,0,none⟩=some (.int .i64 a)∧u.cell? ⟨w.heap.size,1,none⟩=some (.int .i64 b))∧u.cell? ⟨w.heap.size+1,0,none⟩=some (.int .i64 c)∧u.cell? ⟨w.heap.size+1,1,none⟩=some (.int .i64 f))
  (go_keep)
  (first
   | (go_at_call 101;refine (HC.out _ _ _).mono ?_;rintro e w1 ⟨rfl,rfl⟩)
   | (go_at_call 145;refine HO.out.mono ?_;rintro e w1 ⟨rfl,rfl⟩))
 all_goals
  go_wp2
  go_ret
  exact ⟨rfl,((((Below.refl _ _).alloc (Nat.le_refl _) _).alloc (by simp) _).alloc (by simp;omega) _).drew⟩
set_option maxRecDepth 100000 in
set_option maxHeartbeats 2000000 in
theorem BSF_any (es:List EdgeV) (ha:Asc es) (e:EdgeV) (n:Nat) (a:Option Addr) (c:Nat) (hn:n≤1048576) (w:World) (h:Es w w.heap.size a n es) :
  Calls Tryz.prog 152 #[.slice a n c,.agg #[.int .i64 e.1,.int .i64 e.2],.func (.func 122) #[] #[]] w fun x w'=>∃ (p:Nat) (fb:Bool),x=.returned (.tuple #[.int .i64 (p:Int),.bool fb])∧Split es e p∧Below w.heap.size w w':=by
 obtain ⟨hlen,hrow⟩:=h
 have HR:=hideIt hrow
 have HA:=hideIt ha
 clear hrow ha
 go_enter Tryz.func152,Tryz.ntmps152
 go_wp2
 go_loopw [9,10] (fun vi vj wr=>∃ (i j:Nat),i≤j∧j≤n∧vi=.int .i64 (i:Int)∧vj=.int .i64 (j:Int)∧Hid (∀ m d,m<i→es[m]?=some d→lt d e=true)∧Hid (∀ m d,j≤m→es[m]?=some d→lt d e=false) ∧
   Below w.heap.size w wr∧wr.cell? ⟨w.heap.size,0,none⟩=some (.int .i64 e.1)∧wr.cell? ⟨w.heap.size,1,none⟩=some (.int .i64 e.2)∧w.heap.size<wr.heap.size) (fun vi vj _=>(intOf vj).toNat - (intOf vi).toNat)
 case atStart=>exact ⟨0,n,by omega,by omega,rfl,rfl,fun m d hm=>by omega,fun m d hm hd=>by have:=(List.getElem?_eq_some_iff.1 hd).1;omega,(Below.refl _ _).alloc (Nat.le_refl _) _,by simp,by simp,by simp⟩
 case round =>
  obtain ⟨i,j,hij,hjn,rfl,rfl,hlo,hhi,hb,x0,x1,hsz⟩:=hrel
  by_cases hlt:i<j
  ·have b0:(i:Int)<(j:Int):=by omega
   rcases HR.out with hz | ⟨b,off,rfl,hbl,hc⟩
   ·omega
   ·obtain ⟨h,hh⟩:∃ h,h=(i+j) / 2:=⟨_,rfl⟩
    have hm:((i:Int)+(j:Int)) / 2=(h:Int):=by omega
    obtain ⟨f,hf⟩:∃ f,es[h]?=some f:=⟨es[h]'(by omega),List.getElem?_eq_getElem (by omega)⟩
    obtain ⟨c0,c1⟩:=hc h f hf
    have b1:(0:Int)≤(h:Int):=by omega
    have b2:(h:Int)<(n:Int):=by omega
    have hhi2:h<j:=by omega
    have hhi3:i≤h:=by omega
    have hbd:=hb.drew
    have HK:Hid (∀ W:World,Below (w.heap.size+1) wr W→(W.cell? ⟨b,off+h*2,none⟩=some (.int .i64 f.1)∧W.cell? ⟨b,off+h*2+1,none⟩=some (.int .i64 f.2))∧W.cell? ⟨w.heap.size,0,none⟩=some (.int .i64 e.1)∧W.cell? ⟨w.heap.size,1,none⟩=some (.int .i64 e.2)):=fun W hW =>
     ⟨⟨by rw [hW.cell (by show b<_;omega),hb.cell hbl];exact c0,by rw [hW.cell (by show b<_;omega),hb.cell hbl];exact c1⟩,by rw [hW.cell (by show w.heap.size<_;omega)];exact x0,by rw [hW.cell (by show w.heap.size<_;omega)];exact x1⟩
    have HC:Hid (∀ W:World,Below (w.heap.size+1) wr W→Calls Tryz.prog 122 #[.agg #[.int .i64 f.1,.int .i64 f.2],.agg #[.int .i64 e.1,.int .i64 e.2]] W fun x w'=>x=.returned (.int .i64 (cmpE f e))∧Below (w.heap.size+1) wr w'):=fun W hW =>
     (compareEdges_any f e W).mono fun _ _ ⟨he,hb'⟩=>⟨he,hW.trans (hb'.mono (Nat.le_trans (by omega) hW.size))⟩
    have S0:Below (w.heap.size+1) wr wr.drew:=(Below.refl _ _).drew
    cases hL:lt f e with
    | true =>
     have dc:decide (cmpE f e<0)=true:=decide_eq_true ((cmpE_neg f e).2 hL)
     have HLO:Hid (∀ m d,m<h+1→es[m]?=some d→lt d e=true):=fun m d hm hd=>by
      by_cases hmh:m=h
      ·subst hmh;rw [hf] at hd;obtain rfl:=Option.some.inj hd;exact hL
      ·exact lt_trans' (HA.out m h d f (by omega) hd hf) hL
     generalize cmpE f e=cv at HC dc
     clear hc hf c0 c1 hlo hL hh
     go_wp2
     go_region_held3 (fun u=>Below (w.heap.size+1) wr u∧(u.cell? ⟨b,off+h*2,none⟩=some (.int .i64 f.1)∧u.cell? ⟨b,off+h*2+1,none⟩=some (.int .i64 f.2))∧u.cell? ⟨w.heap.size,0,none⟩=some (.int .i64 e.1)∧u.cell? ⟨w.heap.size,1,none⟩=some (.int .i64 e.2))
      (first | exact ⟨S1,HK.out _ S1⟩ | exact ⟨S0,HK.out _ S0⟩)
      ((go_at_call 122;refine (HC.out _ S0).mono ?_;rintro x w1 ⟨rfl,S1⟩))
     all_goals
      obtain ⟨_,y0,y1⟩:=HK.out _ S1
      have hs1:=S1.size
      go_wp2
      exact ⟨⟨h+1,j,by omega,by omega,by go_num,rfl,HLO,hhi,hb.trans (S1.mono (by omega)),y0,y1,by omega⟩,by simp [intOf];omega⟩
    | false =>
     have dc:decide (cmpE f e<0)=false:=decide_eq_false fun h2=>by rw [(cmpE_neg f e).1 h2] at hL;cases hL
     have HHI:Hid (∀ m d,h≤m→es[m]?=some d→lt d e=false):=fun m d hm hd=>by
      by_cases hmh:m=h
      ·subst hmh;rw [hf] at hd;obtain rfl:=Option.some.inj hd;exact hL
      ·cases h3:lt d e with
       | false=>rfl
       | true=>rw [lt_trans' (HA.out h m f d (by omega) hf hd) h3] at hL;cases hL
     generalize cmpE f e=cv at HC dc
     clear hc hf c0 c1 hhi hL hh
     go_wp2
     go_region_held3 (fun u=>Below (w.heap.size+1) wr u∧(u.cell? ⟨b,off+h*2,none⟩=some (.int .i64 f.1)∧u.cell? ⟨b,off+h*2+1,none⟩=some (.int .i64 f.2))∧u.cell? ⟨w.heap.size,0,none⟩=some (.int .i64 e.1)∧u.cell? ⟨w.heap.size,1,none⟩=some (.int .i64 e.2))
      (first | exact ⟨S1,HK.out _ S1⟩ | exact ⟨S0,HK.out _ S0⟩)
      ((go_at_call 122;refine (HC.out _ S0).mono ?_;rintro x w1 ⟨rfl,S1⟩))
     all_goals
      obtain ⟨_,y0,y1⟩:=HK.out _ S1
      have hs1:=S1.size
      go_wp2
      exact ⟨⟨i,h,by omega,by omega,rfl,rfl,hlo,HHI,hb.trans (S1.mono (by omega)),y0,y1,by omega⟩,by simp [intOf];omega⟩
  ·obtain rfl:i=j:=by omega
   have HS:Hid (Split es e i):=⟨by omega,hlo.out,hhi.out⟩
   have S0:Below (w.heap.size+1) wr wr.drew:=(Below.refl _ _).drew
   clear hlo hhi
   by_cases hin:i<n
   ·rcases HR.out with hz | ⟨b,off,rfl,hbl,hc⟩
    ·omega
    ·obtain ⟨f,hf⟩:∃ f,es[i]?=some f:=⟨es[i]'(by omega),List.getElem?_eq_getElem (by omega)⟩
     obtain ⟨c0,c1⟩:=hc i f hf
     have b1:(0:Int)≤(i:Int):=by omega
     have b2:(i:Int)<(n:Int):=by omega
     have HK:Hid (∀ W:World,Below (w.heap.size+1) wr W→(W.cell? ⟨b,off+i*2,none⟩=some (.int .i64 f.1)∧W.cell? ⟨b,off+i*2+1,none⟩=some (.int .i64 f.2))∧W.cell? ⟨w.heap.size,0,none⟩=some (.int .i64 e.1)∧W.cell? ⟨w.heap.size,1,none⟩=some (.int .i64 e.2)):=fun W hW =>
      ⟨⟨by rw [hW.cell (by show b<_;omega),hb.cell hbl];exact c0,by rw [hW.cell (by show b<_;omega),hb.cell hbl];exact c1⟩,by rw [hW.cell (by show w.heap.size<_;omega)];exact x0,by rw [hW.cell (by show w.heap.size<_;omega)];exact x1⟩
     have HC:Hid (∀ W:World,Below (w.heap.size+1) wr W→Calls Tryz.prog 122 #[.agg #[.int .i64 f.1,.int .i64 f.2],.agg #[.int .i64 e.1,.int .i64 e.2]] W fun x w'=>x=.returned (.int .i64 (cmpE f e))∧Below (w.heap.size+1) wr w'):=fun W hW =>
      (compareEdges_any f e W).mono fun _ _ ⟨he,hb'⟩=>⟨he,hW.trans (hb'.mono (Nat.le_trans (by omega) hW.size))⟩
     have dl:decide ((i:Int)<(n:Int))=true:=decide_eq_true b2
     generalize cmpE f e=cv at HC
     clear hc hf c0 c1
     go_wp2
     go_region_held3 (fun u=>Below (w.heap.size+1) wr u∧(u.cell? ⟨b,off+i*2,none⟩=some (.int .i64 f.1)∧u.cell? ⟨b,off+i*2+1,none⟩=some (.int .i64 f.2))∧u.cell? ⟨w.heap.size,0,none⟩=some (.int .i64 e.1)∧u.cell? ⟨w.heap.size,1,none⟩=some (.int .i64 e.2))
      (first | exact ⟨S1,HK.out _ S1⟩ | exact ⟨S0,HK.out _ S0⟩)
      ((go_at_call 122;refine (HC.out _ S0).mono ?_;rintro x w1 ⟨rfl,S1⟩))
     all_goals
      go_wp2
      exact bodyPost_ret (v:=.tuple #[.int .i64 (i:Int),.bool (cv == 0)]) (by simp [results,Tryz.results152,go_sem]) rfl ⟨i,cv == 0,rfl,HS.out,hb.trans (S1.mono (by omega))⟩
   ·obtain rfl:i=n:=by omega
    go_wp2
    refine wp_region_any (by kernel_rfl) ?_
    change wpAny _ _ _ _ _ _ _ (World.drew _)
    refine takeOp (i:=0) (v:=?_) rfl (by kernel_rfl) (by kernel_rfl) (by kernel_rfl) (fun _ _ _ h=>h) (by kernel_rfl) ?_ ?_
    rotate_left
    ·intro w;go_simp;try with_reducible rfl
    refine takeOp (i:=1) (v:=?_) rfl (by kernel_rfl) (by kernel_rfl) (by kernel_rfl) (fun _ _ _ h=>h) (by kernel_rfl) ?_ ?_
    rotate_left
    ·intro w;go_simp;try with_reducible rfl
    refine takeOp (i:=2) (v:=?_) rfl (by kernel_rfl) (by kernel_rfl) (by kernel_rfl) (fun _ _ _ h=>h) (by kernel_rfl) ?_ ?_
    rotate_left
    ·intro w;go_simp;try with_reducible rfl
    refine wpAny_ready (rs:=[3]) (by kernel_rfl) (by simp) ?_
    refine AllReady.cons rfl (fun K hK=>?_) AllReady.nil
    go_simp
    refine hK _ _ ?_
    clear hK K
    refine wpAny_ready (rs:=[4]) (by kernel_rfl) (by simp) ?_
    refine AllReady.cons rfl (fun K hK=>?_) AllReady.nil
    go_simp
    refine hK _ _ ?_
    clear hK K
    refine skipOp (i:=5) rfl (by kernel_rfl) (by kernel_rfl) (by kernel_rfl) (fun _ _ _ h=>h) (by kernel_rfl) ?_
    refine skipOp (i:=6) rfl (by kernel_rfl) (by kernel_rfl) (by kernel_rfl) (fun _ _ _ h=>h) (by kernel_rfl) ?_
    refine skipOp (i:=7) rfl (by kernel_rfl) (by kernel_rfl) (by kernel_rfl) (fun _ _ _ h=>h) (by kernel_rfl) ?_
    refine skipOp (i:=8) rfl (by kernel_rfl) (by kernel_rfl) (by kernel_rfl) (fun _ _ _ h=>h) (by kernel_rfl) ?_
    refine skipOp (i:=9) rfl (by kernel_rfl) (by kernel_rfl) (by kernel_rfl) (fun _ _ _ h=>h) (by kernel_rfl) ?_
    refine skipOp (i:=10) rfl (by kernel_rfl) (by kernel_rfl) (by kernel_rfl) (fun _ _ _ h=>h) (by kernel_rfl) ?_
    refine skipOp (i:=11) rfl (by kernel_rfl) (by kernel_rfl) (by kernel_rfl) (fun _ _ _ h=>h) (by kernel_rfl) ?_
    refine skipOp (i:=12) rfl (by kernel_rfl) (by kernel_rfl) (by kernel_rfl) (fun _ _ _ h=>h) (by kernel_rfl) ?_
    refine takeOp (i:=13) (v:=?_) rfl (by kernel_rfl) (by kernel_rfl) (by kernel_rfl) (fun _ _ _ h=>h) (by kernel_rfl) ?_ ?_
    rotate_left
    ·intro w;go_simp;try with_reducible rfl
    refine takeOp (i:=14) (v:=?_) rfl (by kernel_rfl) (by kernel_rfl) (by kernel_rfl) (fun _ _ _ h=>h) (by kernel_rfl) ?_ ?_
    rotate_left
    ·intro w;go_simp;try with_reducible rfl
    refine wpAny_ready (rs:=[15]) (by kernel_rfl) (by simp) ?_
    refine AllReady.cons rfl (fun K hK=>?_) AllReady.nil
    go_simp
    refine hK _ _ ?_
    clear hK K
    refine wpAny_done (by kernel_rfl) ?_ _
    go_wp2
    exact bodyPost_ret (v:=.tuple #[.int .i64 (i:Int),.bool false]) (by simp [results,Tryz.results152,go_sem]) rfl ⟨i,false,rfl,HS.out,hb.trans (S0.mono (by omega))⟩
theorem Grow_zero (w:World):Calls Tryz.prog 129 #[.slice none 0 0,.int .i64 0] w fun e w'=>e=.returned (.slice none 0 0)∧w'=w:=by
 go_enter Tryz.func129,Tryz.ntmps129
 go_wp2
 go_ret
 exact ⟨rfl,rfl⟩
theorem Grow_some (n:Nat) (hn0:0<n) (hn:n≤10000000) (w:World) :
  Calls Tryz.prog 129 #[.slice none 0 0,.int .i64 (n:Int)] w fun e w'=>∃ a' c',e=.returned (.slice a' 0 c')∧w'.ownsRow w.heap.size 107 2 (.slice a' 0 c') 0 []∧Below w.heap.size w w':=by
 obtain ⟨i0,hi,hz0,hz1,hz2⟩:=info_parts infoIE
 have hold:(Builtin.firstCells i0.size 0 (.slice none 0 0)).run Tryz.prog w.drew=.ok ([]:List Value).toArray w.drew:=run_firstCells_none w.drew i0.size 0 0 0
 have hrz:∀ ty,(Builtin.append_ #[25,3] ty #[.slice none 0 0,.int .i64 (n:Int)]).run Tryz.prog w=_:=fun ty =>
  Lib.run_append_grow_zeros w 25 3 ty 107 i0 _ .i64 .i64 Tryz.underlying25 Tryz.underlying3 hi hz0 none 0 0 [] hold n hn0 (by rw [hz1];omega) (by omega) (by omega)
   (by rw [hz2];omega) (by rw [Nat.zero_add];exact growslice_fits (by omega) (by rw [hz2];omega))
 have hGn:0+n≤grownCap w (0+n) 0 107:=grownCap_ge w _ _ _
 have hGm:grownCap w (0+n) 0 107≤maxLen:=grownCap_le_maxLen w (0+n) 0 107 (by unfold maxLen;omega)
 obtain ⟨G,hG⟩:∃ G,G=grownCap w (0+n) 0 107:=⟨_,rfl⟩
 rw [← hG] at hGn hGm
 have hrz2:∀ ty,(Builtin.append_ #[25,3] ty #[.slice none 0 0,.int .i64 (n:Int)]).run Tryz.prog w=.ok (.slice (some ⟨w.heap.size,0,none⟩) n G) (w.drew.alloc (.cells (Builtin.zeroCells #[.int .i64 0,.int .i64 0] n ++ Builtin.zeroCells #[.int .i64 0,.int .i64 0] (G - n)) 107)):=fun ty=>by
  rw [hrz ty,← hG]
  simp [Value.cells]
 have hsz:(Builtin.zeroCells #[.int .i64 0,.int .i64 0] n ++ Builtin.zeroCells #[.int .i64 0,.int .i64 0] (G - n)).size=G*2:=by
  simp [Builtin.zeroCells]
  omega
 have HO:=hideIt (show (w.drew.alloc (.cells (Builtin.zeroCells #[.int .i64 0,.int .i64 0] n ++ Builtin.zeroCells #[.int .i64 0,.int .i64 0] (G - n)) 107)).ownsRow w.heap.size 107 2 (.slice (some ⟨w.heap.size,0,none⟩) 0 G) 0 [] from
  ⟨rfl,.inr ⟨w.heap.size,G,_,rfl,Nat.le_refl _,heap_alloc_new w.drew _,by omega,hGm,hsz,rfl⟩⟩)
 have HB:=hideIt (show Below w.heap.size w (w.drew.alloc (.cells (Builtin.zeroCells #[.int .i64 0,.int .i64 0] n ++ Builtin.zeroCells #[.int .i64 0,.int .i64 0] (G - n)) 107)) from (Below.refl _ _).drew.alloc (Nat.le_refl _) _)
 generalize (w.drew.alloc (.cells (Builtin.zeroCells #[.int .i64 0,.int .i64 0] n ++ Builtin.zeroCells #[.int .i64 0,.int .i64 0] (G - n)) 107))=W at hrz2 HO HB
 have g1:(0:Int)≤(G:Int):=by omega
 have d0:decide ((0:Int)<(n:Int))=true:=decide_eq_true (by omega)
 have d1:decide ((n:Int)<0)=false:=decide_eq_false (by omega)
 unfold maxLen at hGm
 clear hrz hold hG hsz
 go_enter Tryz.func129,Tryz.ntmps129
 go_wp2_with (at_builtin;refine Lib.wpList_append_run _ rfl _ _ _ _ rfl _ _ rfl rfl _ _ (hrz2 _) ?_)
 all_goals
  go_ret
  exact ⟨_,_,rfl,HO.out,HB.out⟩
theorem own_form {w:World} {B e s n:Nat} {v:Value} {xs:List Value} (h:w.ownsRow B e s v n xs):∃ a c,v=.slice a n c:=by
 rcases h.2 with ⟨hv,h0⟩ | ⟨g,cap,cur,hv,_⟩
 ·subst h0;exact ⟨none,0,hv⟩
 ·exact ⟨_,cap,hv⟩
structure Part where
 a:Option Addr
 m:Nat
 c:Nat
 es:List EdgeV
def Parts (w:World) (b:Nat) (ps:List Part):Prop :=
 b<w.heap.size∧∀ (j:Nat) (p:Part),ps[j]?=some p→w.cell? ⟨b,j,none⟩=some (.slice p.a p.m p.c)∧Es w w.heap.size p.a p.m p.es∧(p.a=none→p.m=0∧p.c=0)
def pLen (ps:List Part):Nat:=(ps.map fun p=>p.m).sum
def pAll (ps:List Part):List EdgeV:=ps.flatMap fun p=>p.es
theorem pLen_snoc (ps:List Part) (p:Part):pLen (ps ++ [p])=pLen ps+p.m:=by simp [pLen]
theorem pAll_snoc (ps:List Part) (p:Part):pAll (ps ++ [p])=pAll ps ++ p.es:=by simp [pAll]
theorem pLen_take (ps:List Part) (k:Nat):pLen (ps.take k)≤pLen ps:=by
 have h:=congrArg pLen (List.take_append_drop k ps)
 have e:∀ a b:List Part,pLen (a ++ b)=pLen a+pLen b:=fun a b=>by simp [pLen]
 rw [e] at h
 omega
theorem pAll_len {w:World} {b:Nat} {ps:List Part} (h:Parts w b ps) (k:Nat):(pAll (ps.take k)).length=pLen (ps.take k):=by
 induction k with
 | zero=>simp [pAll,pLen]
 | succ k ih =>
  by_cases hk:k<ps.length
  ·obtain ⟨p,hp⟩:∃ p,ps[k]?=some p:=⟨ps[k],List.getElem?_eq_getElem hk⟩
   rw [take_snocF ps k p hp,pAll_snoc,pLen_snoc,List.length_append,ih,(h.2 k p hp).2.1.1]
  ·rw [List.take_of_length_le (by omega),← List.take_of_length_le (by omega:ps.length≤k)];exact ih
theorem Es.news {w:World} {B b off n:Nat} {es:List EdgeV} (h:Es w B (some ⟨b,off,none⟩) n es):∀ j u,(ecells es)[j]?=some u→w.cell? ((⟨b,off,none⟩:Addr).add j)=some u:=by
 intro j u hj
 have hl:j<es.length*2:=by have:=(List.getElem?_eq_some_iff.1 hj).1;rw [ecells_length] at this;exact this
 have hn:=h.1
 rcases h.2 with h0 | ⟨b',off',hb,_,hc⟩
 ·omega
 ·simp at hb
  obtain ⟨rfl,rfl⟩:=hb
  obtain ⟨f,hf⟩:∃ f,es[j / 2]?=some f:=⟨es[j / 2]'(by omega),List.getElem?_eq_getElem (by omega)⟩
  obtain ⟨c0,c1⟩:=hc _ f hf
  obtain ⟨d0,d1⟩:=ecells_at es _ f hf
  rw [show ((⟨b,off,none⟩:Addr).add j)=⟨b,off+j,none⟩ by by_cases h0:j=0 <;> simp [Addr.add,h0]]
  rcases (show j=j / 2*2∨j=j / 2*2+1 by omega) with e | e
  ·rw [← e] at d0 c0
   rw [d0] at hj
   rw [c0]
   exact hj
  ·rw [← e] at d1
   rw [Nat.add_assoc,← e] at c1
   rw [d1] at hj
   rw [c1]
   exact hj
theorem ecells_one {es:List EdgeV}:∀ u ∈ ecells es,u.oneCell'=true:=by
 intro u hu
 simp only [ecells,List.mem_flatMap] at hu
 obtain ⟨e,_,he⟩:=hu
 simp [ecell] at he
 rcases he with rfl | rfl <;> rfl
set_option maxRecDepth 100000 in
set_option maxHeartbeats 2000000 in
theorem Concat_any (ps:List Part) (b k0:Nat) (hk0:ps.length=k0) (hsm:k0≤10) (w:World) (h:Parts w b ps) (hlen:pLen ps≤3000000) :
  Calls Tryz.prog 107 #[.slice (some ⟨b,0,none⟩) k0 k0] w fun e w'=>∃ a m c,e=.returned (.slice a m c)∧w'.ownsRow w.heap.size 107 2 (.slice a m c) m (ecells (pAll ps))∧Below w.heap.size w w':=by
 obtain ⟨i0,hi,hz0,hz1,hz2⟩:=info_parts infoIE
 have HP:=hideIt h
 have HL:=hideIt hlen
 have HK:=hideIt hk0
 have hbw:=h.1
 clear h hlen hk0
 have HG:Hid (∀ n:Nat,n≤3000000→Calls Tryz.prog 129 #[.slice none 0 0,.int .i64 (n:Int)] w fun e w'=>∃ a' c',e=.returned (.slice a' 0 c')∧w'.ownsRow w.heap.size 107 2 (.slice a' 0 c') 0 []∧Below w.heap.size w w'):=fun n hn=>by
  by_cases h0:n=0
  ·subst h0
   exact (Grow_zero w).mono fun _ _ ⟨he,hw⟩=>⟨_,_,he,by rw [hw];exact World.ownsRow_nil _ _ _ _,by rw [hw];exact Below.refl _ _⟩
  ·exact Grow_some n (by omega) (by omega) w
 go_enter Tryz.func107,Tryz.ntmps107
 go_wp2
 go_loopw [3,11] (fun s i wr=>∃ (k q:Nat),k≤k0∧i=.int .i64 (k:Int)∧s=.int .i64 (q:Int)∧Hid (q=pLen (ps.take k))∧q≤3000000∧wr=w) (fun _ i _=>k0 - (intOf i).toNat)
 case atStart=>exact ⟨0,0,by omega,rfl,rfl,by show _=_;simp [pLen],by omega,rfl⟩
 case round =>
  obtain ⟨k,q,hk,rfl,rfl,hq,hq1,hw⟩:=hrel
  have hw':=hw.symm
  subst hw'
  clear hw
  by_cases hlt:k<k0
  ·obtain ⟨p,hp⟩:∃ p,ps[k]?=some p:=⟨ps[k]'(by have:=HK.out;omega),List.getElem?_eq_getElem _⟩
   obtain ⟨c0,_,_⟩:=HP.out.2 k p hp
   have HQ:Hid (q+p.m=pLen (ps.take (k+1))):=by show _=_;rw [take_snocF ps k p hp,pLen_snoc,hq.out]
   have hqm:q+p.m≤3000000:=by have:=HQ.out;have:=pLen_take ps (k+1);have:=HL.out;omega
   have b1:(0:Int)≤(k:Int):=by omega
   have b2:(k:Int)<(k0:Int):=by omega
   clear hq hp
   go_wp2
   exact ⟨⟨k+1,q+p.m,by omega,by go_num,by go_num,HQ,hqm,by first | trivial | rfl⟩,by simp [intOf];omega⟩
  ·obtain rfl:k=k0:=by omega
   have HQ:Hid (q=pLen ps):=by show _=_;rw [hq.out,List.take_of_length_le (by have:=HK.out;omega)]
   clear hq
   have HG1:=hideIt (HG.out q hq1)
   clear HG
   go_wp2_with (go_at_call 129;refine HG1.out.mono ?_;rintro e w1 ⟨a1,c1,rfl,hown1,hb1⟩;refine Hid.out ?_)
   refine (show ∀ {p:Prop},p→Hid p from fun h=>h) ?_
   clear HG1
   have HO1:=hideIt hown1
   clear hown1
   go_wp2
   go_loopw [6,27] (fun v i wr=>∃ (j m:Nat) (a':Option Addr) (c':Nat),j≤k∧i=.int .i64 (j:Int)∧v=.slice a' m c'∧Hid (m=pLen (ps.take j))∧wr.ownsRow w.heap.size 107 2 (.slice a' m c') m (ecells (pAll (ps.take j)))∧Below w.heap.size w wr) (fun _ i _=>k - (intOf i).toNat)
   case atStart=>exact ⟨0,0,a1,c1,by omega,rfl,rfl,by show _=_;simp [pLen],by simpa [pAll,ecells] using HO1.out,hb1⟩
   case round =>
    obtain ⟨j,m,a',c',hj,rfl,rfl,hm,hown,hb⟩:=hrel
    by_cases hlt2:j<k
    ·obtain ⟨p,hp⟩:∃ p,ps[j]?=some p:=⟨ps[j]'(by have:=HK.out;omega),List.getElem?_eq_getElem _⟩
     obtain ⟨c0,hes,hnil⟩:=HP.out.2 j p hp
     have c1:wr.cell? ⟨b,j,none⟩=some (.slice p.a p.m p.c):=by rw [hb.cell hbw];exact c0
     have HM:Hid (m+p.m=pLen (ps.take (j+1))):=by show _=_;rw [take_snocF ps j p hp,pLen_snoc,hm.out]
     have HA:Hid (ecells (pAll (ps.take (j+1)))=ecells (pAll (ps.take j)) ++ ecells p.es):=by show _=_;rw [take_snocF ps j p hp,pAll_snoc,ecells_append]
     have hmp:m+p.m≤3000000:=by have:=HM.out;have:=pLen_take ps (j+1);have:=HL.out;omega
     have b1:(0:Int)≤(j:Int):=by omega
     have b2:(j:Int)<(k:Int):=by omega
     have hesw:=(hes.below hb (Nat.le_refl _)).mono hb.size
     have hl2:(ecells p.es).length=p.m*2:=by rw [ecells_length,hes.1]
     obtain ⟨pa,pm,pc,pes⟩:=p
     dsimp only at *
     clear hm hp c0 hes
     cases pa with
     | none =>
      obtain ⟨rfl,rfl⟩:=hnil rfl
      have HO2:Hid (wr.ownsRow w.heap.size 107 2 (.slice a' m c') m (ecells (pAll (ps.take (j+1))))):=by
       have e0:pes=[]:=List.length_eq_zero_iff.1 hesw.1
       show World.ownsRow _ _ _ _ _ _ _
       rw [HA.out,e0]
       simpa [ecells] using hown
      clear hnil
      go_wp2_with (at_builtin;refine wpList_append_own_none rfl _ _ 25 rfl w.heap.size 107 i0 2 Tryz.underlying25 hi _ _ _ rfl hown rfl ?_)
      exact ⟨⟨j+1,m,a',c',by omega,by go_num,rfl,HM,HO2.out,hb⟩,by simp [intOf];omega⟩
     | some ad =>
      have hnews:∀ q u,(ecells pes)[q]?=some u→wr.cell? (ad.add q)=some u:=by
       rcases hesw.2 with h0 | ⟨bb,oo,hbb,_⟩
       ·intro q u hq
        have e0:pes=[]:=List.length_eq_zero_iff.1 (by rw [hesw.1];exact h0)
        rw [e0] at hq
        simp [ecells] at hq
       ·simp at hbb
        subst hbb
        exact hesw.news
      clear hnil
      go_wp2_with (at_builtin;refine wpList_append_own _ rfl _ _ 25 rfl w.heap.size 107 i0 _ 2 16 Tryz.underlying25 hi hz0 hz1 hz2 rfl (by decide) _ _ _ rfl hown ad pm pc (ecells pes) rfl hl2 hnews ecells_one (by unfold maxLen;omega) (by omega) hb.size ?_)
      intro v1 w1 hown1 hg1 hn1
      have hb1:Below w.heap.size w w1:=hb.grown hg1 hb.size (fun q hq=>(hown.lt q hq).1)
      rw [← HA.out] at hown1
      obtain ⟨a2,c2,rfl⟩:=own_form hown1
      have HO2:=hideIt hown1
      clear hown1 hown hg1 hn1 hnews
      go_wp2
      exact ⟨⟨j+1,m+pm,a2,c2,by omega,by go_num,rfl,HM,HO2.out,hb1⟩,by simp [intOf];omega⟩
    ·obtain rfl:j=k:=by omega
     have e:ps.take j=ps:=List.take_of_length_le (by have:=HK.out;omega)
     rw [e] at hown
     have HO2:=hideIt hown
     clear hown e hm
     go_wp2
     go_ret
     exact ⟨a',m,c',rfl,HO2.out,hb⟩
theorem cmpE_ge (d e:EdgeV) (b:Bool) (h:lt d e=b):decide (0≤cmpE d e) = !b:=by
 cases b with
 | true=>have:=(cmpE_neg d e).2 h;simp;omega
 | false =>
  have:¬ cmpE d e<0:=fun h2=>by rw [(cmpE_neg d e).1 h2] at h;cases h
  simp;omega
set_option maxRecDepth 100000 in
set_option maxHeartbeats 2000000 in
theorem edgesOk_any (N:Int) (es:List EdgeV) (n:Nat) (a:Option Addr) (c:Nat) (hn:n≤1048576) (w:World) (h:Es w w.heap.size a n es) :
  Calls Tryz.prog 100 #[.int .i64 N,.slice a n c] w fun e w'=>e=.returned (.bool (chk N es && decide (es.length≤66)))∧Below w.heap.size w w':=by
 obtain ⟨hlen,hrow⟩:=h
 have HR:=hideIt hrow
 clear hrow
 by_cases g66:66<n
 ·have d66:decide ((66:Int)<(n:Int))=true:=decide_eq_true (by omega)
  have HG:Hid (decide (es.length≤66)=false):=decide_eq_false (by omega)
  go_enter Tryz.func100,Tryz.ntmps100
  go_wp2
  go_ret
  exact ⟨by rw [HG.out];simp,Below.refl _ _⟩
 ·have d66:decide ((66:Int)<(n:Int))=false:=decide_eq_false (by omega)
  have HG:Hid (decide (es.length≤66)=true):=decide_eq_true (by omega)
  go_enter Tryz.func100,Tryz.ntmps100
  go_wp2
  go_loopw [12] (fun i wr=>∃ k:Nat,k≤n∧i=.int .i64 (k:Int)∧Hid (∀ j,j<k→chkAt N es j=true)∧Below w.heap.size w wr) (fun i _=>n - (intOf i).toNat)
  case atStart=>exact ⟨0,by omega,rfl,fun j hj=>by omega,Below.refl _ _⟩
  case round =>
   obtain ⟨k,hk,rfl,hck,hb⟩:=hrel
   by_cases hlt:k<n
   ·rcases HR.out with hz | ⟨b,off,rfl,hbl,hc⟩
    ·omega
    ·obtain ⟨f,hf⟩:∃ f,es[k]?=some f:=⟨es[k]'(by omega),List.getElem?_eq_getElem (by omega)⟩
     obtain ⟨c0,c1⟩:=hc k f hf
     have e0:wr.cell? ⟨b,off+k*2,none⟩=some (.int .i64 f.1):=by rw [hb.cell hbl];exact c0
     have e1:wr.cell? ⟨b,off+k*2+1,none⟩=some (.int .i64 f.2):=by rw [hb.cell hbl];exact c1
     have b1:(0:Int)≤(k:Int):=by omega
     have b2:(k:Int)<(n:Int):=by omega
     have z0:wr.heap.size<(wr.alloc (.cells #[.int .i64 f.1,.int .i64 f.2] 107)).heap.size:=by simp
     have hb5:Below w.heap.size w (wr.alloc (.cells #[.int .i64 f.1,.int .i64 f.2] 107)):=hb.alloc hb.size _
     have hbd:Below (wr.alloc (.cells #[.int .i64 f.1,.int .i64 f.2] 107)).heap.size (wr.alloc (.cells #[.int .i64 f.1,.int .i64 f.2] 107)) (wr.alloc (.cells #[.int .i64 f.1,.int .i64 f.2] 107)).drew:=(Below.refl _ _).drew
     have HZ:=hideIt (fun W (hW:Below (wr.alloc (.cells #[.int .i64 f.1,.int .i64 f.2] 107)).heap.size (wr.alloc (.cells #[.int .i64 f.1,.int .i64 f.2] 107)) W)=>hb5.trans (hW.mono hb5.size))
     have HE:Hid (∀ W:World,Below (wr.alloc (.cells #[.int .i64 f.1,.int .i64 f.2] 107)).heap.size (wr.alloc (.cells #[.int .i64 f.1,.int .i64 f.2] 107)) W→Calls Tryz.prog 121 #[.int .i64 N,.agg #[.int .i64 f.1,.int .i64 f.2]] W fun e w'=>e=.returned (.bool (eB N f))∧Below (wr.alloc (.cells #[.int .i64 f.1,.int .i64 f.2] 107)).heap.size (wr.alloc (.cells #[.int .i64 f.1,.int .i64 f.2] 107)) w'):=fun W hW =>
      (iEdgeOk_any N f W).mono fun _ _ ⟨he,hb'⟩=>⟨he,hW.trans (hb'.mono hW.size)⟩
     have HK:Hid (∀ W:World,Below (wr.alloc (.cells #[.int .i64 f.1,.int .i64 f.2] 107)).heap.size (wr.alloc (.cells #[.int .i64 f.1,.int .i64 f.2] 107)) W→(W.cell? ⟨wr.heap.size,0,none⟩=some (.int .i64 f.1)∧W.cell? ⟨wr.heap.size,1,none⟩=some (.int .i64 f.2))):=fun W hW =>
      ⟨by rw [hW.cell z0];simp,by rw [hW.cell z0];simp⟩
     cases hE:eB N f with
     | false =>
      rw [hE] at HE
      have HN:=hideIt (chk_no (by omega:k<es.length) (chkAt_no hf hE))
      clear hf hc c0 c1 hE hck
      go_wp2
      refine wp_region_any (by kernel_rfl) ?_
      change wpAny _ _ _ _ _ _ _ (World.drew _)
      refine takeOp (i:=0) (v:=?_) rfl (by kernel_rfl) (by kernel_rfl) (by kernel_rfl) (fun _ _ _ h=>h) (by kernel_rfl) ?_ ?_
      rotate_left
      ·intro w;go_simp;try with_reducible rfl
      refine wpAny_ready (rs:=[1]) (by kernel_rfl) (by simp) ?_
      refine AllReady.cons rfl (fun K hK=>?_) AllReady.nil
      go_simp
      refine hK _ _ ?_
      clear hK K
      refine wpAny_ready (rs:=[2]) (by kernel_rfl) (by simp) ?_
      refine AllReady.cons rfl (fun K hK=>?_) AllReady.nil
      go_wp2_with (go_at_call 121;refine (HE.out _ hbd).mono ?_;rintro e w1 ⟨rfl,hb3⟩;refine Hid.out ?_)
      refine (show ∀ {p:Prop},p→Hid p from fun h=>h) ?_
      try refine hK _ _ ?_
      clear hK K
      refine wpAny_ready (rs:=[3]) (by kernel_rfl) (by simp) ?_
      refine AllReady.cons rfl (fun K hK=>?_) AllReady.nil
      go_simp
      refine hK _ _ ?_
      clear hK K
      refine wpAny_ready (rs:=[4]) (by kernel_rfl) (by simp) ?_
      refine AllReady.cons rfl (fun K hK=>?_) AllReady.nil
      go_simp
      refine hK _ _ ?_
      clear hK K
      refine skipOp (i:=5) rfl (by kernel_rfl) (by kernel_rfl) (by kernel_rfl) (fun _ _ _ h=>h) (by kernel_rfl) ?_
      refine skipOp (i:=6) rfl (by kernel_rfl) (by kernel_rfl) (by kernel_rfl) (fun _ _ _ h=>h) (by kernel_rfl) ?_
      refine skipOp (i:=7) rfl (by kernel_rfl) (by kernel_rfl) (by kernel_rfl) (fun _ _ _ h=>h) (by kernel_rfl) ?_
      refine skipOp (i:=8) rfl (by kernel_rfl) (by kernel_rfl) (by kernel_rfl) (fun _ _ _ h=>h) (by kernel_rfl) ?_
      refine skipOp (i:=9) rfl (by kernel_rfl) (by kernel_rfl) (by kernel_rfl) (fun _ _ _ h=>h) (by kernel_rfl) ?_
      refine skipOp (i:=10) rfl (by kernel_rfl) (by kernel_rfl) (by kernel_rfl) (fun _ _ _ h=>h) (by kernel_rfl) ?_
      refine skipOp (i:=11) rfl (by kernel_rfl) (by kernel_rfl) (by kernel_rfl) (fun _ _ _ h=>h) (by kernel_rfl) ?_
      refine skipOp (i:=12) rfl (by kernel_rfl) (by kernel_rfl) (by kernel_rfl) (fun _ _ _ h=>h) (by kernel_rfl) ?_
      refine skipOp (i:=13) rfl (by kernel_rfl) (by kernel_rfl) (by kernel_rfl) (fun _ _ _ h=>h) (by kernel_rfl) ?_
      refine skipOp (i:=14) rfl (by kernel_rfl) (by kernel_rfl) (by kernel_rfl) (fun _ _ _ h=>h) (by kernel_rfl) ?_
      refine skipOp (i:=15) rfl (by kernel_rfl) (by kernel_rfl) (by kernel_rfl) (fun _ _ _ h=>h) (by kernel_rfl) ?_
      refine skipOp (i:=16) rfl (by kernel_rfl) (by kernel_rfl) (by kernel_rfl) (fun _ _ _ h=>h) (by kernel_rfl) ?_
      refine wpAny_ready (rs:=[17]) (by kernel_rfl) (by simp) ?_
      refine AllReady.cons rfl (fun K hK=>?_) AllReady.nil
      go_simp
      refine hK _ _ ?_
      clear hK K
      refine wpAny_done (by kernel_rfl) ?_ _
      go_wp2
      go_ret
      exact ⟨by rw [HN.out];rfl,HZ.out _ hb3⟩
     | true =>
      rw [hE] at HE
      rcases k with _ | i
      ·have HY:=hideIt (show chkAt N es 0=true by rw [chkAt_zero hf];exact hE)
       clear hf hc c0 c1 hE
       rw [Nat.zero_mul,Nat.add_zero] at e0 e1
       go_wp2
       refine wp_region_any (by kernel_rfl) ?_
       change wpAny _ _ _ _ _ _ _ (World.drew _)
       refine takeOp (i:=0) (v:=?_) rfl (by kernel_rfl) (by kernel_rfl) (by kernel_rfl) (fun _ _ _ h=>h) (by kernel_rfl) ?_ ?_
       rotate_left
       ·intro w;go_simp;try with_reducible rfl
       refine wpAny_ready (rs:=[1]) (by kernel_rfl) (by simp) ?_
       refine AllReady.cons rfl (fun K hK=>?_) AllReady.nil
       go_simp
       refine hK _ _ ?_
       clear hK K
       refine wpAny_ready (rs:=[2]) (by kernel_rfl) (by simp) ?_
       refine AllReady.cons rfl (fun K hK=>?_) AllReady.nil
       go_wp2_with (go_at_call 121;refine (HE.out _ hbd).mono ?_;rintro e w1 ⟨rfl,hb3⟩;refine Hid.out ?_)
       refine (show ∀ {p:Prop},p→Hid p from fun h=>h) ?_
       try refine hK _ _ ?_
       clear hK K
       refine wpAny_ready (rs:=[3]) (by kernel_rfl) (by simp) ?_
       refine AllReady.cons rfl (fun K hK=>?_) AllReady.nil
       go_simp
       refine hK _ _ ?_
       clear hK K
       refine wpAny_ready (rs:=[4]) (by kernel_rfl) (by simp) ?_
       refine AllReady.cons rfl (fun K hK=>?_) AllReady.nil
       go_simp
       refine hK _ _ ?_
       clear hK K
       refine wpAny_ready (rs:=[5]) (by kernel_rfl) (by simp) ?_
       refine AllReady.cons rfl (fun K hK=>?_) AllReady.nil
       go_simp
       refine hK _ _ ?_
       clear hK K
       refine wpAny_ready (rs:=[6]) (by kernel_rfl) (by simp) ?_
       refine AllReady.cons rfl (fun K hK=>?_) AllReady.nil
       go_simp
       refine hK _ _ ?_
       clear hK K
       refine wpAny_ready (rs:=[7]) (by kernel_rfl) (by simp) ?_
       refine AllReady.cons rfl (fun K hK=>?_) AllReady.nil
       go_simp
       refine hK _ _ ?_
       clear hK K
       refine skipOp (i:=8) rfl (by kernel_rfl) (by kernel_rfl) (by kernel_rfl) (fun _ _ _ h=>h) (by kernel_rfl) ?_
       refine skipOp (i:=9) rfl (by kernel_rfl) (by kernel_rfl) (by kernel_rfl) (fun _ _ _ h=>h) (by kernel_rfl) ?_
       refine skipOp (i:=10) rfl (by kernel_rfl) (by kernel_rfl) (by kernel_rfl) (fun _ _ _ h=>h) (by kernel_rfl) ?_
       refine skipOp (i:=11) rfl (by kernel_rfl) (by kernel_rfl) (by kernel_rfl) (fun _ _ _ h=>h) (by kernel_rfl) ?_
       refine skipOp (i:=12) rfl (by kernel_rfl) (by kernel_rfl) (by kernel_rfl) (fun _ _ _ h=>h) (by kernel_rfl) ?_
       refine skipOp (i:=13) rfl (by kernel_rfl) (by kernel_rfl) (by kernel_rfl) (fun _ _ _ h=>h) (by kernel_rfl) ?_
       refine skipOp (i:=14) rfl (by kernel_rfl) (by kernel_rfl) (by kernel_rfl) (fun _ _ _ h=>h) (by kernel_rfl) ?_
       refine skipOp (i:=15) rfl (by kernel_rfl) (by kernel_rfl) (by kernel_rfl) (fun _ _ _ h=>h) (by kernel_rfl) ?_
       refine wpAny_ready (rs:=[16]) (by kernel_rfl) (by simp) ?_
       refine AllReady.cons rfl (fun K hK=>?_) AllReady.nil
       go_simp
       refine hK _ _ ?_
       clear hK K
       refine wpAny_ready (rs:=[17]) (by kernel_rfl) (by simp) ?_
       refine AllReady.cons rfl (fun K hK=>?_) AllReady.nil
       go_simp
       refine hK _ _ ?_
       clear hK K
       refine wpAny_done (by kernel_rfl) ?_ _
       go_wp2
       exact ⟨⟨1,by omega,by go_num,fun j hj=>by
        obtain rfl:j=0:=by omega
        exact HY.out,HZ.out _ hb3⟩,by simp [intOf];omega⟩
      ·obtain ⟨d,hd⟩:∃ d,es[i]?=some d:=⟨es[i]'(by omega),List.getElem?_eq_getElem (by omega)⟩
       obtain ⟨c2,c3⟩:=hc i d hd
       have HK2:Hid (∀ W:World,Below (wr.alloc (.cells #[.int .i64 f.1,.int .i64 f.2] 107)).heap.size (wr.alloc (.cells #[.int .i64 f.1,.int .i64 f.2] 107)) W→(W.cell? ⟨b,off+i*2,none⟩=some (.int .i64 d.1)∧W.cell? ⟨b,off+i*2+1,none⟩=some (.int .i64 d.2))):=fun W hW =>
        ⟨by rw [(HZ.out W hW).cell hbl];exact c2,by rw [(HZ.out W hW).cell hbl];exact c3⟩
       have HC:=hideIt (chkAt_succ (n:=N) hf hd)
       have HL2:Hid (∀ W:World,Below (wr.alloc (.cells #[.int .i64 f.1,.int .i64 f.2] 107)).heap.size (wr.alloc (.cells #[.int .i64 f.1,.int .i64 f.2] 107)) W→Calls Tryz.prog 122 #[.agg #[.int .i64 d.1,.int .i64 d.2],.agg #[.int .i64 f.1,.int .i64 f.2]] W fun e w'=>e=.returned (.int .i64 (cmpE d f))∧Below (wr.alloc (.cells #[.int .i64 f.1,.int .i64 f.2] 107)).heap.size (wr.alloc (.cells #[.int .i64 f.1,.int .i64 f.2] 107)) w'):=fun W hW =>
        (compareEdges_any d f W).mono fun _ _ ⟨he,hb'⟩=>⟨he,hW.trans (hb'.mono hW.size)⟩
       have HE0:=hideIt hE
       have ek:((i+1:Nat):Int)=(i:Int)+1:=by omega
       rw [ek] at b1 b2
       have b3:(0:Int)≤(i:Int):=by omega
       have b4:(i:Int)<(n:Int):=by omega
       have tn:((i:Int)+1).toNat=i+1:=by omega
       have d0:decide ((0:Int)<(i:Int)+1)=true:=decide_eq_true (by omega)
       have hw1:IntKind.i64.wrap (i:Int)=(i:Int):=by rw [IntKind.wrap_i64];omega
       rw [ek]
       clear ek hf hd hc c0 c1 c2 c3 hE
       cases hL:lt d f with
       | true =>
        have dc:=cmpE_ge d f true hL
        have HY:=hideIt (show chkAt N es (i+1)=true by rw [HC.out,HE0.out,hL];rfl)
        clear HC hL HE0
        generalize cmpE d f=cv at HL2 dc
        go_wp2
        go_region_held3 (fun u=>Below (wr.alloc (.cells #[.int .i64 f.1,.int .i64 f.2] 107)).heap.size (wr.alloc (.cells #[.int .i64 f.1,.int .i64 f.2] 107)) u∧(u.cell? ⟨wr.heap.size,0,none⟩=some (.int .i64 f.1)∧u.cell? ⟨wr.heap.size,1,none⟩=some (.int .i64 f.2))∧u.cell? ⟨b,off+i*2,none⟩=some (.int .i64 d.1)∧u.cell? ⟨b,off+i*2+1,none⟩=some (.int .i64 d.2))
         (first | exact ⟨hb4,HK.out _ hb4,HK2.out _ hb4⟩ | exact ⟨hb3,HK.out _ hb3,HK2.out _ hb3⟩ | exact ⟨hbd,HK.out _ hbd,HK2.out _ hbd⟩)
         (first
         | (go_at_call 121;refine (HE.out _ hbd).mono ?_;rintro e w1 ⟨rfl,hb3⟩)
         | (go_at_call 122;refine (HL2.out _ hb3).mono ?_;rintro e w2 ⟨rfl,hb4⟩))
        all_goals
         go_wp2
         exact ⟨⟨i+2,by omega,by go_num,fun j hj=>by
          by_cases hji:j=i+1
          ·subst hji;exact HY.out
          ·exact hck.out j (by omega),HZ.out _ hb4⟩,by simp [intOf];omega⟩
       | false =>
        have dc:=cmpE_ge d f false hL
        have HN:=hideIt (chk_no (by omega:i+1<es.length) (show chkAt N es (i+1)=false by rw [HC.out,HE0.out,hL];rfl))
        clear HC hL HE0
        generalize cmpE d f=cv at HL2 dc
        go_wp2
        go_region_held3 (fun u=>Below (wr.alloc (.cells #[.int .i64 f.1,.int .i64 f.2] 107)).heap.size (wr.alloc (.cells #[.int .i64 f.1,.int .i64 f.2] 107)) u∧(u.cell? ⟨wr.heap.size,0,none⟩=some (.int .i64 f.1)∧u.cell? ⟨wr.heap.size,1,none⟩=some (.int .i64 f.2))∧u.cell? ⟨b,off+i*2,none⟩=some (.int .i64 d.1)∧u.cell? ⟨b,off+i*2+1,none⟩=some (.int .i64 d.2))
         (first | exact ⟨hb4,HK.out _ hb4,HK2.out _ hb4⟩ | exact ⟨hb3,HK.out _ hb3,HK2.out _ hb3⟩ | exact ⟨hbd,HK.out _ hbd,HK2.out _ hbd⟩)
         (first
         | (go_at_call 121;refine (HE.out _ hbd).mono ?_;rintro e w1 ⟨rfl,hb3⟩)
         | (go_at_call 122;refine (HL2.out _ hb3).mono ?_;rintro e w2 ⟨rfl,hb4⟩))
        all_goals
         go_wp2
         go_ret
         exact ⟨by rw [HN.out];rfl,HZ.out _ hb4⟩
   ·have HY:=hideIt (chk_yes (n:=N) (es:=es) (fun j hj=>hck.out j (by omega)))
    clear hck
    go_wp2
    go_ret
    exact ⟨by rw [HY.out,HG.out];rfl,hb⟩
set_option maxHeartbeats 1000000 in
theorem iGraphOk_any (N:Int) (es:List EdgeV) (n:Nat) (a:Option Addr) (c:Nat) (hn:n≤1048576) (w:World) (h:Es w w.heap.size a n es) :
  Calls Tryz.prog 84 #[.agg #[.int .i64 N,.slice a n c]] w fun e w'=>e=.returned (.bool (gB N es))∧Below w.heap.size w w':=by
 have HT:=hideIt (edgesOk_any N es n a c hn (w.alloc (.cells #[.int .i64 N,.slice a n c] 104)) ((h.alloc (Nat.le_refl _) _).mono (by simp)))
 have HI:=hideIt vertsOk_any
 clear h
 by_cases h1:1≤N∧N≤12
 ·have r1:decide (1≤N∧N≤12)=true:=by simpa using h1
  have HG:Hid (gB N es=(chk N es && decide (es.length≤66))):=by show _=_;unfold gB;rw [r1];rfl
  generalize (chk N es && decide (es.length≤66))=r at HG HT
  go_enter Tryz.func84,Tryz.ntmps84
  go_wp2_with (first | (go_at_call 60;refine (HI.out _ _).mono ?_;rintro e w1 ⟨rfl,rfl⟩) | (go_at_call 100;refine HT.out.mono ?_;rintro e w2 ⟨rfl,hb2⟩))
  go_ret
  exact ⟨by rw [HG.out];rfl,((Below.refl _ _).alloc (Nat.le_refl _) _).trans (hb2.mono (by simp))⟩
 ·have r1:decide (1≤N∧N≤12)=false:=by simpa using h1
  have HG:Hid (gB N es=false):=by show _=_;unfold gB;rw [r1];rfl
  clear HT
  go_enter Tryz.func84,Tryz.ntmps84
  go_wp2_with (go_at_call 60;refine (HI.out _ _).mono ?_;rintro e w1 ⟨rfl,rfl⟩)
  go_ret
  exact ⟨by rw [HG.out];rfl,(Below.refl _ _).alloc (Nat.le_refl _) _⟩
end Go.Proofs.YtnagchanokbgdaaGreat.O
