/- Lists of ints in memory; what the texts of chapter 6 share. Tours, as lists: a walk that goes down to a new vertex, or back up to the one that it came from; a tour from another vertex on; two that are joined; one that is split. Places in a list of ints: the first one of a number, the last one, the first step from one number to another. The specification's TourOk. The specification's TourOk: the whole of it. The vertices of a list of numbers, ascending; a sorted list without its repetitions: pure. -/
import Derived.Test.YtnagchanokbgdaaGreatProg
import GoSem.Claim
import GoSem.ClaimJoined
import GoSem.ClaimMapViews
import Derived.JoinedTies
import Derived.KernelRfl
import Derived.RowKit
import Derived.WalkKit
import Derived.WalkSpells
import Derived.WalkSmall
import Derived.OwnWalk
import Derived.BigQuiet
import Derived.Deep.QuietTactic
import Derived.Deep.MidRow
import Derived.Deep.RegionHeld3
import Derived.Deep.AppendLies
import Derived.Deep.DeepCutAuto
import Derived.Lib.SlicesCompact
namespace Go.Proofs.YtnagchanokbgdaaGreat
open Go.RowKit
theorem hideIt {p:Prop} (h:p):Hid p:=h
theorem takeOp {P:Program} {ops:Array Oper} {Q:Exit→Go.Act→World→Prop} {md:Region.Mode} {i:Nat} {oi:Oper} {v:Value} {fuel:Nat} {listed:Array Bool} {a:Go.Act} {w:World} (hi:ops[i]?=some oi)
  (hs:Region.noSelect ops=true) (hf:Region.free md ops listed i=true) (hr:(Region.ready md ops listed).contains i=true) (hQ:∀ c a w,Q (.panic c) (a.put oi.dst v) w→Q (.panic c) a w)
  (hw:Region.wanted oi (yielded ops a.tmps)=true) (hv:∀ w,(execOp a.eval oi).run P w=.ok (.value v) w) (h:wpAny P md ops Q fuel (listed.setIfInBounds i true) (a.put oi.dst v) w):wpAny P md ops Q (fuel+1) listed a w :=
 wpAny_take hi hs hf hr hQ (.inl ⟨hw,hv⟩) h
theorem l01In_any (x a b:Int) (w:World):Calls Tryz.prog 44 #[.int .i64 x,.int .i64 a,.int .i64 b] w fun e w'=>e=.returned (.bool (decide (a≤x∧x≤b)))∧w'=w:=by
 by_cases h1:a≤x
 ·by_cases h2:x≤b
  ·have d1:decide (a≤x)=true:=by simpa using h1
   have d2:decide (x≤b)=true:=by simpa using h2
   go_enter Tryz.func44,Tryz.ntmps44
   go_wp2
   go_ret
   exact ⟨by simp [h1,h2],rfl⟩
  ·have d1:decide (a≤x)=true:=by simpa using h1
   have d2:decide (x≤b)=false:=by simpa using h2
   go_enter Tryz.func44,Tryz.ntmps44
   go_wp2
   go_ret
   exact ⟨by simp,rfl⟩
 ·have d1:decide (a≤x)=false:=by simpa using h1
  go_enter Tryz.func44,Tryz.ntmps44
  go_wp2
  go_ret
  exact ⟨by simp,rfl⟩
theorem take_snocF {α:Type} (fs:List α) (k:Nat) (f:α) (h:fs[k]?=some f):fs.take (k+1)=fs.take k ++ [f]:=by
 obtain ⟨hk,rfl⟩:=List.getElem?_eq_some_iff.1 h
 rw [List.take_succ_eq_append_getElem hk]
theorem own_mono {w:World} {B B' e s n:Nat} {v:Value} {xs:List Value} (h:w.ownsRow B e s v n xs) (hB:B'≤B):w.ownsRow B' e s v n xs :=
 ⟨h.1,h.2.imp id (fun ⟨g,cap,cur,a,b,rest⟩=>⟨g,cap,cur,a,Nat.le_trans hB b,rest⟩)⟩
theorem grownSet (w:World) (G j:Nat) (u:Value):w.grownBy (w.setCell ⟨G,j,none⟩ u) (some G) :=
 ⟨rfl,rfl,rfl,by simp [World.setCell],fun k _ hk=>heap_setCell_other w ⟨G,j,none⟩ k u (fun e=>hk (by simp [e]))⟩
theorem own_setOther {w:World} {B e s g n cap:Nat} {xs:List Value} (h:w.ownsRow B e s (.slice (some ⟨g,0,none⟩) n cap) n xs) (G j:Nat) (u:Value) (hG:g≠G) :
  (w.setCell ⟨G,j,none⟩ u).ownsRow B e s (.slice (some ⟨g,0,none⟩) n cap) n xs :=
 World.ownsRow.kept h (grownSet w G j u) (.inr (by simp [Value.ownBlock];exact fun e=>hG e))
theorem bcell {W w1:World} (hb:Below W.heap.size W w1):(∀ b o,b<W.heap.size→w1.cell? ⟨b,o,none⟩=W.cell? ⟨b,o,none⟩)∧(∀ b o,b<W.heap.size→w1.frozen? ⟨b,o,none⟩=W.frozen? ⟨b,o,none⟩) :=
 ⟨fun b o h=>hb.cell (p:=⟨b,o,none⟩) h,fun b o h=>hb.frozen (p:=⟨b,o,none⟩) h⟩
theorem grown_of_below {w w':World} (h:Below w.heap.size w w') (row:Option Nat):w.grownBy w' row :=
 ⟨h.os,h.tape,h.output,h.size,fun k hk _=>h.block k hk⟩
theorem grown_trans {a b c:World} {row:Option Nat} (h:a.grownBy b row) (k:b.grownBy c row):a.grownBy c row :=
 ⟨k.os.trans h.os,k.tape.trans h.tape,k.output.trans h.output,Nat.le_trans h.size k.size,fun i hi hr=>(k.block i (Nat.lt_of_lt_of_le hi h.size) hr).trans (h.block i hi hr)⟩
theorem own_form {w:World} {B e s n:Nat} {v:Value} {xs:List Value} (h:w.ownsRow B e s v n xs):∃ a c,v=.slice a n c:=by
 rcases h.2 with ⟨hv,h0⟩ | ⟨g,cap,cur,hv,_⟩
 ·subst h0;exact ⟨none,0,hv⟩
 ·exact ⟨_,cap,hv⟩
def Good (w u:World):Prop:=Below w.heap.size w u
theorem Good.refl (w:World):Good w w:=Below.refl _ _
theorem Good.size {w u:World} (h:Good w u):w.heap.size≤u.heap.size:=Below.size h
theorem Good.up {w u v:World} (h:Good w u) (hb:Below u.heap.size u v):Good w v:=Below.trans h (hb.mono h.size)
theorem Good.alloc {w u:World} (h:Good w u) (o:Obj):Good w (u.alloc o):=h.up ((Below.refl _ _).alloc (Nat.le_refl _) _)
theorem Good.drew {w u:World} (h:Good w u):Good w u.drew:=Below.drew h
theorem Good.cell {w u:World} (h:Good w u) {b o:Nat} (hb:b<w.heap.size):u.cell? ⟨b,o,none⟩=w.cell? ⟨b,o,none⟩:=Below.cell h hb
structure Rng (lo hi:Nat) (u v:World):Prop where
 os:v.os=u.os
 tape:v.tape=u.tape
 output:v.output=u.output
 size:u.heap.size≤v.heap.size
 block:∀ k,k<u.heap.size→(k<lo∨hi≤k)→v.heap[k]?=u.heap[k]?
theorem Rng.of_below {u v:World} {lo hi:Nat} (h:Below u.heap.size u v):Rng lo hi u v:=⟨h.os,h.tape,h.output,h.size,fun k hk _=>h.block k hk⟩
theorem Rng.of_grown {u v:World} {lo hi g:Nat} (h:u.grownBy v (some g)) (h1:lo≤g) (h2:g<hi):Rng lo hi u v :=
 ⟨h.os,h.tape,h.output,h.size,fun k hk ho=>h.block k hk (by simp;omega)⟩
theorem own_up {w w':World} {B e s n:Nat} {v:Value} {xs:List Value} (h:w.ownsRow B e s v n xs) (hb:Below w.heap.size w w'):w'.ownsRow B e s v n xs :=
 World.ownsRow.kept h (grown_of_below hb none) (by cases hv:v.ownBlock <;> simp)
def Is (w:World) (B:Nat) (a:Option Addr) (n:Nat) (ls:List Int):Prop :=
 ls.length=n∧(n=0∨∃ b off,a=some ⟨b,off,none⟩∧b<B∧∀ (j:Nat) (x:Int),ls[j]?=some x→w.cell? ⟨b,off+j,none⟩=some (.int .i64 x))
theorem Is.below {w w':World} {B C:Nat} {a:Option Addr} {n:Nat} {ls:List Int} (h:Is w B a n ls) (hb:Below C w w') (hB:B≤C):Is w' B a n ls:=by
 refine ⟨h.1,h.2.imp id ?_⟩
 rintro ⟨b,off,h1,h2,h3⟩
 exact ⟨b,off,h1,h2,fun j x hx=>by rw [hb.cell (p:=⟨b,_,none⟩) (by show b<_;omega)];exact h3 j x hx⟩
theorem Is.mono {w:World} {B C:Nat} {a:Option Addr} {n:Nat} {ls:List Int} (h:Is w B a n ls) (hB:B≤C):Is w C a n ls:=by
 refine ⟨h.1,h.2.imp id ?_⟩
 rintro ⟨b,off,h1,h2,h3⟩
 exact ⟨b,off,h1,by omega,h3⟩
theorem Is.up {w w':World} {a:Option Addr} {n:Nat} {ls:List Int} (h:Is w w.heap.size a n ls) (hb:Below w.heap.size w w'):Is w' w'.heap.size a n ls :=
 (h.below hb (Nat.le_refl _)).mono hb.size
def ic (ls:List Int):List Value:=ls.map fun x=>Value.int .i64 x
theorem ic_len (ls:List Int):(ic ls).length=ls.length:=by simp [ic]
theorem ic_snoc (ls:List Int) (x:Int):ic (ls ++ [x])=ic ls ++ [.int .i64 x]:=by simp [ic]
theorem ic_at {ls:List Int} {j:Nat} {x:Int} (h:ls[j]?=some x):(ic ls)[j]?=some (.int .i64 x):=by rw [ic,List.getElem?_map,h];rfl
theorem Is_of_own {w:World} {B n c:Nat} {a:Option Addr} {ls:List Int} (h:w.ownsRow B 3 1 (.slice a n c) n (ic ls)):Is w w.heap.size a n ls:=by
 have hl:=h.1
 rw [ic_len] at hl
 refine ⟨by omega,?_⟩
 rcases h.2 with ⟨hv,h0⟩ | ⟨g,cap,cur,hv,hrest⟩
 ·exact .inl h0
 ·simp at hv
  obtain ⟨rfl,rfl⟩:=hv
  refine .inr ⟨g,0,rfl,(h.lt g rfl).2,fun j x hx=>?_⟩
  have hj:j<ls.length:=(List.getElem?_eq_some_iff.1 hx).1
  rw [Nat.zero_add,h.cellAt j (by omega)]
  exact ic_at hx
theorem info3i:(Tryz.prog.info? 3).map (fun i=>(i.zero,i.size,i.bytes))=some (some (.int .i64 0),1,8):=by kernel_rfl
set_option maxHeartbeats 1000000 in
theorem eqIntS_same (ls:List Int) (n:Nat) (a a':Option Addr) (c c':Nat) (hn:n≤1048576) (w:World) (h:Is w w.heap.size a n ls) (h':Is w w.heap.size a' n ls) :
  Calls Tryz.prog 28 #[.slice a n c,.slice a' n c'] w fun e w'=>e=.returned (.bool true)∧Below w.heap.size w w':=by
 obtain ⟨hlen,hrow⟩:=h
 obtain ⟨_,hrow'⟩:=h'
 have HR:=hideIt hrow
 have HR':=hideIt hrow'
 clear hrow hrow'
 have dn:((n:Int) != (n:Int))=false:=by simp
 go_enter Tryz.func28,Tryz.ntmps28
 go_wp2
 go_loopw [5] (fun i wr=>∃ (k:Nat),k≤n∧i=.int .i64 (k:Int)∧Below w.heap.size w wr) (fun i _=>n - (intOf i).toNat)
 case atStart=>exact ⟨0,by omega,rfl,Below.refl _ _⟩
 case round =>
  obtain ⟨k,hk,rfl,hb⟩:=hrel
  by_cases hlt:k<n
  ·rcases HR.out with hz | ⟨b,off,rfl,hbl,hc⟩
   ·omega
   ·rcases HR'.out with hz | ⟨b',off',rfl,hbl',hc'⟩
    ·omega
    ·obtain ⟨f,hf⟩:∃ f,ls[k]?=some f:=⟨ls[k]'(by omega),List.getElem?_eq_getElem (by omega)⟩
     have e0:wr.cell? ⟨b,off+k,none⟩=some (.int .i64 f):=by rw [hb.cell hbl];exact hc k f hf
     have e1:wr.cell? ⟨b',off'+k,none⟩=some (.int .i64 f):=by rw [hb.cell hbl'];exact hc' k f hf
     have b1:(0:Int)≤(k:Int):=by omega
     have b2:(k:Int)<(n:Int):=by omega
     have d1:(f != f)=false:=by simp
     clear hc hc' hf
     go_wp2
     go_quiet (fail)
     go_wp2
     exact ⟨⟨k+1,by omega,by go_num,below_drewN hb _⟩,by simp [intOf];omega⟩
  ·go_wp2
   go_ret
   exact ⟨rfl,hb⟩
def imarks (k0 n:Nat):List Int:=(List.range n).map fun (t:Nat)=>(k0:Int)+(t:Int)
theorem imarks_snoc (k0 n:Nat):imarks k0 (n+1)=imarks k0 n ++ [(k0:Int)+(n:Int)]:=by simp [imarks,List.range_succ]
theorem imarks_at (k0 n j:Nat) (h:j<n):(imarks k0 n)[j]?=some ((k0:Int)+(j:Int)):=by simp [imarks,h]
theorem markIntS_zero (a:Option Addr) (c:Nat) (k0:Int) (w:World) :
  Calls Tryz.prog 34 #[.slice a 0 c,.int .i64 k0] w fun e w'=>e=.returned (.int .i64 k0)∧w'=w:=by
 go_enter Tryz.func34,Tryz.ntmps34
 go_wp2
 refine wp_loop_rounds 1 ?_
 rw [rounds_succ]
 go_wp2
 go_ret
 exact ⟨rfl,rfl⟩
set_option maxHeartbeats 1000000 in
theorem markIntS_any (base g c n k0:Nat) (xs0:List Value) (hn:n≤1048576) (hk1:k0≤10000000) (w:World) (h:w.ownsRow base 3 1 (.slice (some ⟨g,0,none⟩) n c) n xs0) :
  Calls Tryz.prog 34 #[.slice (some ⟨g,0,none⟩) n c,.int .i64 (k0:Int)] w fun e w'=>e=.returned (.int .i64 ((k0:Int)+(n:Int)))∧w'.ownsRow base 3 1 (.slice (some ⟨g,0,none⟩) n c) n (ic (imarks k0 n))∧w.grownBy w' (some g):=by
 have H0:=hideIt h
 clear h
 go_enter Tryz.func34,Tryz.ntmps34
 go_wp2
 go_loopw [1,5] (fun q i wr=>∃ (k:Nat) (xs:List Value),k≤n∧i=.int .i64 (k:Int)∧q=.int .i64 ((k0:Int)+(k:Int))∧Hid (xs.take k=ic (imarks k0 k))∧wr.ownsRow base 3 1 (.slice (some ⟨g,0,none⟩) n c) n xs∧w.grownBy wr (some g)) (fun _ i _=>n - (intOf i).toNat)
 case atStart=>exact ⟨0,xs0,by omega,rfl,by simp,by show _=_;simp [ic,imarks],H0.out,⟨rfl,rfl,rfl,Nat.le_refl _,fun _ _ _=>rfl⟩⟩
 case round =>
  obtain ⟨k,xs,hk,rfl,rfl,hx,hown,hg⟩:=hrel
  have hl3:xs.length=n*1:=hown.1
  by_cases hlt:k<n
  ·have b1:(0:Int)≤(k:Int):=by omega
   have b2:(k:Int)<(n:Int):=by omega
   have f0:=hown.frozenAt k
   obtain ⟨y0,x0⟩:∃ y,wr.cell? ⟨g,k,none⟩=some y:=⟨_,by rw [hown.cellAt k (by omega)];exact List.getElem?_eq_getElem (by omega)⟩
   have hst:=hown.stored k (.int .i64 ((k0:Int)+(k:Int)))
   have HO2:=hideIt hst.1
   have HG2:=hideIt (grown_trans hg hst.2)
   have HX:Hid ((xs.set k (.int .i64 ((k0:Int)+(k:Int)))).take (k+1)=ic (imarks k0 (k+1))):=by
    show _=_
    rw [List.take_add_one,List.take_set_of_le (Nat.le_refl _),hx.out,imarks_snoc,ic_snoc]
    simp [show k<xs.length by omega]
   clear hst hx hown hg
   go_wp2
   exact ⟨⟨k+1,_,by omega,by go_num,by go_num,HX,HO2.out,HG2.out⟩,by simp [intOf];omega⟩
  ·obtain rfl:k=n:=by omega
   have HX:Hid (xs=ic (imarks k0 k)):=by
    show _=_
    have:=hx.out
    rw [List.take_of_length_le (by omega)] at this
    exact this
   have HO:=hideIt hown
   clear hx hown
   go_wp2
   go_ret
   exact ⟨rfl,by rw [← HX.out];exact HO.out,hg⟩
set_option maxHeartbeats 1000000 in
theorem heldIntS_any (n k0:Nat) (a:Option Addr) (c:Nat) (hn:n≤1048576) (hk1:k0≤10000000) (w:World) (h:Is w w.heap.size a n (imarks k0 n)) :
  Calls Tryz.prog 37 #[.slice a n c,.int .i64 (k0:Int)] w fun e w'=>e=.returned (.int .i64 ((k0:Int)+(n:Int)))∧w'=w:=by
 obtain ⟨_,hrow⟩:=h
 have HR:=hideIt hrow
 clear hrow
 go_enter Tryz.func37,Tryz.ntmps37
 go_wp2
 go_loopw [1,5] (fun kk i wr=>∃ j:Nat,j≤n∧i=.int .i64 (j:Int)∧kk=.int .i64 ((k0:Int)+(j:Int))∧wr=w) (fun _ i _=>n - (intOf i).toNat)
 case atStart=>exact ⟨0,by omega,rfl,by simp,rfl⟩
 case round =>
  obtain ⟨j,hj,rfl,rfl,hw⟩:=hrel
  have hw':=hw.symm
  subst hw'
  clear hw
  by_cases hlt:j<n
  ·rcases HR.out with hz | ⟨b,off,rfl,hbl,hc⟩
   ·omega
   ·have c0:=hc j _ (imarks_at k0 n j hlt)
    have b1:(0:Int)≤(j:Int):=by omega
    have b2:(j:Int)<(n:Int):=by omega
    have d1:((k0:Int)+(j:Int) != (k0:Int)+(j:Int))=false:=by simp
    clear hc
    go_wp2
    exact ⟨⟨j+1,by omega,by go_num,by go_num,by first | trivial | rfl⟩,by simp [intOf];omega⟩
  ·obtain rfl:j=n:=by omega
   go_wp2
   go_ret
   exact ⟨rfl,rfl⟩
structure RBox (u:World) (lo hi:Nat) (a:Option Addr) (m c:Nat) (ls:List Int):Prop where
 own:u.ownsRow lo 3 1 (.slice a m c) m (ic ls)
 row:∀ g,(Value.slice a m c).ownBlock=some g→g<hi
 there:hi≤u.heap.size
theorem RBox.rng {u v:World} {lo hi l2 h2:Nat} {a:Option Addr} {m c:Nat} {ls:List Int} (h:RBox u lo hi a m c ls) (hr:Rng l2 h2 u v) (ho:hi≤l2∨h2≤lo):RBox v lo hi a m c ls:=by
 have hth:=h.there
 refine ⟨⟨h.own.1,?_⟩,h.row,Nat.le_trans hth hr.size⟩
 rcases h.own.2 with h3 | ⟨g,cap,cur,hv,hg,hcur,hrest⟩
 ·exact .inl h3
 ·have hgh:=h.row g (by rw [hv];rfl)
  refine .inr ⟨g,cap,cur,hv,hg,?_,hrest⟩
  rw [hr.block g (by omega) (by omega)]
  exact hcur
theorem RBox.is {u:World} {lo hi:Nat} {a:Option Addr} {m c:Nat} {ls:List Int} (h:RBox u lo hi a m c ls):Is u u.heap.size a m ls:=Is_of_own h.own
theorem RBox.len {u:World} {lo hi:Nat} {a:Option Addr} {m c:Nat} {ls:List Int} (h:RBox u lo hi a m c ls):ls.length=m:=by
 have:=h.own.1;rw [ic_len] at this;omega
theorem markRB {u:World} {lo hi:Nat} {a:Option Addr} {m c:Nat} {ls:List Int} (h:RBox u lo hi a m c ls) (k0:Nat) (hm:m≤1048576) (h1:k0≤10000000) :
  Calls Tryz.prog 34 #[.slice a m c,.int .i64 (k0:Int)] u fun e v=>e=.returned (.int .i64 ((k0:Int)+(m:Int)))∧RBox v lo hi a m c (imarks k0 m)∧Rng lo hi u v:=by
 have hth:=h.there
 rcases h.own.2 with ⟨hv,hm0⟩ | ⟨g,cap,cur,hv,hg,hcur,hrest⟩
 ·subst hm0
  refine (markIntS_zero a c (k0:Int) u).mono fun e v ⟨he,hb⟩=>⟨by rw [he];simp,?_,by rw [hb];exact Rng.of_below (Below.refl _ _)⟩
  have hg0:ls=[]:=List.length_eq_zero_iff.1 h.len
  subst hg0
  rw [hb]
  exact h
 ·have hv':=hv
  simp at hv'
  obtain ⟨rfl,rfl⟩:=hv'
  have hgh:=h.row g rfl
  refine (markIntS_any lo g c m k0 _ hm h1 u h.own).mono fun e v ⟨he,ho,hgr⟩=>⟨he,⟨ho,h.row,Nat.le_trans hth hgr.size⟩,Rng.of_grown hgr hg hgh⟩
theorem heldRB {u:World} {lo hi:Nat} {a:Option Addr} {m c:Nat} (k0:Nat) (h:RBox u lo hi a m c (imarks k0 m)) (hm:m≤1048576) (h1:k0≤10000000) :
  Calls Tryz.prog 37 #[.slice a m c,.int .i64 (k0:Int)] u fun e v=>e=.returned (.int .i64 ((k0:Int)+(m:Int)))∧v=u :=
 heldIntS_any m k0 a c hm h1 u h.is
theorem newsI (w:World) (x:Int):∀ j u,([Value.int .i64 x]:List Value)[j]?=some u→(w.alloc (.cells #[.int .i64 x] 3)).cell? ((⟨w.heap.size,0,none⟩:Addr).add j)=some u:=by
 intro j u hj
 rcases j with _ | j
 ·simp at hj;subst hj;simp [Addr.add]
 ·simp at hj
end Go.Proofs.YtnagchanokbgdaaGreat
namespace Go.Proofs.YtnagchanokbgdaaGreat
end Go.Proofs.YtnagchanokbgdaaGreat
namespace Go.Proofs.YtnagchanokbgdaaGreat
open Go.RowKit
def firstN (p:Nat→Bool) (n:Nat):Int:=match (List.range n).find? p with | some k=>(k:Int) | none=>-1
theorem firstN_yes {p:Nat→Bool} {n k:Nat} (hk:k<n) (h:p k=true) (hn:∀ j,j<k→p j=false):firstN p n=(k:Int):=by
 have:(List.range n).find? p=some k:=by
  rw [List.find?_range_eq_some]
  exact ⟨h,by simpa using hk,fun j hj=>by simp [hn j hj]⟩
 unfold firstN
 rw [this]
theorem firstN_no {p:Nat→Bool} {n:Nat} (hn:∀ j,j<n→p j=false):firstN p n = -1:=by
 have:(List.range n).find? p=none:=by
  rw [List.find?_range_eq_none]
  exact fun j hj=>by simp [hn j hj]
 unfold firstN
 rw [this]
theorem firstN_cases (p:Nat→Bool) (n:Nat):(∃ k,k<n∧p k=true∧(∀ j,j<k→p j=false)∧firstN p n=(k:Int))∨((∀ j,j<n→p j=false)∧firstN p n = -1):=by
 cases h:(List.range n).find? p with
 | none =>
  rw [List.find?_range_eq_none] at h
  exact .inr ⟨fun j hj=>by simpa using h j hj,by unfold firstN;rw [show (List.range n).find? p=none by rw [List.find?_range_eq_none];exact h]⟩
 | some k =>
  have h':=h
  rw [List.find?_range_eq_some] at h
  exact .inl ⟨k,by simpa using h.2.1,h.1,fun j hj=>by simpa using h.2.2 j hj,by unfold firstN;rw [h']⟩
theorem all_step {p:Nat→Bool} {k:Nat} (h:∀ j,j<k→p j=false) (hp:p k=false):∀ j,j<k+1→p j=false:=fun j hj=>by
 by_cases h7:j=k
 ·rw [h7];exact hp
 ·exact h j (by omega)
theorem retI {x y:Int} (h:y=x):Ending.returned (.int .i64 x)=Ending.returned (.int .i64 y):=by rw [h]
end Go.Proofs.YtnagchanokbgdaaGreat
namespace Go.Proofs.YtnagchanokbgdaaGreat
open Go.Lib
end Go.Proofs.YtnagchanokbgdaaGreat
