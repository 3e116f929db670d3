/- Lists of ints in memory; what the texts of chapter 6 share. Tours, as lists: a walk that goes down to a new vertex, or back up to the one that it came from; a tour from another vertex on; two that are joined; one that is split. Places in a list of ints: the first one of a number, the last one, the first step from one number to another. The specification's TourOk. The specification's TourOk: the whole of it. The vertices of a list of numbers, ascending; a sorted list without its repetitions: pure. -/
import Derived.Test.YtnagchanokbgdaaGreatProg
import GoSem.Claim
import GoSem.ClaimJoined
import GoSem.ClaimMapViews
import Derived.JoinedTies
import Derived.KernelRfl
import Derived.RowKit
import Derived.WalkKit
import Derived.WalkSpells
import Derived.WalkSmall
import Derived.OwnWalk
import Derived.BigQuiet
import Derived.Deep.QuietTactic
import Derived.Deep.MidRow
import Derived.Deep.RegionHeld3
import Derived.Deep.AppendLies
import Derived.Deep.DeepCutAuto
import Derived.Lib.SlicesCompact
namespace Go.Proofs.YtnagchanokbgdaaGreat
open Go.RowKit
theorem hideIt {p:Prop} (h:p):Hid p:=h
theorem takeOp {P:Program} {ops:Array Oper} {Q:Exit→Go.Act→World→Prop} {md:Region.Mode} {i:Nat} {oi:Oper} {v:Value} {fuel:Nat} {listed:Array Bool} {a:Go.Act} {w:World} (hi:ops[i]?=some oi)
  (hs:Region.noSelect ops=true) (hf:Region.free md ops listed i=true) (hr:(Region.ready md ops listed).contains i=true) (hQ:∀ c a w,Q (.panic c) (a.put oi.dst v) w→Q (.panic c) a w)
  (hw:Region.wanted oi (yielded ops a.tmps)=true) (hv:∀ w,(execOp a.eval oi).run P w=.ok (.value v) w) (h:wpAny P md ops Q fuel (listed.setIfInBounds i true) (a.put oi.dst v) w):wpAny P md ops Q (fuel+1) listed a w :=
 wpAny_take hi hs hf hr hQ (.inl ⟨hw,hv⟩) h
theorem l01In_any (x a b:Int) (w:World):Calls Tryz.prog 44 #[.int .i64 x,.int .i64 a,.int .i64 b] w fun e w'=>e=.returned (.bool (decide (a≤x∧x≤b)))∧w'=w:=by
 by_cases h1:a≤x
 ·by_cases h2:x≤b
  ·have d1:decide (a≤x)=true:=by simpa using h1
   have d2:decide (x≤b)=true:=by simpa using h2
   go_enter Tryz.func44,Tryz.ntmps44
   go_wp2
   go_ret
   exact ⟨by simp [h1,h2],rfl⟩
  ·have d1:decide (a≤x)=true:=by simpa using h1
   have d2:decide (x≤b)=false:=by simpa using h2
   go_enter Tryz.func44,Tryz.ntmps44
   go_wp2
   go_ret
   exact ⟨by simp,rfl⟩
 ·have d1:decide (a≤x)=false:=by simpa using h1
  go_enter Tryz.func44,Tryz.ntmps44
  go_wp2
  go_ret
  exact ⟨by simp,rfl⟩
theorem take_snocF {α:Type} (fs:List α) (k:Nat) (f:α) (h:fs[k]?=some f):fs.take (k+1)=fs.take k ++ [f]:=by
 obtain ⟨hk,rfl⟩:=List.getElem?_eq_some_iff.1 h
 rw [List.take_succ_eq_append_getElem hk]
theorem own_mono {w:World} {B B' e s n:Nat} {v:Value} {xs:List Value} (h:w.ownsRow B e s v n xs) (hB:B'≤B):w.ownsRow B' e s v n xs :=
 ⟨h.1,h.2.imp id (fun ⟨g,cap,cur,a,b,rest⟩=>⟨g,cap,cur,a,Nat.le_trans hB b,rest⟩)⟩
theorem grownSet (w:World) (G j:Nat) (u:Value):w.grownBy (w.setCell ⟨G,j,none⟩ u) (some G) :=
 ⟨rfl,rfl,rfl,by simp [World.setCell],fun k _ hk=>heap_setCell_other w ⟨G,j,none⟩ k u (fun e=>hk (by simp [e]))⟩
theorem own_setOther {w:World} {B e s g n cap:Nat} {xs:List Value} (h:w.ownsRow B e s (.slice (some ⟨g,0,none⟩) n cap) n xs) (G j:Nat) (u:Value) (hG:g≠G) :
  (w.setCell ⟨G,j,none⟩ u).ownsRow B e s (.slice (some ⟨g,0,none⟩) n cap) n xs :=
 World.ownsRow.kept h (grownSet w G j u) (.inr (by simp [Value.ownBlock];exact fun e=>hG e))
theorem bcell {W w1:World} (hb:Below W.heap.size W w1):(∀ b o,b<W.heap.size→w1.cell? ⟨b,o,none⟩=W.cell? ⟨b,o,none⟩)∧(∀ b o,b<W.heap.size→w1.frozen? ⟨b,o,none⟩=W.frozen? ⟨b,o,none⟩) :=
 ⟨fun b o h=>hb.cell (p:=⟨b,o,none⟩) h,fun b o h=>hb.frozen (p:=⟨b,o,none⟩) h⟩
theorem grown_of_below {w w':World} (h:Below w.heap.size w w') (row:Option Nat):w.grownBy w' row :=
 ⟨h.os,h.tape,h.output,h.size,fun k hk _=>h.block k hk⟩
theorem grown_trans {a b c:World} {row:Option Nat} (h:a.grownBy b row) (k:b.grownBy c row):a.grownBy c row :=
 ⟨k.os.trans h.os,k.tape.trans h.tape,k.output.trans h.output,Nat.le_trans h.size k.size,fun i hi hr=>(k.block i (Nat.lt_of_lt_of_le hi h.size) hr).trans (h.block i hi hr)⟩
theorem own_form {w:World} {B e s n:Nat} {v:Value} {xs:List Value} (h:w.ownsRow B e s v n xs):∃ a c,v=.slice a n c:=by
 rcases h.2 with ⟨hv,h0⟩ | ⟨g,cap,cur,hv,_⟩
 ·subst h0;exact ⟨none,0,hv⟩
 ·exact ⟨_,cap,hv⟩
def Good (w u:World):Prop:=Below w.heap.size w u
theorem Good.refl (w:World):Good w w:=Below.refl _ _
theorem Good.size {w u:World} (h:Good w u):w.heap.size≤u.heap.size:=Below.size h
theorem Good.up {w u v:World} (h:Good w u) (hb:Below u.heap.size u v):Good w v:=Below.trans h (hb.mono h.size)
theorem Good.alloc {w u:World} (h:Good w u) (o:Obj):Good w (u.alloc o):=h.up ((Below.refl _ _).alloc (Nat.le_refl _) _)
theorem Good.drew {w u:World} (h:Good w u):Good w u.drew:=Below.drew h
structure Rng (lo hi:Nat) (u v:World):Prop where
 os:v.os=u.os
 tape:v.tape=u.tape
 output:v.output=u.output
 size:u.heap.size≤v.heap.size
 block:∀ k,k<u.heap.size→(k<lo∨hi≤k)→v.heap[k]?=u.heap[k]?
theorem Rng.of_below {u v:World} {lo hi:Nat} (h:Below u.heap.size u v):Rng lo hi u v:=⟨h.os,h.tape,h.output,h.size,fun k hk _=>h.block k hk⟩
theorem own_up {w w':World} {B e s n:Nat} {v:Value} {xs:List Value} (h:w.ownsRow B e s v n xs) (hb:Below w.heap.size w w'):w'.ownsRow B e s v n xs :=
 World.ownsRow.kept h (grown_of_below hb none) (by cases hv:v.ownBlock <;> simp)
def Is (w:World) (B:Nat) (a:Option Addr) (n:Nat) (ls:List Int):Prop :=
 ls.length=n∧(n=0∨∃ b off,a=some ⟨b,off,none⟩∧b<B∧∀ (j:Nat) (x:Int),ls[j]?=some x→w.cell? ⟨b,off+j,none⟩=some (.int .i64 x))
theorem Is.below {w w':World} {B C:Nat} {a:Option Addr} {n:Nat} {ls:List Int} (h:Is w B a n ls) (hb:Below C w w') (hB:B≤C):Is w' B a n ls:=by
 refine ⟨h.1,h.2.imp id ?_⟩
 rintro ⟨b,off,h1,h2,h3⟩
 exact ⟨b,off,h1,h2,fun j x hx=>by rw [hb.cell (p:=⟨b,_,none⟩) (by show b<_;omega)];exact h3 j x hx⟩
theorem Is.mono {w:World} {B C:Nat} {a:Option Addr} {n:Nat} {ls:List Int} (h:Is w B a n ls) (hB:B≤C):Is w C a n ls:=by
 refine ⟨h.1,h.2.imp id ?_⟩
 rintro ⟨b,off,h1,h2,h3⟩
 exact ⟨b,off,h1,by omega,h3⟩
theorem Is.up {w w':World} {a:Option Addr} {n:Nat} {ls:List Int} (h:Is w w.heap.size a n ls) (hb:Below w.heap.size w w'):Is w' w'.heap.size a n ls :=
 (h.below hb (Nat.le_refl _)).mono hb.size
def ic (ls:List Int):List Value:=ls.map fun x=>Value.int .i64 x
theorem ic_len (ls:List Int):(ic ls).length=ls.length:=by simp [ic]
theorem ic_snoc (ls:List Int) (x:Int):ic (ls ++ [x])=ic ls ++ [.int .i64 x]:=by simp [ic]
theorem ic_at {ls:List Int} {j:Nat} {x:Int} (h:ls[j]?=some x):(ic ls)[j]?=some (.int .i64 x):=by rw [ic,List.getElem?_map,h];rfl
theorem Is_of_own {w:World} {B n c:Nat} {a:Option Addr} {ls:List Int} (h:w.ownsRow B 3 1 (.slice a n c) n (ic ls)):Is w w.heap.size a n ls:=by
 have hl:=h.1
 rw [ic_len] at hl
 refine ⟨by omega,?_⟩
 rcases h.2 with ⟨hv,h0⟩ | ⟨g,cap,cur,hv,hrest⟩
 ·exact .inl h0
 ·simp at hv
  obtain ⟨rfl,rfl⟩:=hv
  refine .inr ⟨g,0,rfl,(h.lt g rfl).2,fun j x hx=>?_⟩
  have hj:j<ls.length:=(List.getElem?_eq_some_iff.1 hx).1
  rw [Nat.zero_add,h.cellAt j (by omega)]
  exact ic_at hx
theorem info3i:(Tryz.prog.info? 3).map (fun i=>(i.zero,i.size,i.bytes))=some (some (.int .i64 0),1,8):=by kernel_rfl
structure RBox (u:World) (lo hi:Nat) (a:Option Addr) (m c:Nat) (ls:List Int):Prop where
 own:u.ownsRow lo 3 1 (.slice a m c) m (ic ls)
 row:∀ g,(Value.slice a m c).ownBlock=some g→g<hi
 there:hi≤u.heap.size
theorem RBox.rng {u v:World} {lo hi l2 h2:Nat} {a:Option Addr} {m c:Nat} {ls:List Int} (h:RBox u lo hi a m c ls) (hr:Rng l2 h2 u v) (ho:hi≤l2∨h2≤lo):RBox v lo hi a m c ls:=by
 have hth:=h.there
 refine ⟨⟨h.own.1,?_⟩,h.row,Nat.le_trans hth hr.size⟩
 rcases h.own.2 with h3 | ⟨g,cap,cur,hv,hg,hcur,hrest⟩
 ·exact .inl h3
 ·have hgh:=h.row g (by rw [hv];rfl)
  refine .inr ⟨g,cap,cur,hv,hg,?_,hrest⟩
  rw [hr.block g (by omega) (by omega)]
  exact hcur
theorem RBox.is {u:World} {lo hi:Nat} {a:Option Addr} {m c:Nat} {ls:List Int} (h:RBox u lo hi a m c ls):Is u u.heap.size a m ls:=Is_of_own h.own
theorem newsI (w:World) (x:Int):∀ j u,([Value.int .i64 x]:List Value)[j]?=some u→(w.alloc (.cells #[.int .i64 x] 3)).cell? ((⟨w.heap.size,0,none⟩:Addr).add j)=some u:=by
 intro j u hj
 rcases j with _ | j
 ·simp at hj;subst hj;simp [Addr.add]
 ·simp at hj
end Go.Proofs.YtnagchanokbgdaaGreat
namespace Go.Proofs.YtnagchanokbgdaaGreat
end Go.Proofs.YtnagchanokbgdaaGreat
namespace Go.Proofs.YtnagchanokbgdaaGreat
open Go.RowKit
def firstN (p:Nat→Bool) (n:Nat):Int:=match (List.range n).find? p with | some k=>(k:Int) | none=>-1
theorem firstN_yes {p:Nat→Bool} {n k:Nat} (hk:k<n) (h:p k=true) (hn:∀ j,j<k→p j=false):firstN p n=(k:Int):=by
 have:(List.range n).find? p=some k:=by
  rw [List.find?_range_eq_some]
  exact ⟨h,by simpa using hk,fun j hj=>by simp [hn j hj]⟩
 unfold firstN
 rw [this]
theorem firstN_no {p:Nat→Bool} {n:Nat} (hn:∀ j,j<n→p j=false):firstN p n = -1:=by
 have:(List.range n).find? p=none:=by
  rw [List.find?_range_eq_none]
  exact fun j hj=>by simp [hn j hj]
 unfold firstN
 rw [this]
theorem firstN_cases (p:Nat→Bool) (n:Nat):(∃ k,k<n∧p k=true∧(∀ j,j<k→p j=false)∧firstN p n=(k:Int))∨((∀ j,j<n→p j=false)∧firstN p n = -1):=by
 cases h:(List.range n).find? p with
 | none =>
  rw [List.find?_range_eq_none] at h
  exact .inr ⟨fun j hj=>by simpa using h j hj,by unfold firstN;rw [show (List.range n).find? p=none by rw [List.find?_range_eq_none];exact h]⟩
 | some k =>
  have h':=h
  rw [List.find?_range_eq_some] at h
  exact .inl ⟨k,by simpa using h.2.1,h.1,fun j hj=>by simpa using h.2.2 j hj,by unfold firstN;rw [h']⟩
theorem all_step {p:Nat→Bool} {k:Nat} (h:∀ j,j<k→p j=false) (hp:p k=false):∀ j,j<k+1→p j=false:=fun j hj=>by
 by_cases h7:j=k
 ·rw [h7];exact hp
 ·exact h j (by omega)
theorem retI {x y:Int} (h:y=x):Ending.returned (.int .i64 x)=Ending.returned (.int .i64 y):=by rw [h]
end Go.Proofs.YtnagchanokbgdaaGreat
namespace Go.Proofs.YtnagchanokbgdaaGreat
open Go.RowKit
end Go.Proofs.YtnagchanokbgdaaGreat
namespace Go.Proofs.YtnagchanokbgdaaGreat
open Go.RowKit
end Go.Proofs.YtnagchanokbgdaaGreat
namespace Go.Proofs.YtnagchanokbgdaaGreat
open Go.Lib
end Go.Proofs.YtnagchanokbgdaaGreat
