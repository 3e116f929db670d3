/- Edges: when one is right; which comes first. Edges in a list, and what the laws' own functions over graphs answer. A graph and an edge that come in, as the walks want them. What the laws over graphs share. What the laws' own marks and looks on edges answer: markEdgeS, heldEdgeS, markGraph, heldGraph. The specification's GraphOk and HasEdge. -/
import Derived.Test.YtnagchanokbgdaaGreatProg
import GoSem.Claim
import GoSem.ClaimJoined
import GoSem.ClaimMapViews
import Derived.JoinedTies
import Derived.KernelRfl
import Derived.WalkKit
import Derived.WalkSpells
import Derived.WalkSmall
import Derived.OwnWalk
import Derived.BigQuiet
import Derived.Deep.QuietTactic
import Derived.Deep.MidRow
import Derived.Deep.RegionHeld3
import Derived.ProofKit
import Derived.OpenShut
import Derived.ChangeOld
import Derived.ChangeArms
import Derived.Below
namespace Go.Proofs.YtnagchanokbgdaaGreat.O
open Go.RowKit
theorem hideIt {p:Prop} (h:p):Hid p:=h
theorem skipOp {P:Program} {ops:Array Oper} {Q:Exit→Go.Act→World→Prop} {md:Region.Mode} {i:Nat} {oi:Oper} {fuel:Nat} {listed:Array Bool} {a:Go.Act} {w:World} (hi:ops[i]?=some oi)
  (hs:Region.noSelect ops=true) (hf:Region.free md ops listed i=true) (hr:(Region.ready md ops listed).contains i=true) (hQ:∀ c a w,Q (.panic c) (a.put oi.dst undef) w→Q (.panic c) a w)
  (hw:Region.wanted oi (yielded ops a.tmps)=false) (h:wpAny P md ops Q fuel (listed.setIfInBounds i true) (a.put oi.dst undef) w):wpAny P md ops Q (fuel+1) listed a w :=
 wpAny_take hi hs hf hr hQ (.inr ⟨hw,rfl⟩) h
theorem takeOp {P:Program} {ops:Array Oper} {Q:Exit→Go.Act→World→Prop} {md:Region.Mode} {i:Nat} {oi:Oper} {v:Value} {fuel:Nat} {listed:Array Bool} {a:Go.Act} {w:World} (hi:ops[i]?=some oi)
  (hs:Region.noSelect ops=true) (hf:Region.free md ops listed i=true) (hr:(Region.ready md ops listed).contains i=true) (hQ:∀ c a w,Q (.panic c) (a.put oi.dst v) w→Q (.panic c) a w)
  (hw:Region.wanted oi (yielded ops a.tmps)=true) (hv:∀ w,(execOp a.eval oi).run P w=.ok (.value v) w) (h:wpAny P md ops Q fuel (listed.setIfInBounds i true) (a.put oi.dst v) w):wpAny P md ops Q (fuel+1) listed a w :=
 wpAny_take hi hs hf hr hQ (.inl ⟨hw,hv⟩) h
abbrev EdgeV:=Int × Int
theorem bret {p q:Prop} [Decidable p] [Decidable q] (h:p↔q):Ending.returned (.bool (decide p))=Ending.returned (.bool (decide q)):=by rw [decide_eq_decide.2 h]
def eB (n:Int) (e:EdgeV):Bool:=decide (1≤n∧n≤12∧0≤e.1∧e.1<e.2∧e.2<n)
theorem l01In_any (x a b:Int) (w:World):Calls Tryz.prog 44 #[.int .i64 x,.int .i64 a,.int .i64 b] w fun e w'=>e=.returned (.bool (decide (a≤x∧x≤b)))∧w'=w:=by
 by_cases h1:a≤x
 ·by_cases h2:x≤b
  ·have d1:decide (a≤x)=true:=by simpa using h1
   have d2:decide (x≤b)=true:=by simpa using h2
   go_enter Tryz.func44,Tryz.ntmps44
   go_wp2
   go_ret
   exact ⟨by simp [h1,h2],rfl⟩
  ·have d1:decide (a≤x)=true:=by simpa using h1
   have d2:decide (x≤b)=false:=by simpa using h2
   go_enter Tryz.func44,Tryz.ntmps44
   go_wp2
   go_ret
   exact ⟨by simp,rfl⟩
 ·have d1:decide (a≤x)=false:=by simpa using h1
  go_enter Tryz.func44,Tryz.ntmps44
  go_wp2
  go_ret
  exact ⟨by simp,rfl⟩
theorem vertsOk_any (x:Int) (w:World):Calls Tryz.prog 60 #[.int .i64 x] w fun e w'=>e=.returned (.bool (decide (1≤x∧x≤12)))∧w'=w:=by
 by_cases h1:1≤x
 ·by_cases h2:x≤12
  ·have d1:decide (1≤x)=true:=by simpa using h1
   have d2:decide (x≤12)=true:=by simpa using h2
   go_enter Tryz.func60,Tryz.ntmps60
   go_wp2
   go_ret
   exact ⟨by simp [h1,h2],rfl⟩
  ·have d1:decide (1≤x)=true:=by simpa using h1
   have d2:decide (x≤12)=false:=by simpa using h2
   go_enter Tryz.func60,Tryz.ntmps60
   go_wp2
   go_ret
   exact ⟨by simp,rfl⟩
 ·have d1:decide (1≤x)=false:=by simpa using h1
  go_enter Tryz.func60,Tryz.ntmps60
  go_wp2
  go_ret
  exact ⟨by simp,rfl⟩
theorem sEdgeOk_any (n:Int) (e:EdgeV) (w:World) :
  Calls Tryz.prog 76 #[.int .i64 n,.agg #[.int .i64 e.1,.int .i64 e.2]] w fun x w'=>x=.returned (.bool (eB n e))∧Below w.heap.size w w':=by
 obtain ⟨a,b⟩:=e
 dsimp only
 have HI:=hideIt l01In_any
 by_cases h1:1≤n∧n≤12
 ·have r1:decide (1≤n∧n≤12)=true:=by simpa using h1
  by_cases h2:0≤a∧a≤n - 1
  ·have r2:decide (0≤a∧a≤n - 1)=true:=by simpa using h2
   by_cases h3:0≤b∧b≤n - 1
   ·have r3:decide (0≤b∧b≤n - 1)=true:=by simpa using h3
    go_enter Tryz.func76,Tryz.ntmps76
    go_wp2_with (go_at_call 44;refine (HI.out _ _ _ _).mono ?_;rintro e w1 ⟨rfl,rfl⟩)
    go_ret
    exact ⟨bret (by dsimp only;omega),(Below.refl _ _).alloc (Nat.le_refl _) _⟩
   ·have r3:decide (0≤b∧b≤n - 1)=false:=by simpa using h3
    go_enter Tryz.func76,Tryz.ntmps76
    go_wp2_with (go_at_call 44;refine (HI.out _ _ _ _).mono ?_;rintro e w1 ⟨rfl,rfl⟩)
    go_ret
    exact ⟨by simp [eB];omega,(Below.refl _ _).alloc (Nat.le_refl _) _⟩
  ·have r2:decide (0≤a∧a≤n - 1)=false:=by simpa using h2
   go_enter Tryz.func76,Tryz.ntmps76
   go_wp2_with (go_at_call 44;refine (HI.out _ _ _ _).mono ?_;rintro e w1 ⟨rfl,rfl⟩)
   go_ret
   exact ⟨by simp [eB];omega,(Below.refl _ _).alloc (Nat.le_refl _) _⟩
 ·have r1:decide (1≤n∧n≤12)=false:=by simpa using h1
  go_enter Tryz.func76,Tryz.ntmps76
  go_wp2_with (go_at_call 44;refine (HI.out _ _ _ _).mono ?_;rintro e w1 ⟨rfl,rfl⟩)
  go_ret
  exact ⟨by simp [eB];omega,(Below.refl _ _).alloc (Nat.le_refl _) _⟩
theorem iEdgeOk_any (n:Int) (e:EdgeV) (w:World) :
  Calls Tryz.prog 121 #[.int .i64 n,.agg #[.int .i64 e.1,.int .i64 e.2]] w fun x w'=>x=.returned (.bool (eB n e))∧Below w.heap.size w w':=by
 obtain ⟨a,b⟩:=e
 dsimp only
 have HI:=hideIt vertsOk_any
 by_cases h1:1≤n∧n≤12
 ·have r1:decide (1≤n∧n≤12)=true:=by simpa using h1
  by_cases h2:0≤a
  ·have r2:decide (0≤a)=true:=by simpa using h2
   by_cases h3:a<b
   ·have r3:decide (a<b)=true:=by simpa using h3
    go_enter Tryz.func121,Tryz.ntmps121
    go_wp2_with (go_at_call 60;refine (HI.out _ _).mono ?_;rintro e w1 ⟨rfl,rfl⟩)
    go_ret
    exact ⟨bret (by dsimp only;omega),(Below.refl _ _).alloc (Nat.le_refl _) _⟩
   ·have r3:decide (a<b)=false:=by simpa using h3
    go_enter Tryz.func121,Tryz.ntmps121
    go_wp2_with (go_at_call 60;refine (HI.out _ _).mono ?_;rintro e w1 ⟨rfl,rfl⟩)
    go_ret
    exact ⟨by simp [eB];omega,(Below.refl _ _).alloc (Nat.le_refl _) _⟩
  ·have r2:decide (0≤a)=false:=by simpa using h2
   go_enter Tryz.func121,Tryz.ntmps121
   go_wp2_with (go_at_call 60;refine (HI.out _ _).mono ?_;rintro e w1 ⟨rfl,rfl⟩)
   go_ret
   exact ⟨by simp [eB];omega,(Below.refl _ _).alloc (Nat.le_refl _) _⟩
 ·have r1:decide (1≤n∧n≤12)=false:=by simpa using h1
  go_enter Tryz.func121,Tryz.ntmps121
  go_wp2_with (go_at_call 60;refine (HI.out _ _).mono ?_;rintro e w1 ⟨rfl,rfl⟩)
  go_ret
  exact ⟨by simp [eB];omega,(Below.refl _ _).alloc (Nat.le_refl _) _⟩
def Es (w:World) (B:Nat) (a:Option Addr) (n:Nat) (es:List EdgeV):Prop :=
 es.length=n∧(n=0∨∃ b off,a=some ⟨b,off,none⟩∧b<B∧∀ (j:Nat) (f:EdgeV),es[j]?=some f →
  w.cell? ⟨b,off+j*2,none⟩=some (.int .i64 f.1)∧w.cell? ⟨b,off+j*2+1,none⟩=some (.int .i64 f.2))
theorem take_snocF {α:Type} (fs:List α) (k:Nat) (f:α) (h:fs[k]?=some f):fs.take (k+1)=fs.take k ++ [f]:=by
 obtain ⟨hk,rfl⟩:=List.getElem?_eq_some_iff.1 h
 rw [List.take_succ_eq_append_getElem hk]
theorem Es.alloc {w:World} {B:Nat} {a:Option Addr} {n:Nat} {fs:List EdgeV} (h:Es w B a n fs) (hB:B≤w.heap.size) (o:Obj):Es (w.alloc o) B a n fs:=by
 refine ⟨h.1,h.2.imp id ?_⟩
 rintro ⟨b,off,ha,hb,hc⟩
 refine ⟨b,off,ha,hb,fun j f hf=>?_⟩
 have hbl:b<w.heap.size:=by omega
 obtain ⟨c0,c1⟩:=hc j f hf
 exact ⟨by rw [World.cell?_of_block (w:=w) (Below.heap_alloc w o b hbl)];exact c0,by rw [World.cell?_of_block (w:=w) (Below.heap_alloc w o b hbl)];exact c1⟩
theorem Es.below {w w':World} {B C:Nat} {a:Option Addr} {n:Nat} {fs:List EdgeV} (h:Es w B a n fs) (hb:Below C w w') (hB:B≤C):Es w' B a n fs:=by
 refine ⟨h.1,h.2.imp id ?_⟩
 rintro ⟨b,off,ha,hbl,hc⟩
 refine ⟨b,off,ha,hbl,fun j f hf=>?_⟩
 obtain ⟨c0,c1⟩:=hc j f hf
 have hl:b<C:=by omega
 exact ⟨by rw [hb.cell (p:=⟨b,_,none⟩) hl];exact c0,by rw [hb.cell (p:=⟨b,_,none⟩) hl];exact c1⟩
theorem Es.mono {w:World} {B C:Nat} {a:Option Addr} {n:Nat} {fs:List EdgeV} (h:Es w B a n fs) (hB:B≤C):Es w C a n fs:=by
 refine ⟨h.1,h.2.imp id ?_⟩
 rintro ⟨b,off,ha,hbl,hc⟩
 exact ⟨b,off,ha,by omega,hc⟩
theorem Es.up {w w':World} {a:Option Addr} {n:Nat} {fs:List EdgeV} (h:Es w w.heap.size a n fs) (hb:Below w.heap.size w w'):Es w' w'.heap.size a n fs :=
 (h.below hb (Nat.le_refl _)).mono hb.size
theorem toEdge_any (f:EdgeV) (w:World) :
  Calls Tryz.prog 99 #[.agg #[.int .i64 f.1,.int .i64 f.2]] w fun e w'=>e=.returned (.agg #[.int .i64 f.1,.int .i64 f.2])∧Below w.heap.size w w':=by
 go_enter Tryz.func99,Tryz.ntmps99
 go_wp2
 exact bodyPost_ret (v:=.agg #[.int .i64 f.1,.int .i64 f.2]) (by simp [results,Tryz.results99,go_sem]) rfl ⟨rfl,(((Below.refl _ _).alloc (Nat.le_refl _) _).alloc (by simp) _).alloc (by simp;omega) _⟩
def ecell (f:EdgeV):List Value:=[.int .i64 f.1,.int .i64 f.2]
def ecells (fs:List EdgeV):List Value:=fs.flatMap ecell
theorem ecells_length (fs:List EdgeV):(ecells fs).length=fs.length*2:=by
 induction fs with
 | nil=>rfl
 | cons f fs ih=>simp only [ecells,List.flatMap_cons,List.length_append,List.length_cons] at ih ⊢;rw [ih];simp [ecell];omega
theorem ecells_at (fs:List EdgeV) (j:Nat) (f:EdgeV) (h:fs[j]?=some f) :
  (ecells fs)[j*2]?=some (.int .i64 f.1)∧(ecells fs)[j*2+1]?=some (.int .i64 f.2):=by
 induction fs generalizing j with
 | nil=>simp at h
 | cons g fs ih =>
  cases j with
  | zero=>simp at h;subst h;simp [ecells,ecell]
  | succ j =>
   have h2:=ih j (by simpa using h)
   have e:∀ m,(ecells (g :: fs))[m+2]?=(ecells fs)[m]?:=fun m=>by simp [ecells,ecell]
   refine ⟨?_,?_⟩
   ·rw [show (j+1)*2=j*2+2 by omega,e];exact h2.1
   ·rw [show (j+1)*2+1=j*2+1+2 by omega,e];exact h2.2
theorem take_set2 {α:Type} (xs:List α) (m:Nat) (a b:α) (h:m+2≤xs.length):((xs.set m a).set (m+1) b).take (m+2)=xs.take m ++ [a,b]:=by
 apply List.ext_getElem?
 intro i
 have hl:(xs.take m).length=m:=by simp;omega
 by_cases h1:i<m
 ·rw [List.getElem?_append_left (by omega),List.getElem?_take_of_lt h1,List.getElem?_take_of_lt (by omega),List.getElem?_set_ne (by omega),List.getElem?_set_ne (by omega)]
 ·rw [List.getElem?_append_right (by omega),hl]
  by_cases h2:i<m+2
  ·rw [List.getElem?_take_of_lt h2]
   rcases (show i=m∨i=m+1 by omega) with rfl | rfl
   ·rw [List.getElem?_set_ne (by omega),List.getElem?_set_self (by omega)];simp
   ·rw [List.getElem?_set_self (by simp;omega)];simp
  ·rw [List.getElem?_eq_none (by simp;omega),List.getElem?_eq_none (by simp;omega)]
theorem ecells_snoc (fs:List EdgeV) (f:EdgeV):ecells (fs ++ [f])=ecells fs ++ [.int .i64 f.1,.int .i64 f.2]:=by simp [ecells,ecell]
theorem ecells_append (fs gs:List EdgeV):ecells (fs ++ gs)=ecells fs ++ ecells gs:=by simp [ecells]
theorem infoIE:(Tryz.prog.info? 107).map (fun i=>(i.zero,i.size,i.bytes))=some (some (.agg #[.int .i64 0,.int .i64 0]),2,16):=by kernel_rfl
set_option maxHeartbeats 1000000 in
theorem toEdgeS_any (fs:List EdgeV) (n:Nat) (a:Option Addr) (cap:Nat) (hn:n≤1048576) (w:World) (hfs:Es w w.heap.size a n fs) :
  Calls Tryz.prog 82 #[.slice a n cap] w fun e w'=>∃ g,e=.returned (.slice (some ⟨g,0,none⟩) n n)∧w'.ownsRow w.heap.size 107 2 (.slice (some ⟨g,0,none⟩) n n) n (ecells fs)∧Below w.heap.size w w':=by
 obtain ⟨i0,hi,hz0,hz1,hz2⟩:=info_parts infoIE
 obtain ⟨hlen,hrow⟩:=hfs
 have hmk:∀ u:World,(Instr.makeSlice 25 (.int .i64 (n:Int)) (.int .i64 (n:Int))).run Tryz.prog u =
   .ok (.slice (some ⟨u.heap.size,0,none⟩) n n) (u.alloc (.cells (madeCells #[.int .i64 0,.int .i64 0] (n*2)) 107)):=fun u=>by
  have h:=run_make (P:=Tryz.prog) u 25 107 i0 _ Tryz.underlying25 hi hz0 .i64 .i64 (n:Int) (n:Int) (by omega) (by omega) (by rw [hz2];omega) (by omega)
  rw [Int.toNat_natCast] at h
  simpa [hz1,Value.cells] using h
 have HR:=hideIt hrow
 clear hrow
 go_enter Tryz.func82,Tryz.ntmps82
 go_wp2
 go_loopw [4] (fun i wr=>∃ (k:Nat) (xs:List Value),k≤n∧i=.int .i64 (k:Int)∧Hid (xs.take (k*2)=ecells (fs.take k))∧wr.ownsRow w.heap.size 107 2 (.slice (some ⟨w.heap.size,0,none⟩) n n) n xs∧Below w.heap.size w wr)
  (fun i _=>n - (intOf i).toNat)
 case atStart=>exact ⟨0,_,by omega,rfl,by show _=_;simp [ecells],World.ownsRow_lit (base:=w.heap.size) (e:=107) (size:=2) w (madeCells #[.int .i64 0,.int .i64 0] (n*2)) n (Nat.le_refl _) (by unfold maxLen;omega) (by simp [madeCells]),(Below.refl _ _).alloc (Nat.le_refl _) _⟩
 case round =>
  obtain ⟨k,xs,hk,rfl,hx,hown,hb⟩:=hrel
  by_cases hlt:k<n
  ·rcases HR.out with hz | ⟨b,off,rfl,hbl,hc⟩
   ·omega
   ·obtain ⟨f,hf⟩:∃ f,fs[k]?=some f:=⟨fs[k]'(by omega),List.getElem?_eq_getElem (by omega)⟩
    obtain ⟨c0,c1⟩:=hc k f hf
    have e0:wr.cell? ⟨b,off+k*2,none⟩=some (.int .i64 f.1):=by rw [hb.cell hbl];exact c0
    have e1:wr.cell? ⟨b,off+k*2+1,none⟩=some (.int .i64 f.2):=by rw [hb.cell hbl];exact c1
    have b1:(0:Int)≤(k:Int):=by omega
    have b2:(k:Int)<(n:Int):=by omega
    have HT:=hideIt (toEdge_any f wr)
    have HTk:=hideIt (take_snocF fs k f hf)
    clear c0 c1 hc hf
    go_wp2_with (go_at_call 99;refine HT.out.mono ?_;rintro e w1 ⟨rfl,hb1⟩;refine Hid.out ?_)
    refine (show ∀ {p:Prop},p→Hid p from fun h=>h) ?_
    have hg1:wr.grownBy w1 none:=⟨hb1.os,hb1.tape,hb1.output,hb1.size,fun i hi _=>hb1.block i hi⟩
    have hown1:=World.ownsRow.kept hown hg1 (.inr (by simp [Value.ownBlock]))
    have hl3:xs.length=n*2:=hown1.1
    have f0:=hown1.frozenAt (k*2)
    have f1:=hown1.frozenAt (k*2+1)
    have x0:w1.cell? ⟨w.heap.size,k*2,none⟩=some (xs[k*2]'(by omega)):=by rw [hown1.cellAt (k*2) (by omega)];exact List.getElem?_eq_getElem (by omega)
    have x1:w1.cell? ⟨w.heap.size,k*2+1,none⟩=some (xs[k*2+1]'(by omega)):=by rw [hown1.cellAt (k*2+1) (by omega)];exact List.getElem?_eq_getElem (by omega)
    clear e0 e1 HT
    go_wp2
    refine ⟨⟨k+1,(xs.set (k*2) (.int .i64 f.1)).set (k*2+1) (.int .i64 f.2),by omega,by go_num,?_,?_,?_⟩,by simp [intOf];omega⟩
    ·show _=_
     rw [show (k+1)*2=k*2+2 by omega,take_set2 _ _ _ _ (by omega),hx.out,HTk.out,ecells_snoc]
    ·exact ((hown1.stored (k*2) _).1.stored (k*2+1) _).1
    ·exact ((hb.trans (hb1.mono hb.size)).setCell (Nat.le_refl _) _).setCell (Nat.le_refl _) _
  ·have e:fs.take k=fs:=List.take_of_length_le (by omega)
   have hl3:xs.length=n*2:=hown.1
   have HX:Hid (xs=ecells fs):=by
    show _=_
    have:=hx.out
    rw [e,List.take_of_length_le (by omega)] at this
    exact this
   have HO:=hideIt hown
   clear hx e hown hl3
   go_wp2
   go_ret
   exact ⟨w.heap.size,rfl,by rw [← HX.out];exact HO.out,hb⟩
theorem bcell {W w1:World} (hb:Below W.heap.size W w1):(∀ b o,b<W.heap.size→w1.cell? ⟨b,o,none⟩=W.cell? ⟨b,o,none⟩)∧(∀ b o,b<W.heap.size→w1.frozen? ⟨b,o,none⟩=W.frozen? ⟨b,o,none⟩) :=
 ⟨fun b o h=>hb.cell (p:=⟨b,o,none⟩) h,fun b o h=>hb.frozen (p:=⟨b,o,none⟩) h⟩
theorem Es_of_own {w:World} {B n c:Nat} {a:Option Addr} {fs:List EdgeV} (h:w.ownsRow B 107 2 (.slice a n c) n (ecells fs)):Es w w.heap.size a n fs:=by
 have hl:=h.1
 rw [ecells_length] at hl
 refine ⟨by omega,?_⟩
 rcases h.2 with ⟨hv,h0⟩ | ⟨g,cap,cur,hv,hrest⟩
 ·exact .inl h0
 ·simp at hv
  obtain ⟨rfl,rfl⟩:=hv
  by_cases h0:n=0
  ·exact .inl h0
  ·refine .inr ⟨g,0,rfl,(h.lt g rfl).2,fun j f hf=>?_⟩
   have hj:j<fs.length:=(List.getElem?_eq_some_iff.1 hf).1
   obtain ⟨c0,c1⟩:=ecells_at fs j f hf
   rw [Nat.zero_add]
   exact ⟨by rw [h.cellAt (j*2) (by omega)];exact c0,by rw [h.cellAt (j*2+1) (by omega)];exact c1⟩
theorem grownSet (w:World) (G j:Nat) (u:Value):w.grownBy (w.setCell ⟨G,j,none⟩ u) (some G) :=
 ⟨rfl,rfl,rfl,by simp [World.setCell],fun k _ hk=>heap_setCell_other w ⟨G,j,none⟩ k u (fun e=>hk (by simp [e]))⟩
theorem own_setOther {w:World} {B e s g n cap:Nat} {xs:List Value} (h:w.ownsRow B e s (.slice (some ⟨g,0,none⟩) n cap) n xs) (G j:Nat) (u:Value) (hG:g≠G) :
  (w.setCell ⟨G,j,none⟩ u).ownsRow B e s (.slice (some ⟨g,0,none⟩) n cap) n xs :=
 World.ownsRow.kept h (grownSet w G j u) (.inr (by simp [Value.ownBlock];exact fun e=>hG e))
theorem own_mono {w:World} {B B' e s n:Nat} {v:Value} {xs:List Value} (h:w.ownsRow B e s v n xs) (hB:B'≤B):w.ownsRow B' e s v n xs :=
 ⟨h.1,h.2.imp id (fun ⟨g,cap,cur,a,b,rest⟩=>⟨g,cap,cur,a,Nat.le_trans hB b,rest⟩)⟩
theorem eqEdge_yes (f:EdgeV) (w:World) :
  Calls Tryz.prog 65 #[.agg #[.int .i64 f.1,.int .i64 f.2],.agg #[.int .i64 f.1,.int .i64 f.2]] w fun e w'=>e=.returned (.bool true)∧Below w.heap.size w w':=by
 go_enter Tryz.func65,Tryz.ntmps65
 go_wp2
 go_ret
 exact ⟨rfl,((Below.refl _ _).alloc (Nat.le_refl _) _).alloc (by simp) _⟩
set_option maxRecDepth 100000 in
set_option maxHeartbeats 2000000 in
theorem eqEdgeS_same (fs:List EdgeV) (n:Nat) (a a':Option Addr) (c c':Nat) (hn:n≤1048576) (w:World) (h:Es w w.heap.size a n fs) (h':Es w w.heap.size a' n fs) :
  Calls Tryz.prog 29 #[.slice a n c,.slice a' n c'] w fun e w'=>e=.returned (.bool true)∧Below w.heap.size w w':=by
 obtain ⟨hlen,hrow⟩:=h
 obtain ⟨_,hrow'⟩:=h'
 have HR:=hideIt hrow
 have HR':=hideIt hrow'
 clear hrow hrow'
 go_enter Tryz.func29,Tryz.ntmps29
 go_wp2
 go_loopw [5] (fun i wr=>∃ k:Nat,k≤n∧i=.int .i64 (k:Int)∧Below w.heap.size w wr) (fun i _=>n - (intOf i).toNat)
 case atStart=>exact ⟨0,by omega,rfl,Below.refl _ _⟩
 case round =>
  obtain ⟨k,hk,rfl,hb⟩:=hrel
  by_cases hlt:k<n
  ·rcases HR.out with hz | ⟨b,off,rfl,hbl,hc⟩
   ·omega
   ·rcases HR'.out with hz | ⟨b',off',rfl,hbl',hc'⟩
    ·omega
    ·obtain ⟨f,hf⟩:∃ f,fs[k]?=some f:=⟨fs[k]'(by omega),List.getElem?_eq_getElem (by omega)⟩
     obtain ⟨c0,c1⟩:=hc k f hf
     obtain ⟨d0,d1⟩:=hc' k f hf
     have e0:wr.cell? ⟨b,off+k*2,none⟩=some (.int .i64 f.1):=by rw [hb.cell hbl];exact c0
     have e1:wr.cell? ⟨b,off+k*2+1,none⟩=some (.int .i64 f.2):=by rw [hb.cell hbl];exact c1
     have e3:wr.cell? ⟨b',off'+k*2,none⟩=some (.int .i64 f.1):=by rw [hb.cell hbl'];exact d0
     have e4:wr.cell? ⟨b',off'+k*2+1,none⟩=some (.int .i64 f.2):=by rw [hb.cell hbl'];exact d1
     have b1:(0:Int)≤(k:Int):=by omega
     have b2:(k:Int)<(n:Int):=by omega
     have HT:Hid (∀ W:World,Below w.heap.size w W→Calls Tryz.prog 65 #[.agg #[.int .i64 f.1,.int .i64 f.2],.agg #[.int .i64 f.1,.int .i64 f.2]] W fun e w'=>e=.returned (.bool true)∧Below w.heap.size w w'):=fun W hW =>
      (eqEdge_yes f W).mono fun _ _ ⟨he,hb'⟩=>⟨he,hW.trans (hb'.mono hW.size)⟩
     have HK:Hid (∀ W:World,Below w.heap.size w W→(W.cell? ⟨b,off+k*2,none⟩=some (.int .i64 f.1)∧W.cell? ⟨b,off+k*2+1,none⟩=some (.int .i64 f.2)∧W.cell? ⟨b',off'+k*2,none⟩=some (.int .i64 f.1)∧W.cell? ⟨b',off'+k*2+1,none⟩=some (.int .i64 f.2))):=fun W hW =>
      ⟨by rw [hW.cell hbl];exact c0,by rw [hW.cell hbl];exact c1,by rw [hW.cell hbl'];exact d0,by rw [hW.cell hbl'];exact d1⟩
     have hbd:=hb.drew
     clear c0 c1 d0 d1 hc hc' hf
     go_wp2
     go_region_held3 (fun u=>Below w.heap.size w u∧u.cell? ⟨b,off+k*2,none⟩=some (.int .i64 f.1)∧u.cell? ⟨b,off+k*2+1,none⟩=some (.int .i64 f.2)∧u.cell? ⟨b',off'+k*2,none⟩=some (.int .i64 f.1)∧u.cell? ⟨b',off'+k*2+1,none⟩=some (.int .i64 f.2))
      (first | exact ⟨hb3,HK.out _ hb3⟩ | exact ⟨hbd,HK.out _ hbd⟩)
      ((go_at_call 65;refine (HT.out _ hbd).mono ?_;rintro e w1 ⟨rfl,hb3⟩))
     clear hbd
     go_wp2
     go_roundw
     case rel=>exact ⟨k+1,by omega,by go_num,hb3⟩
     case measure=>simp [intOf];omega
  ·go_wp2
   go_ret
   exact ⟨rfl,hb⟩
end Go.Proofs.YtnagchanokbgdaaGreat.O
namespace Go.Proofs.YtnagchanokbgdaaGreat.O
open Go.ChangeShapes Go.WideShapes Go.ChangeAt Go.RowKit
theorem cellsLE:Tryz.prog.cellsOf 137=2:=by kernel_rfl
theorem cells3:Tryz.prog.cellsOf 3=1:=by kernel_rfl
def FitE (f:EdgeV):Prop:=(Lit.int .i64 f.1).wf=true∧(Lit.int .i64 f.2).wf=true
theorem two {α:Type} {l:List α} (h:l.length=2):∃ a b,l=[a,b]:=by
 cases l with
 | nil=>simp at h
 | cons a l =>
  cases l with
  | nil=>simp at h
  | cons b l =>
   cases l with
   | nil=>exact ⟨a,b,rfl⟩
   | cons c l=>simp at h
theorem open_edge1 {H:Type} {enc:TypeId × Value→H} {W:World} {fuel:Nat} {cs:List Value} {y:DataW H × List MemPlace}
  (h:DataW.trod enc Tryz.prog W 0 (fun _=>true) true fuel 137 cs=some y):∃ f:EdgeV,cs=[.int .i64 f.1,.int .i64 f.2]∧FitE f:=by
 obtain ⟨xs,n,_,_,hl,hlen,hf⟩:=DataW.trod_struct Tryz.underlying137 h
 rw [cellsLE] at hl
 obtain ⟨c0,c1,rfl⟩:=two hl
 have h0:DataW.trod enc Tryz.prog W 0 (fun _=>true) true n 3 (([c0,c1].drop 0).take (Tryz.prog.cellsOf 3))=xs[0]?:=hf 0 _ rfl
 have h1:DataW.trod enc Tryz.prog W 0 (fun _=>true) true n 3 (([c0,c1].drop 1).take (Tryz.prog.cellsOf 3))=xs[1]?:=hf 1 _ rfl
 rw [cells3] at h0 h1
 have g:∀ i,i<2→∃ z,xs[i]?=some z:=fun i hi=>⟨xs[i]'(by simp at hlen;omega),List.getElem?_eq_getElem _⟩
 obtain ⟨z0,e0⟩:=g 0 (by omega)
 obtain ⟨z1,e1⟩:=g 1 (by omega)
 rw [e0] at h0
 rw [e1] at h1
 obtain ⟨k0,hk0,_,w0⟩:=DataW.trod_int Tryz.underlying3 h0
 obtain ⟨k1,hk1,_,w1⟩:=DataW.trod_int Tryz.underlying3 h1
 simp at hk0 hk1
 subst hk0 hk1
 exact ⟨⟨k0,k1⟩,rfl,w0,w1⟩
theorem open_edgeS {H:Type} {enc:TypeId × Value→H} {W:World} {a:Option Addr} {len cap fuel:Nat} {x:DataW H × List MemPlace}
  (h:DataW.trod enc Tryz.prog W 0 (fun _=>true) true fuel 51 [.slice a len cap]=some x):len≤maxLen∧∃ fs:List EdgeV,Es W W.heap.size a len fs∧∀ f ∈ fs,FitE f:=by
 rcases DataW.trod_slice Tryz.underlying51 h with ⟨hcs,_⟩ | ⟨ad,l,c,elems,rest,n,_,hcs,_,_,hlc,hm,hel,hei,_,_⟩
 ·simp at hcs
  obtain ⟨rfl,rfl,rfl⟩:=hcs
  exact ⟨by unfold maxLen;omega,[],⟨rfl,.inl rfl⟩,by simp⟩
 ·simp at hcs
  obtain ⟨rfl,rfl,rfl⟩:=hcs
  refine ⟨by omega,?_⟩
  have each:∀ i,i<len→∃ f:EdgeV,(W.cell? ((ad.add (i*2)).add 0)=some (.int .i64 f.1)∧W.cell? ((ad.add (i*2)).add 1)=some (.int .i64 f.2))∧FitE f:=by
   intro i hi
   have h1:=hei i hi
   obtain ⟨y,hy⟩:∃ y,elems[i]?=some y:=⟨elems[i]'(by omega),List.getElem?_eq_getElem _⟩
   rw [hy,Option.bind_eq_some_iff] at h1
   obtain ⟨cs',hc,ht⟩:=h1
   obtain ⟨f,rfl,hfit⟩:=open_edge1 ht
   rw [cellsLE] at hc
   have hcell:=(World.cells?_some hc).2.2
   refine ⟨f,⟨?_,?_⟩,hfit⟩
   ·simpa using hcell 0 (by omega)
   ·simpa using hcell 1 (by omega)
  by_cases h0:len=0
  ·subst h0
   exact ⟨[],⟨rfl,.inl rfl⟩,by simp⟩
  ·obtain ⟨f0,⟨hc0,_⟩,_⟩:=each 0 (by omega)
   obtain ⟨b,off,spot⟩:=ad
   have hspot:spot=none:=by simpa [Addr.add] using World.cell?_spot hc0
   subst hspot
   have hb:b<W.heap.size:=by
    have:=World.block_lt_of_cell? W _ hc0
    simpa [Addr.add] using this
   obtain ⟨F,hF⟩:=Classical.axiomOfChoice (fun i:Fin len=>each i.1 i.2)
   refine ⟨List.ofFn F,⟨by simp,.inr ⟨b,off,rfl,hb,fun j f hf=>?_⟩⟩,fun f hf=>?_⟩
   ·obtain ⟨hj,rfl⟩:=List.getElem?_eq_some_iff.1 hf
    have hj':j<len:=by simpa using hj
    obtain ⟨⟨c0,c1⟩,_⟩:=hF ⟨j,hj'⟩
    rw [add_plain,add_plain] at c0 c1
    simp only [List.getElem_ofFn]
    exact ⟨c0,c1⟩
   ·obtain ⟨i,rfl⟩:=List.mem_ofFn.1 hf
    exact (hF i).2
end Go.Proofs.YtnagchanokbgdaaGreat.O
namespace Go.Proofs.YtnagchanokbgdaaGreat.O
open Go.RowKit
def Good (w u:World):Prop:=Below w.heap.size w u
theorem Good.refl (w:World):Good w w:=Below.refl _ _
theorem Good.size {w u:World} (h:Good w u):w.heap.size≤u.heap.size:=Below.size h
theorem Good.up {w u v:World} (h:Good w u) (hb:Below u.heap.size u v):Good w v:=Below.trans h (hb.mono h.size)
theorem Good.alloc {w u:World} (h:Good w u) (o:Obj):Good w (u.alloc o):=h.up ((Below.refl _ _).alloc (Nat.le_refl _) _)
theorem Good.drew {w u:World} (h:Good w u):Good w u.drew:=Below.drew h
theorem Good.cell {w u:World} (h:Good w u) {b o:Nat} (hb:b<w.heap.size):u.cell? ⟨b,o,none⟩=w.cell? ⟨b,o,none⟩:=Below.cell h hb
theorem grown_of_below {w w':World} (h:Below w.heap.size w w') (row:Option Nat):w.grownBy w' row :=
 ⟨h.os,h.tape,h.output,h.size,fun k hk _=>h.block k hk⟩
theorem grown_trans {a b c:World} {row:Option Nat} (h:a.grownBy b row) (k:b.grownBy c row):a.grownBy c row :=
 ⟨k.os.trans h.os,k.tape.trans h.tape,k.output.trans h.output,Nat.le_trans h.size k.size,fun i hi hr=>(k.block i (Nat.lt_of_lt_of_le hi h.size) hr).trans (h.block i hi hr)⟩
def marks (k0 n:Nat):List EdgeV:=(List.range n).map fun (t:Nat)=>((k0:Int)+(t:Int)*2,(k0:Int)+(t:Int)*2+1)
theorem marks_snoc (k0 n:Nat):marks k0 (n+1)=marks k0 n ++ [((k0:Int)+(n:Int)*2,(k0:Int)+(n:Int)*2+1)]:=by simp [marks,List.range_succ]
theorem marks_at (k0 n j:Nat) (h:j<n):(marks k0 n)[j]?=some ((k0:Int)+(j:Int)*2,(k0:Int)+(j:Int)*2+1):=by simp [marks,h]
theorem markEdgeS_zero (a:Option Addr) (c:Nat) (k0:Int) (w:World) :
  Calls Tryz.prog 33 #[.slice a 0 c,.int .i64 k0] w fun e w'=>e=.returned (.int .i64 k0)∧w'=w:=by
 go_enter Tryz.func33,Tryz.ntmps33
 go_wp2
 refine wp_loop_rounds 1 ?_
 rw [rounds_succ]
 go_wp2
 go_ret
 exact ⟨rfl,rfl⟩
set_option maxRecDepth 100000 in
set_option maxHeartbeats 4000000 in
theorem markEdgeS_any (base g c n k0:Nat) (fs:List EdgeV) (hn:n≤1048576) (hk1:k0≤10000000) (w:World)
  (h:w.ownsRow base 107 2 (.slice (some ⟨g,0,none⟩) n c) n (ecells fs)) :
  Calls Tryz.prog 33 #[.slice (some ⟨g,0,none⟩) n c,.int .i64 (k0:Int)] w fun e w'=>e=.returned (.int .i64 ((k0:Int)+(n:Int)*2)) ∧
   w'.ownsRow base 107 2 (.slice (some ⟨g,0,none⟩) n c) n (ecells (marks k0 n))∧w.grownBy w' (some g):=by
 have HO0:=hideIt h
 clear h
 go_enter Tryz.func33,Tryz.ntmps33
 go_wp2
 go_loopw [1,5] (fun kk i wr=>∃ (j:Nat) (xs:List Value),j≤n∧i=.int .i64 (j:Int)∧kk=.int .i64 ((k0:Int)+(j:Int)*2)∧Hid (xs.take (j*2)=ecells (marks k0 j)) ∧
   wr.ownsRow base 107 2 (.slice (some ⟨g,0,none⟩) n c) n xs∧w.grownBy wr (some g)) (fun _ i _=>n - (intOf i).toNat)
 case atStart=>exact ⟨0,_,by omega,rfl,by simp,by show _=_;simp [ecells,marks],HO0.out,⟨rfl,rfl,rfl,Nat.le_refl _,fun _ _ _=>rfl⟩⟩
 case round =>
  obtain ⟨j,xs,hj,rfl,rfl,hx,hown,hgr⟩:=hrel
  clear HO0
  have hl3:xs.length=n*2:=hown.1
  by_cases hlt:j<n
  ·have b1:(0:Int)≤(j:Int):=by omega
   have b2:(j:Int)<(n:Int):=by omega
   obtain ⟨y0,c0⟩:∃ y,wr.cell? ⟨g,j*2,none⟩=some y:=⟨_,by rw [hown.cellAt (j*2) (by omega)];exact List.getElem?_eq_getElem (by omega)⟩
   obtain ⟨y1,c1⟩:∃ y,wr.cell? ⟨g,j*2+1,none⟩=some y:=⟨_,by rw [hown.cellAt (j*2+1) (by omega)];exact List.getElem?_eq_getElem (by omega)⟩
   have f0:=hown.frozenAt (j*2)
   have f1:=hown.frozenAt (j*2+1)
   have hst1:=hown.stored (j*2) (.int .i64 ((k0:Int)+(j:Int)*2))
   have hst2:=hst1.1.stored (j*2+1) (.int .i64 ((k0:Int)+(j:Int)*2+1))
   have HO2:=hideIt hst2.1
   have HG2:=hideIt (grown_trans (grown_trans hgr hst1.2) hst2.2)
   have HX:Hid (((xs.set (j*2) (.int .i64 ((k0:Int)+(j:Int)*2))).set (j*2+1) (.int .i64 ((k0:Int)+(j:Int)*2+1))).take ((j+1)*2)=ecells (marks k0 (j+1))):=by
    show _=_
    rw [show (j+1)*2=j*2+2 by omega,take_set2 _ _ _ _ (by omega),hx.out,marks_snoc,ecells_snoc]
   clear hst1 hst2 hx hown hgr
   go_wp2
   exact ⟨⟨j+1,_,by omega,by go_num,by go_num,HX,HO2.out,HG2.out⟩,by simp [intOf];omega⟩
  ·obtain rfl:j=n:=by omega
   have HX:Hid (xs=ecells (marks k0 j)):=by
    show _=_
    have:=hx.out
    rw [List.take_of_length_le (by omega)] at this
    exact this
   have HO:=hideIt hown
   clear hx hown
   go_wp2
   go_ret
   exact ⟨rfl,by rw [← HX.out];exact HO.out,hgr⟩
set_option maxRecDepth 100000 in
set_option maxHeartbeats 4000000 in
theorem heldEdgeS_any (n k0:Nat) (a:Option Addr) (c:Nat) (hn:n≤1048576) (hk1:k0≤10000000) (w:World) (h:Es w w.heap.size a n (marks k0 n)) :
  Calls Tryz.prog 38 #[.slice a n c,.int .i64 (k0:Int)] w fun e w'=>e=.returned (.int .i64 ((k0:Int)+(n:Int)*2))∧w'=w:=by
 obtain ⟨_,hrow⟩:=h
 have HR:=hideIt hrow
 clear hrow
 go_enter Tryz.func38,Tryz.ntmps38
 go_wp2
 go_loopw [1,5] (fun kk i wr=>∃ j:Nat,j≤n∧i=.int .i64 (j:Int)∧kk=.int .i64 ((k0:Int)+(j:Int)*2)∧wr=w) (fun _ i _=>n - (intOf i).toNat)
 case atStart=>exact ⟨0,by omega,rfl,by simp,rfl⟩
 case round =>
  obtain ⟨j,hj,rfl,rfl,hw⟩:=hrel
  have hw':=hw.symm
  subst hw'
  clear hw
  by_cases hlt:j<n
  ·rcases HR.out with hz | ⟨b,off,rfl,hbl,hc⟩
   ·omega
   ·obtain ⟨c0,c1⟩:=hc j _ (marks_at k0 n j hlt)
    dsimp only at c0 c1
    have b1:(0:Int)≤(j:Int):=by omega
    have b2:(j:Int)<(n:Int):=by omega
    clear hc
    go_wp2
    exact ⟨⟨j+1,by omega,by go_num,by go_num,by first | trivial | rfl⟩,by simp [intOf];omega⟩
  ·obtain rfl:j=n:=by omega
   go_wp2
   go_ret
   exact ⟨rfl,rfl⟩
def lt (d e:EdgeV):Bool:=decide (d.1<e.1∨d.1=e.1∧d.2<e.2)
def chkAt (n:Int) (es:List EdgeV) (j:Nat):Bool :=
 match es[j]? with
 | none=>true
 | some e=>eB n e && (match j with
  | 0=>true
  | i+1=>match es[i]? with
   | none=>true
   | some d=>lt d e)
def chk (n:Int) (es:List EdgeV):Bool:=(List.range es.length).all (chkAt n es)
def gB (N:Int) (es:List EdgeV):Bool:=decide (1≤N∧N≤12) && (chk N es && decide (es.length≤66))
theorem chk_no {n:Int} {es:List EdgeV} {j:Nat} (hj:j<es.length) (h:chkAt n es j=false):chk n es=false:=by
 unfold chk
 rw [List.all_eq_false]
 exact ⟨j,List.mem_range.2 hj,by simp [h]⟩
theorem chk_yes {n:Int} {es:List EdgeV} (h:∀ j,j<es.length→chkAt n es j=true):chk n es=true:=by
 unfold chk
 rw [List.all_eq_true]
 exact fun j hj=>h j (List.mem_range.1 hj)
theorem chkAt_zero {n:Int} {es:List EdgeV} {e:EdgeV} (h:es[0]?=some e):chkAt n es 0=eB n e:=by simp [chkAt,h]
theorem chkAt_succ {n:Int} {es:List EdgeV} {i:Nat} {d e:EdgeV} (h:es[i+1]?=some e) (hd:es[i]?=some d):chkAt n es (i+1)=(eB n e && lt d e):=by simp only [chkAt,h,hd]
theorem chkAt_no {n:Int} {es:List EdgeV} {j:Nat} {e:EdgeV} (h:es[j]?=some e) (he:eB n e=false):chkAt n es j=false:=by simp only [chkAt,h,he,Bool.false_and]
theorem l05Less_any (d e:EdgeV) (w:World) :
  Calls Tryz.prog 96 #[.agg #[.int .i64 d.1,.int .i64 d.2],.agg #[.int .i64 e.1,.int .i64 e.2]] w fun x w'=>x=.returned (.bool (lt d e))∧Below w.heap.size w w':=by
 obtain ⟨a,b⟩:=d
 obtain ⟨c,f⟩:=e
 dsimp only
 by_cases h1:a<c
 ·have r1:decide (a<c)=true:=by simpa using h1
  go_enter Tryz.func96,Tryz.ntmps96
  go_wp2
  go_ret
  exact ⟨by simp [lt];omega,((Below.refl _ _).alloc (Nat.le_refl _) _).alloc (by simp) _⟩
 ·have r1:decide (a<c)=false:=by simpa using h1
  by_cases h2:a=c
  ·subst h2
   go_enter Tryz.func96,Tryz.ntmps96
   go_wp2
   go_ret
   exact ⟨bret (by dsimp only;omega),((Below.refl _ _).alloc (Nat.le_refl _) _).alloc (by simp) _⟩
  ·have r2:(a == c)=false:=by simpa using h2
   go_enter Tryz.func96,Tryz.ntmps96
   go_wp2
   go_ret
   exact ⟨by simp [lt];omega,((Below.refl _ _).alloc (Nat.le_refl _) _).alloc (by simp) _⟩
set_option maxRecDepth 100000 in
set_option maxHeartbeats 2000000 in
theorem l05Edges_any (N:Int) (es:List EdgeV) (n:Nat) (a:Option Addr) (c:Nat) (hn:n≤1048576) (w:World) (h:Es w w.heap.size a n es) :
  Calls Tryz.prog 73 #[.int .i64 N,.slice a n c] w fun e w'=>e=.returned (.bool (chk N es && decide (es.length≤66)))∧Below w.heap.size w w':=by
 obtain ⟨hlen,hrow⟩:=h
 have HR:=hideIt hrow
 have HL:=hideIt hlen
 clear hrow
 go_enter Tryz.func73,Tryz.ntmps73
 go_wp2
 go_loopw [5] (fun i wr=>∃ k:Nat,k≤n∧i=.int .i64 (k:Int)∧Hid (∀ j,j<k→chkAt N es j=true)∧Below w.heap.size w wr) (fun i _=>n - (intOf i).toNat)
 case atStart=>exact ⟨0,by omega,rfl,fun j hj=>by omega,Below.refl _ _⟩
 case round =>
  obtain ⟨k,hk,rfl,hck,hb⟩:=hrel
  by_cases hlt:k<n
  ·rcases HR.out with hz | ⟨b,off,rfl,hbl,hc⟩
   ·omega
   ·obtain ⟨f,hf⟩:∃ f,es[k]?=some f:=⟨es[k]'(by omega),List.getElem?_eq_getElem (by omega)⟩
    obtain ⟨c0,c1⟩:=hc k f hf
    have e0:wr.cell? ⟨b,off+k*2,none⟩=some (.int .i64 f.1):=by rw [hb.cell hbl];exact c0
    have e1:wr.cell? ⟨b,off+k*2+1,none⟩=some (.int .i64 f.2):=by rw [hb.cell hbl];exact c1
    have b1:(0:Int)≤(k:Int):=by omega
    have b2:(k:Int)<(n:Int):=by omega
    have hbd:=hb.drew
    have HE:Hid (∀ W:World,Below w.heap.size w W→Calls Tryz.prog 76 #[.int .i64 N,.agg #[.int .i64 f.1,.int .i64 f.2]] W fun e w'=>e=.returned (.bool (eB N f))∧Below w.heap.size w w'):=fun W hW =>
     (sEdgeOk_any N f W).mono fun _ _ ⟨he,hb'⟩=>⟨he,hW.trans (hb'.mono hW.size)⟩
    have HK:Hid (∀ W:World,Below w.heap.size w W→(W.cell? ⟨b,off+k*2,none⟩=some (.int .i64 f.1)∧W.cell? ⟨b,off+k*2+1,none⟩=some (.int .i64 f.2))):=fun W hW =>
     ⟨by rw [hW.cell hbl];exact c0,by rw [hW.cell hbl];exact c1⟩
    cases hE:eB N f with
    | false =>
     rw [hE] at HE
     have HN:=hideIt (chk_no (by omega:k<es.length) (chkAt_no hf hE))
     clear hf hc c0 c1 hE hck
     go_wp2
     refine wp_region_any (by kernel_rfl) ?_
     change wpAny _ _ _ _ _ _ _ (World.drew _)
     refine takeOp (i:=0) (v:=?_) rfl (by kernel_rfl) (by kernel_rfl) (by kernel_rfl) (fun _ _ _ h=>h) (by kernel_rfl) ?_ ?_
     rotate_left
     ·intro w;go_simp;try with_reducible rfl
     refine takeOp (i:=1) (v:=?_) rfl (by kernel_rfl) (by kernel_rfl) (by kernel_rfl) (fun _ _ _ h=>h) (by kernel_rfl) ?_ ?_
     rotate_left
     ·intro w;go_simp;try with_reducible rfl
     refine takeOp (i:=2) (v:=?_) rfl (by kernel_rfl) (by kernel_rfl) (by kernel_rfl) (fun _ _ _ h=>h) (by kernel_rfl) ?_ ?_
     rotate_left
     ·intro w;go_simp;try with_reducible rfl
     refine wpAny_ready (rs:=[3]) (by kernel_rfl) (by simp) ?_
     refine AllReady.cons rfl (fun K hK=>?_) AllReady.nil
     go_simp
     refine hK _ _ ?_
     clear hK K
     refine wpAny_ready (rs:=[4]) (by kernel_rfl) (by simp) ?_
     refine AllReady.cons rfl (fun K hK=>?_) AllReady.nil
     go_simp
     refine hK _ _ ?_
     clear hK K
     refine wpAny_ready (rs:=[5]) (by kernel_rfl) (by simp) ?_
     refine AllReady.cons rfl (fun K hK=>?_) AllReady.nil
     go_wp2_with (go_at_call 76;refine (HE.out _ hbd).mono ?_;rintro e w1 ⟨rfl,hb3⟩;refine Hid.out ?_)
     refine (show ∀ {p:Prop},p→Hid p from fun h=>h) ?_
     try refine hK _ _ ?_
     clear hK K
     refine wpAny_ready (rs:=[6]) (by kernel_rfl) (by simp) ?_
     refine AllReady.cons rfl (fun K hK=>?_) AllReady.nil
     go_simp
     refine hK _ _ ?_
     clear hK K
     refine wpAny_ready (rs:=[7]) (by kernel_rfl) (by simp) ?_
     refine AllReady.cons rfl (fun K hK=>?_) AllReady.nil
     go_simp
     refine hK _ _ ?_
     clear hK K
     refine skipOp (i:=8) rfl (by kernel_rfl) (by kernel_rfl) (by kernel_rfl) (fun _ _ _ h=>h) (by kernel_rfl) ?_
     refine skipOp (i:=9) rfl (by kernel_rfl) (by kernel_rfl) (by kernel_rfl) (fun _ _ _ h=>h) (by kernel_rfl) ?_
     refine skipOp (i:=10) rfl (by kernel_rfl) (by kernel_rfl) (by kernel_rfl) (fun _ _ _ h=>h) (by kernel_rfl) ?_
     refine skipOp (i:=11) rfl (by kernel_rfl) (by kernel_rfl) (by kernel_rfl) (fun _ _ _ h=>h) (by kernel_rfl) ?_
     refine skipOp (i:=12) rfl (by kernel_rfl) (by kernel_rfl) (by kernel_rfl) (fun _ _ _ h=>h) (by kernel_rfl) ?_
     refine skipOp (i:=13) rfl (by kernel_rfl) (by kernel_rfl) (by kernel_rfl) (fun _ _ _ h=>h) (by kernel_rfl) ?_
     refine skipOp (i:=14) rfl (by kernel_rfl) (by kernel_rfl) (by kernel_rfl) (fun _ _ _ h=>h) (by kernel_rfl) ?_
     refine skipOp (i:=15) rfl (by kernel_rfl) (by kernel_rfl) (by kernel_rfl) (fun _ _ _ h=>h) (by kernel_rfl) ?_
     refine skipOp (i:=16) rfl (by kernel_rfl) (by kernel_rfl) (by kernel_rfl) (fun _ _ _ h=>h) (by kernel_rfl) ?_
     refine skipOp (i:=17) rfl (by kernel_rfl) (by kernel_rfl) (by kernel_rfl) (fun _ _ _ h=>h) (by kernel_rfl) ?_
     refine skipOp (i:=18) rfl (by kernel_rfl) (by kernel_rfl) (by kernel_rfl) (fun _ _ _ h=>h) (by kernel_rfl) ?_
     refine skipOp (i:=19) rfl (by kernel_rfl) (by kernel_rfl) (by kernel_rfl) (fun _ _ _ h=>h) (by kernel_rfl) ?_
     refine skipOp (i:=20) rfl (by kernel_rfl) (by kernel_rfl) (by kernel_rfl) (fun _ _ _ h=>h) (by kernel_rfl) ?_
     refine skipOp (i:=21) rfl (by kernel_rfl) (by kernel_rfl) (by kernel_rfl) (fun _ _ _ h=>h) (by kernel_rfl) ?_
     refine skipOp (i:=22) rfl (by kernel_rfl) (by kernel_rfl) (by kernel_rfl) (fun _ _ _ h=>h) (by kernel_rfl) ?_
     refine wpAny_ready (rs:=[23]) (by kernel_rfl) (by simp) ?_
     refine AllReady.cons rfl (fun K hK=>?_) AllReady.nil
     go_simp
     refine hK _ _ ?_
     clear hK K
     refine wpAny_done (by kernel_rfl) ?_ _
     go_wp2
     go_ret
     exact ⟨by rw [HN.out];rfl,hb3⟩
    | true =>
     rw [hE] at HE
     rcases k with _ | i
     ·have HY:=hideIt (show chkAt N es 0=true by rw [chkAt_zero hf];exact hE)
      clear hf hc c0 c1 hE
      rw [Nat.zero_mul,Nat.add_zero] at e0 e1
      go_wp2
      refine wp_region_any (by kernel_rfl) ?_
      change wpAny _ _ _ _ _ _ _ (World.drew _)
      refine takeOp (i:=0) (v:=?_) rfl (by kernel_rfl) (by kernel_rfl) (by kernel_rfl) (fun _ _ _ h=>h) (by kernel_rfl) ?_ ?_
      rotate_left
      ·intro w;go_simp;try with_reducible rfl
      refine takeOp (i:=1) (v:=?_) rfl (by kernel_rfl) (by kernel_rfl) (by kernel_rfl) (fun _ _ _ h=>h) (by kernel_rfl) ?_ ?_
      rotate_left
      ·intro w;go_simp;try with_reducible rfl
      refine takeOp (i:=2) (v:=?_) rfl (by kernel_rfl) (by kernel_rfl) (by kernel_rfl) (fun _ _ _ h=>h) (by kernel_rfl) ?_ ?_
      rotate_left
      ·intro w;go_simp;try with_reducible rfl
      refine wpAny_ready (rs:=[3]) (by kernel_rfl) (by simp) ?_
      refine AllReady.cons rfl (fun K hK=>?_) AllReady.nil
      go_simp
      refine hK _ _ ?_
      clear hK K
      refine wpAny_ready (rs:=[4]) (by kernel_rfl) (by simp) ?_
      refine AllReady.cons rfl (fun K hK=>?_) AllReady.nil
      go_simp
      refine hK _ _ ?_
      clear hK K
      refine wpAny_ready (rs:=[5]) (by kernel_rfl) (by simp) ?_
      refine AllReady.cons rfl (fun K hK=>?_) AllReady.nil
      go_wp2_with (go_at_call 76;refine (HE.out _ hbd).mono ?_;rintro e w1 ⟨rfl,hb3⟩;refine Hid.out ?_)
      refine (show ∀ {p:Prop},p→Hid p from fun h=>h) ?_
      try refine hK _ _ ?_
      clear hK K
      refine wpAny_ready (rs:=[6]) (by kernel_rfl) (by simp) ?_
      refine AllReady.cons rfl (fun K hK=>?_) AllReady.nil
      go_simp
      refine hK _ _ ?_
      clear hK K
      refine wpAny_ready (rs:=[7]) (by kernel_rfl) (by simp) ?_
      refine AllReady.cons rfl (fun K hK=>?_) AllReady.nil
      go_simp
      refine hK _ _ ?_
      clear hK K
      refine wpAny_ready (rs:=[8]) (by kernel_rfl) (by simp) ?_
      refine AllReady.cons rfl (fun K hK=>?_) AllReady.nil
      go_simp
      refine hK _ _ ?_
      clear hK K
      refine wpAny_ready (rs:=[9]) (by kernel_rfl) (by simp) ?_
      refine AllReady.cons rfl (fun K hK=>?_) AllReady.nil
      go_simp
      refine hK _ _ ?_
      clear hK K
      refine wpAny_ready (rs:=[10]) (by kernel_rfl) (by simp) ?_
      refine AllReady.cons rfl (fun K hK=>?_) AllReady.nil
      go_simp
      refine hK _ _ ?_
      clear hK K
      refine skipOp (i:=11) rfl (by kernel_rfl) (by kernel_rfl) (by kernel_rfl) (fun _ _ _ h=>h) (by kernel_rfl) ?_
      refine skipOp (i:=12) rfl (by kernel_rfl) (by kernel_rfl) (by kernel_rfl) (fun _ _ _ h=>h) (by kernel_rfl) ?_
      refine skipOp (i:=13) rfl (by kernel_rfl) (by kernel_rfl) (by kernel_rfl) (fun _ _ _ h=>h) (by kernel_rfl) ?_
      refine skipOp (i:=14) rfl (by kernel_rfl) (by kernel_rfl) (by kernel_rfl) (fun _ _ _ h=>h) (by kernel_rfl) ?_
      refine skipOp (i:=15) rfl (by kernel_rfl) (by kernel_rfl) (by kernel_rfl) (fun _ _ _ h=>h) (by kernel_rfl) ?_
      refine skipOp (i:=16) rfl (by kernel_rfl) (by kernel_rfl) (by kernel_rfl) (fun _ _ _ h=>h) (by kernel_rfl) ?_
      refine skipOp (i:=17) rfl (by kernel_rfl) (by kernel_rfl) (by kernel_rfl) (fun _ _ _ h=>h) (by kernel_rfl) ?_
      refine skipOp (i:=18) rfl (by kernel_rfl) (by kernel_rfl) (by kernel_rfl) (fun _ _ _ h=>h) (by kernel_rfl) ?_
      refine skipOp (i:=19) rfl (by kernel_rfl) (by kernel_rfl) (by kernel_rfl) (fun _ _ _ h=>h) (by kernel_rfl) ?_
      refine skipOp (i:=20) rfl (by kernel_rfl) (by kernel_rfl) (by kernel_rfl) (fun _ _ _ h=>h) (by kernel_rfl) ?_
      refine skipOp (i:=21) rfl (by kernel_rfl) (by kernel_rfl) (by kernel_rfl) (fun _ _ _ h=>h) (by kernel_rfl) ?_
      refine wpAny_ready (rs:=[22]) (by kernel_rfl) (by simp) ?_
      refine AllReady.cons rfl (fun K hK=>?_) AllReady.nil
      go_simp
      refine hK _ _ ?_
      clear hK K
      refine wpAny_ready (rs:=[23]) (by kernel_rfl) (by simp) ?_
      refine AllReady.cons rfl (fun K hK=>?_) AllReady.nil
      go_simp
      refine hK _ _ ?_
      clear hK K
      refine wpAny_done (by kernel_rfl) ?_ _
      go_wp2
      exact ⟨⟨1,by omega,by go_num,fun j hj=>by
       obtain rfl:j=0:=by omega
       exact HY.out,hb3⟩,by simp [intOf];omega⟩
     ·obtain ⟨d,hd⟩:∃ d,es[i]?=some d:=⟨es[i]'(by omega),List.getElem?_eq_getElem (by omega)⟩
      obtain ⟨c2,c3⟩:=hc i d hd
      have HK2:Hid (∀ W:World,Below w.heap.size w W→(W.cell? ⟨b,off+i*2,none⟩=some (.int .i64 d.1)∧W.cell? ⟨b,off+i*2+1,none⟩=some (.int .i64 d.2))):=fun W hW =>
       ⟨by rw [hW.cell hbl];exact c2,by rw [hW.cell hbl];exact c3⟩
      have HC:=hideIt (chkAt_succ (n:=N) hf hd)
      have HL2:Hid (∀ W:World,Below w.heap.size w W→Calls Tryz.prog 96 #[.agg #[.int .i64 d.1,.int .i64 d.2],.agg #[.int .i64 f.1,.int .i64 f.2]] W fun e w'=>e=.returned (.bool (lt d f))∧Below w.heap.size w w'):=fun W hW =>
       (l05Less_any d f W).mono fun _ _ ⟨he,hb'⟩=>⟨he,hW.trans (hb'.mono hW.size)⟩
      have HE0:=hideIt hE
      have ek:((i+1:Nat):Int)=(i:Int)+1:=by omega
      rw [ek] at b1 b2
      have b3:(0:Int)≤(i:Int):=by omega
      have b4:(i:Int)<(n:Int):=by omega
      have tn:((i:Int)+1).toNat=i+1:=by omega
      have d0:decide ((0:Int)<(i:Int)+1)=true:=decide_eq_true (by omega)
      have hw1:IntKind.i64.wrap (i:Int)=(i:Int):=by rw [IntKind.wrap_i64];omega
      rw [ek]
      clear ek hf hd hc c0 c1 c2 c3 hE
      cases hL:lt d f with
      | true =>
       rw [hL] at HL2
       have HY:=hideIt (show chkAt N es (i+1)=true by rw [HC.out,HE0.out,hL];rfl)
       clear HC hL HE0
       go_wp2
       go_region_held3 (fun u=>Below w.heap.size w u∧(u.cell? ⟨b,off+(i+1)*2,none⟩=some (.int .i64 f.1)∧u.cell? ⟨b,off+(i+1)*2+1,none⟩=some (.int .i64 f.2))∧u.cell? ⟨b,off+i*2,none⟩=some (.int .i64 d.1)∧u.cell? ⟨b,off+i*2+1,none⟩=some (.int .i64 d.2))
        (first | exact ⟨hb4,HK.out _ hb4,HK2.out _ hb4⟩ | exact ⟨hb3,HK.out _ hb3,HK2.out _ hb3⟩ | exact ⟨hbd,HK.out _ hbd,HK2.out _ hbd⟩)
        (first
        | (go_at_call 76;refine (HE.out _ hbd).mono ?_;rintro e w1 ⟨rfl,hb3⟩)
        | (go_at_call 96;refine (HL2.out _ hb3).mono ?_;rintro e w2 ⟨rfl,hb4⟩))
       all_goals
        go_wp2
        exact ⟨⟨i+2,by omega,by go_num,fun j hj=>by
         by_cases hji:j=i+1
         ·subst hji;exact HY.out
         ·exact hck.out j (by omega),hb4⟩,by simp [intOf];omega⟩
      | false =>
       rw [hL] at HL2
       have HN:=hideIt (chk_no (by omega:i+1<es.length) (show chkAt N es (i+1)=false by rw [HC.out,HE0.out,hL];rfl))
       clear HC hL HE0
       go_wp2
       go_region_held3 (fun u=>Below w.heap.size w u∧(u.cell? ⟨b,off+(i+1)*2,none⟩=some (.int .i64 f.1)∧u.cell? ⟨b,off+(i+1)*2+1,none⟩=some (.int .i64 f.2))∧u.cell? ⟨b,off+i*2,none⟩=some (.int .i64 d.1)∧u.cell? ⟨b,off+i*2+1,none⟩=some (.int .i64 d.2))
        (first | exact ⟨hb4,HK.out _ hb4,HK2.out _ hb4⟩ | exact ⟨hb3,HK.out _ hb3,HK2.out _ hb3⟩ | exact ⟨hbd,HK.out _ hbd,HK2.out _ hbd⟩)
        (first
        | (go_at_call 76;refine (HE.out _ hbd).mono ?_;rintro e w1 ⟨rfl,hb3⟩)
        | (go_at_call 96;refine (HL2.out _ hb3).mono ?_;rintro e w2 ⟨rfl,hb4⟩))
       all_goals
        go_wp2
        go_ret
        exact ⟨by rw [HN.out];rfl,hb4⟩
  ·have HY:=hideIt (chk_yes (n:=N) (es:=es) (fun j hj=>hck.out j (by omega)))
   clear hck
   go_wp2
   go_ret
   exact ⟨by rw [HY.out,HL.out];simp;omega,hb⟩
end Go.Proofs.YtnagchanokbgdaaGreat.O
