/- Two lists of records that hold the same. An order and an answer that come in, as the walks want them. A list of records that comes in. -/
import Derived.Test.YtnagchanokbgdaaGreatJLw21
import Derived.Deep.RegionHeld3
import Derived.Test.YtnagchanokbgdaaGreatJSq1
import Derived.Test.YtnagchanokbgdaaGreatJSGraph
import Derived.Test.YtnagchanokbgdaaGreatJLawB10
import Derived.ChangeSlices
import Derived.WalkKit
import Derived.ProofKit
import Derived.OpenShut
import Derived.ChangeOld
import Derived.ChangeArms
import Derived.Below
namespace Go.Proofs.YtnagchanokbgdaaGreat.Q
open Go.Proofs.YtnagchanokbgdaaGreat.O
open Go.RowKit Vt
theorem exec_loadR {o:Oper} {a:Go.Act} {w:World} {x:Operand} {b k:Nat} {q:RQ} (ho:o.op=.load 62 x) (hx:a.eval x=.pointer (some ⟨b,k,none⟩)) (X:w.rangeAt b k (rqC q)):(execOp a.eval o).run Tryz.prog w=.ok (.value (.agg (rqC q).toArray)) w:=by
 unfold execOp
 simp only [ho,hx,Instr.loadAt,Instr.sureAddr,Sem.run_bind,Sem.run_pure,Result.andThen_ok,run_loadVar_mid (P:=Tryz.prog) w b k 62 (rqC q) _ X Tryz.underlying62 rfl (by kernel_rfl)]
theorem eqRec_q {p q:RQ} (hs:sigR p=sigR q) (hk:p.k1≤1048576∧p.k2≤1048576∧p.k3≤1048576) (w:World) (h1:RV p w w.heap.size) (h2:RV q w w.heap.size) :
  Calls Tryz.prog 32 #[.agg (rqC p).toArray,.agg (rqC q).toArray] w fun e w'=>e=.returned (.bool true)∧Below w.heap.size w w':=by
 obtain ⟨r,a1,k1,c1,a2,k2,c2,a3,k3,c3,lo,hi⟩:=p
 obtain ⟨r',a1',k1',c1',a2',k2',c2',a3',k3',c3',lo',hi'⟩:=q
 simp only [sigR,Prod.mk.injEq] at hs
 obtain ⟨rfl,rfl,rfl,rfl⟩:=hs
 exact eqRec_same r.kind r.id r.op r.a r.b r.sh r.an.num r.an.ok r.o.num r.o.op r.o.v a1 k1 c1 a2 k2 c2 a3 k3 c3 a1' c1' a2' c2' a3' c3' r.an.es r.an.ls r.o.es hk.1 hk.2.1 hk.2.2 w h1.e1 h1.e2 h1.e3 h2.e1 h2.e2 h2.e3
set_option maxRecDepth 100000 in
set_option maxHeartbeats 4000000 in
theorem eqRecS_same (ps qs:List RQ) (hs:ps.map sigR=qs.map sigR) (hk:∀ q ∈ ps,q.k1≤1048576∧q.k2≤1048576∧q.k3≤1048576) (n:Nat) (hn:n≤1048576) (a a':Option Addr) (c c':Nat) (w:World) (h:RL w w.heap.size a n ps) (h':RL w w.heap.size a' n qs) :
  Calls Tryz.prog 10 #[.slice a n c,.slice a' n c'] w fun e w'=>e=.returned (.bool true)∧Below w.heap.size w w':=by
 have HR:=hideIt h
 have HR':=hideIt h'
 have HK:=hideIt hk
 have HSg:=hideIt hs
 clear h h' hk hs
 have dn:((n:Int) != (n:Int))=false:=by simp
 go_enter Tryz.func10,Tryz.ntmps10
 go_wp2
 go_loopw [5] (fun i wr=>∃ j:Nat,j≤n∧i=.int .i64 (j:Int)∧Below w.heap.size w wr) (fun i _=>n - (intOf i).toNat)
 case atStart=>exact ⟨0,by omega,rfl,Below.refl _ _⟩
 case round =>
  obtain ⟨j,hj,rfl,hb⟩:=hrel
  by_cases hlt:j<n
  ·obtain ⟨b,off,p,rfl,hbl,hp,hc,hv⟩:=(HR.out.up hb).at hlt
   obtain ⟨b',off',q,rfl,hbl',hq,hc',hv'⟩:=(HR'.out.up hb).at hlt
   have hpk:=HK.out p (List.mem_of_getElem? hp)
   have hsg:sigR p=sigR q:=by
    have h1:=congrArg (fun l=>l[j]?) HSg.out
    simp only [List.getElem?_map,hp,hq,Option.map_some,Option.some.injEq] at h1
    exact h1
   have b1:(0:Int)≤(j:Int):=by omega
   have b2:(j:Int)<(n:Int):=by omega
   have c0:Below wr.heap.size wr wr:=Below.refl _ _
   have HS:Hid (∀ u,Below wr.heap.size wr u→u.rangeAt b (off+j*14) (rqC p)∧u.rangeAt b' (off'+j*14) (rqC q)):=fun u hu=>⟨fun o v hx=>by rw [hu.cell hbl];exact hc o v hx,fun o v hx=>by rw [hu.cell hbl'];exact hc' o v hx⟩
   have HEq:Hid (∀ u,Below wr.heap.size wr u→Calls Tryz.prog 32 #[.agg (rqC p).toArray,.agg (rqC q).toArray] u fun e w'=>e=.returned (.bool true)∧Below wr.heap.size wr w'):=fun u hu =>
    (eqRec_q hsg hpk u (hv.up hu) (hv'.up hu)).mono fun e v ⟨h1,h2⟩=>⟨h1,hu.trans (h2.mono hu.size)⟩
   have HB:=hideIt hb
   clear hc hc' hv hv' hp hq hpk hsg hb
   go_upto_region 6 with fail
   (
   refine wp_region_held_drew (S:=fun u=>u.rangeAt b (off+j*14) (rqC p)∧u.rangeAt b' (off'+j*14) (rqC q)) (by kernel_rfl) (HS.out _ c0.drew) (fun hHeld=>?_)
   refine tq0 (i:=0) (v:=?_) rfl ?_ (by assumption) ?_
   rotate_left
   ·intro w hSw;go_simp;try with_reducible rfl
   try simp only [Act.put,pU0]
   refine tq0 (i:=1) (v:=?_) rfl ?_ (by assumption) ?_
   rotate_left
   ·intro w hSw;go_simp;try with_reducible rfl
   try simp only [Act.put,pU0]
   refine tq0 (i:=2) (v:=?_) rfl ?_ (by assumption) ?_
   rotate_left
   ·intro w hSw;go_simp;try with_reducible rfl
   try simp only [Act.put,pU0]
   refine tq0 (i:=3) (v:=.agg (rqC p).toArray) rfl (fun w hSw=>exec_loadR rfl rfl hSw.1) (by assumption) ?_
   try simp only [Act.put,pU0]
   refine tq0 (i:=4) (v:=?_) rfl ?_ (by assumption) ?_
   rotate_left
   ·intro w hSw;go_simp;try with_reducible rfl
   try simp only [Act.put,pU0]
   refine tq0 (i:=5) (v:=?_) rfl ?_ (by assumption) ?_
   rotate_left
   ·intro w hSw;go_simp;try with_reducible rfl
   try simp only [Act.put,pU0]
   refine tq0 (i:=6) (v:=?_) rfl ?_ (by assumption) ?_
   rotate_left
   ·intro w hSw;go_simp;try with_reducible rfl
   try simp only [Act.put,pU0]
   refine tq0 (i:=7) (v:=.agg (rqC q).toArray) rfl (fun w hSw=>exec_loadR rfl rfl hSw.2) (by assumption) ?_
   try simp only [Act.put,pU0]
   refine wr0 (i:=8) rfl (fun K hK=>?_)
   rw [if_pos]
   rotate_left
   ·kernel_rfl
   go_wp2_with (go_at_call 32;refine (HEq.out _ c0.drew).mono ?_;rintro e w3 ⟨rfl,b3⟩;refine Hid.out ?_)
   refine (show ∀ {p:Prop},p→Hid p from fun h=>h) ?_
   refine hK.out _ _ (HS.out _ b3) (fun hHeld=>?_)
   clear hK K
   try simp only [pU0]
   refine tq0 (i:=9) (v:=?_) rfl ?_ (by assumption) ?_
   rotate_left
   ·intro w hSw;go_simp;try with_reducible rfl
   try simp only [Act.put,pU0]
   refine wpAnyH_done (by kernel_rfl) ?_ _
   clear hHeld
   have HB3:=hideIt (HB.out.trans (b3.mono HB.out.size))
   clear b3 HS HEq c0
   go_wp2
   exact ⟨⟨j+1,by omega,by go_num,HB3.out⟩,by simp [intOf];omega⟩
   )
  ·go_wp2
   go_ret
   exact ⟨rfl,hb⟩
end Go.Proofs.YtnagchanokbgdaaGreat.Q
namespace Go.Proofs.YtnagchanokbgdaaGreat.Q
open Go.Proofs.YtnagchanokbgdaaGreat.O
open Go.ChangeShapes Go.WideShapes Go.ChangeAt Go.RowKit
theorem slice1 {H:Type} {enc:TypeId × Value→H} {W:World} {fuel:Nat} {t e:TypeId} {cs:List Value} {x:DataW H × List MemPlace} (hu:Tryz.prog.underlying t=some (.slice e))
  (h:DataW.trod enc Tryz.prog W 0 (fun _=>true) true fuel t cs=some x):∃ a n c,cs=[.slice a n c]:=by
 rcases DataW.trod_slice hu h with ⟨hcs,_⟩ | ⟨ad,l,c,_,_,_,_,hcs,_⟩
 ·exact ⟨_,_,_,hcs⟩
 ·exact ⟨_,_,_,hcs⟩
theorem open_ints10 {H:Type} {enc:TypeId × Value→H} {W:World} {fuel:Nat} {a:Option Addr} {len cap:Nat} {y:DataW H × List MemPlace}
  (hf:DataW.trod enc Tryz.prog W 0 (fun _=>true) true fuel 24 [.slice a len cap]=some y):len≤maxLen∧∃ ls:List Int,Is W W.heap.size a len ls:=by
 obtain ⟨d,p⟩:=y
 rcases open_ints Tryz.underlying24 Tryz.underlying3 (by kernel_rfl) hf with ⟨hcs,_⟩ | ⟨x,l,c,zs,hcs,_,hl,hm,hz,_,hcell,hwz⟩
 ·simp at hcs
  obtain ⟨rfl,rfl,rfl⟩:=hcs
  exact ⟨by unfold maxLen;omega,[],⟨rfl,.inl rfl⟩⟩
 ·simp at hcs
  obtain ⟨rfl,rfl,rfl⟩:=hcs
  have hzl:zs.length=cap:=by simpa using hz
  by_cases h0:len=0
  ·subst h0
   exact ⟨by unfold maxLen;omega,[],⟨rfl,.inl rfl⟩⟩
  ·obtain ⟨b,off,rfl,hc⟩:=ints_at hcell (by omega)
   have hb:b<W.heap.size:=World.block_lt_of_cell? W _ (hc 0 (by omega))
   refine ⟨by omega,zs.take len,⟨by rw [List.length_take];omega,.inr ⟨b,off,rfl,hb,fun j x hx=>?_⟩⟩⟩
   have hj:j<len:=by have:=(List.getElem?_eq_some_iff.1 hx).1;rw [List.length_take] at this;omega
   rw [List.getElem?_take_of_lt hj] at hx
   rw [hc j (by omega),List.getD_eq_getElem?_getD,hx]
   rfl
theorem len14 {α:Type} {l:List α} (h:l.length=14):∃ c0 c1 c2 c3 c4 c5 c6 c7 c8 c9 c10 c11 c12 c13,l=[c0,c1,c2,c3,c4,c5,c6,c7,c8,c9,c10,c11,c12,c13]:=by
 match l,h with
 | [c0,c1,c2,c3,c4,c5,c6,c7,c8,c9,c10,c11,c12,c13],_=>exact ⟨c0,c1,c2,c3,c4,c5,c6,c7,c8,c9,c10,c11,c12,c13,rfl⟩
theorem trod_flag {H:Type} {enc:TypeId × Value→H} {W:World} {fuel:Nat} {c:Value} {y:DataW H × List MemPlace}
  (h:DataW.trod enc Tryz.prog W 0 (fun _=>true) true fuel 4 [c]=some y):∃ b:Bool,c=.bool b:=by
 obtain ⟨k,hk,_⟩:=DataW.trod_bool Tryz.underlying4 h
 simp at hk
 exact ⟨k,hk⟩
set_option maxRecDepth 100000 in
theorem trod_ask {H:Type} {enc:TypeId × Value→H} {W:World} {fuel:Nat} {c0 c1 c2 c3:Value} {y:DataW H × List MemPlace}
  (h:DataW.trod enc Tryz.prog W 0 (fun _=>true) true fuel 50 [c0,c1,c2,c3]=some y):∃ i o a b:Int,c0=.int .i64 i∧c1=.int .i64 o∧c2=.int .i64 a∧c3=.int .i64 b:=by
 obtain ⟨xs,n,_,_,hl,hlen,hfi⟩:=DataW.trod_struct Tryz.underlying50 h
 have h0:DataW.trod enc Tryz.prog W 0 (fun _=>true) true n 3 (([c0,c1,c2,c3].drop 0).take (Tryz.prog.cellsOf 3))=xs[0]?:=hfi 0 _ rfl
 have h1:DataW.trod enc Tryz.prog W 0 (fun _=>true) true n 3 (([c0,c1,c2,c3].drop 1).take (Tryz.prog.cellsOf 3))=xs[1]?:=hfi 1 _ rfl
 have h2:DataW.trod enc Tryz.prog W 0 (fun _=>true) true n 3 (([c0,c1,c2,c3].drop 2).take (Tryz.prog.cellsOf 3))=xs[2]?:=hfi 2 _ rfl
 have h3:DataW.trod enc Tryz.prog W 0 (fun _=>true) true n 3 (([c0,c1,c2,c3].drop 3).take (Tryz.prog.cellsOf 3))=xs[3]?:=hfi 3 _ rfl
 rw [show Tryz.prog.cellsOf 3=1 by kernel_rfl] at h0
 rw [show Tryz.prog.cellsOf 3=1 by kernel_rfl] at h1
 rw [show Tryz.prog.cellsOf 3=1 by kernel_rfl] at h2
 rw [show Tryz.prog.cellsOf 3=1 by kernel_rfl] at h3
 have g:∀ i,i<4→∃ z,xs[i]?=some z:=fun i hi=>⟨xs[i]'(by simp at hlen;omega),List.getElem?_eq_getElem _⟩
 obtain ⟨z0,e0⟩:=g 0 (by omega)
 rw [e0] at h0
 have h0':DataW.trod enc Tryz.prog W 0 (fun _=>true) true n 3 [c0]=some z0:=by simpa using h0
 obtain ⟨k0,hk0,_⟩:=DataW.trod_int Tryz.underlying3 h0'
 simp at hk0
 subst hk0
 obtain ⟨z1,e1⟩:=g 1 (by omega)
 rw [e1] at h1
 have h1':DataW.trod enc Tryz.prog W 0 (fun _=>true) true n 3 [c1]=some z1:=by simpa using h1
 obtain ⟨k1,hk1,_⟩:=DataW.trod_int Tryz.underlying3 h1'
 simp at hk1
 subst hk1
 obtain ⟨z2,e2⟩:=g 2 (by omega)
 rw [e2] at h2
 have h2':DataW.trod enc Tryz.prog W 0 (fun _=>true) true n 3 [c2]=some z2:=by simpa using h2
 obtain ⟨k2,hk2,_⟩:=DataW.trod_int Tryz.underlying3 h2'
 simp at hk2
 subst hk2
 obtain ⟨z3,e3⟩:=g 3 (by omega)
 rw [e3] at h3
 have h3':DataW.trod enc Tryz.prog W 0 (fun _=>true) true n 3 [c3]=some z3:=by simpa using h3
 obtain ⟨k3,hk3,_⟩:=DataW.trod_int Tryz.underlying3 h3'
 simp at hk3
 subst hk3
 exact ⟨k0,k1,k2,k3,rfl,rfl,rfl,rfl⟩
set_option maxRecDepth 100000 in
theorem trod_ans {H:Type} {enc:TypeId × Value→H} {W:World} {fuel:Nat} {c0 c1 c2 c3:Value} {y:DataW H × List MemPlace}
  (h:DataW.trod enc Tryz.prog W 0 (fun _=>true) true fuel 53 [c0,c1,c2,c3]=some y):∃ (num:Int) (ok:Bool) (a:Option Addr) (n c:Nat) (fs:List EdgeV) (a':Option Addr) (n' c':Nat) (ls:List Int),(c0=.int .i64 num∧c1=.bool ok∧c2=.slice a n c∧c3=.slice a' n' c')∧n≤maxLen∧n'≤maxLen∧Es W W.heap.size a n fs∧Is W W.heap.size a' n' ls:=by
 obtain ⟨xs,n,_,_,hl,hlen,hfi⟩:=DataW.trod_struct Tryz.underlying53 h
 have h0:DataW.trod enc Tryz.prog W 0 (fun _=>true) true n 3 (([c0,c1,c2,c3].drop 0).take (Tryz.prog.cellsOf 3))=xs[0]?:=hfi 0 _ rfl
 have h1:DataW.trod enc Tryz.prog W 0 (fun _=>true) true n 4 (([c0,c1,c2,c3].drop 1).take (Tryz.prog.cellsOf 4))=xs[1]?:=hfi 1 _ rfl
 have h2:DataW.trod enc Tryz.prog W 0 (fun _=>true) true n 51 (([c0,c1,c2,c3].drop 2).take (Tryz.prog.cellsOf 51))=xs[2]?:=hfi 2 _ rfl
 have h3:DataW.trod enc Tryz.prog W 0 (fun _=>true) true n 24 (([c0,c1,c2,c3].drop 3).take (Tryz.prog.cellsOf 24))=xs[3]?:=hfi 3 _ rfl
 rw [show Tryz.prog.cellsOf 3=1 by kernel_rfl] at h0
 rw [show Tryz.prog.cellsOf 4=1 by kernel_rfl] at h1
 rw [show Tryz.prog.cellsOf 51=1 by kernel_rfl] at h2
 rw [show Tryz.prog.cellsOf 24=1 by kernel_rfl] at h3
 have g:∀ i,i<4→∃ z,xs[i]?=some z:=fun i hi=>⟨xs[i]'(by simp at hlen;omega),List.getElem?_eq_getElem _⟩
 obtain ⟨z0,e0⟩:=g 0 (by omega)
 rw [e0] at h0
 have h0':DataW.trod enc Tryz.prog W 0 (fun _=>true) true n 3 [c0]=some z0:=by simpa using h0
 obtain ⟨k0,hk0,_⟩:=DataW.trod_int Tryz.underlying3 h0'
 simp at hk0
 subst hk0
 obtain ⟨z1,e1⟩:=g 1 (by omega)
 rw [e1] at h1
 have h1':DataW.trod enc Tryz.prog W 0 (fun _=>true) true n 4 [c1]=some z1:=by simpa using h1
 obtain ⟨k1,rfl⟩:=trod_flag h1'
 obtain ⟨z2,e2⟩:=g 2 (by omega)
 rw [e2] at h2
 have h2':DataW.trod enc Tryz.prog W 0 (fun _=>true) true n 51 [c2]=some z2:=by simpa using h2
 obtain ⟨a2,m2,d2,hx2⟩:=slice1 Tryz.underlying51 h2'
 simp at hx2
 subst hx2
 obtain ⟨q2,fs,r2,_⟩:=open_edgeS h2'
 obtain ⟨z3,e3⟩:=g 3 (by omega)
 rw [e3] at h3
 have h3':DataW.trod enc Tryz.prog W 0 (fun _=>true) true n 24 [c3]=some z3:=by simpa using h3
 obtain ⟨a3,m3,d3,hx3⟩:=slice1 Tryz.underlying24 h3'
 simp at hx3
 subst hx3
 obtain ⟨q3,ls,r3⟩:=open_ints10 h3'
 exact ⟨k0,k1,a2,m2,d2,fs,a3,m3,d3,ls,⟨rfl,rfl,rfl,rfl⟩,q2,q3,r2,r3⟩
set_option maxRecDepth 100000 in
theorem trod_ord {H:Type} {enc:TypeId × Value→H} {W:World} {fuel:Nat} {c0 c1 c2 c3:Value} {y:DataW H × List MemPlace}
  (h:DataW.trod enc Tryz.prog W 0 (fun _=>true) true fuel 55 [c0,c1,c2,c3]=some y):∃ (num op:Int) (a:Option Addr) (n c:Nat) (fs:List EdgeV) (v:Int),(c0=.int .i64 num∧c1=.int .i64 op∧c2=.slice a n c∧c3=.int .i64 v)∧n≤maxLen∧Es W W.heap.size a n fs:=by
 obtain ⟨xs,n,_,_,hl,hlen,hfi⟩:=DataW.trod_struct Tryz.underlying55 h
 have h0:DataW.trod enc Tryz.prog W 0 (fun _=>true) true n 3 (([c0,c1,c2,c3].drop 0).take (Tryz.prog.cellsOf 3))=xs[0]?:=hfi 0 _ rfl
 have h1:DataW.trod enc Tryz.prog W 0 (fun _=>true) true n 3 (([c0,c1,c2,c3].drop 1).take (Tryz.prog.cellsOf 3))=xs[1]?:=hfi 1 _ rfl
 have h2:DataW.trod enc Tryz.prog W 0 (fun _=>true) true n 51 (([c0,c1,c2,c3].drop 2).take (Tryz.prog.cellsOf 51))=xs[2]?:=hfi 2 _ rfl
 have h3:DataW.trod enc Tryz.prog W 0 (fun _=>true) true n 3 (([c0,c1,c2,c3].drop 3).take (Tryz.prog.cellsOf 3))=xs[3]?:=hfi 3 _ rfl
 rw [show Tryz.prog.cellsOf 3=1 by kernel_rfl] at h0
 rw [show Tryz.prog.cellsOf 3=1 by kernel_rfl] at h1
 rw [show Tryz.prog.cellsOf 51=1 by kernel_rfl] at h2
 rw [show Tryz.prog.cellsOf 3=1 by kernel_rfl] at h3
 have g:∀ i,i<4→∃ z,xs[i]?=some z:=fun i hi=>⟨xs[i]'(by simp at hlen;omega),List.getElem?_eq_getElem _⟩
 obtain ⟨z0,e0⟩:=g 0 (by omega)
 rw [e0] at h0
 have h0':DataW.trod enc Tryz.prog W 0 (fun _=>true) true n 3 [c0]=some z0:=by simpa using h0
 obtain ⟨k0,hk0,_⟩:=DataW.trod_int Tryz.underlying3 h0'
 simp at hk0
 subst hk0
 obtain ⟨z1,e1⟩:=g 1 (by omega)
 rw [e1] at h1
 have h1':DataW.trod enc Tryz.prog W 0 (fun _=>true) true n 3 [c1]=some z1:=by simpa using h1
 obtain ⟨k1,hk1,_⟩:=DataW.trod_int Tryz.underlying3 h1'
 simp at hk1
 subst hk1
 obtain ⟨z2,e2⟩:=g 2 (by omega)
 rw [e2] at h2
 have h2':DataW.trod enc Tryz.prog W 0 (fun _=>true) true n 51 [c2]=some z2:=by simpa using h2
 obtain ⟨a2,m2,d2,hx2⟩:=slice1 Tryz.underlying51 h2'
 simp at hx2
 subst hx2
 obtain ⟨q2,fs,r2,_⟩:=open_edgeS h2'
 obtain ⟨z3,e3⟩:=g 3 (by omega)
 rw [e3] at h3
 have h3':DataW.trod enc Tryz.prog W 0 (fun _=>true) true n 3 [c3]=some z3:=by simpa using h3
 obtain ⟨k3,hk3,_⟩:=DataW.trod_int Tryz.underlying3 h3'
 simp at hk3
 subst hk3
 exact ⟨k0,k1,a2,m2,d2,fs,k3,⟨rfl,rfl,rfl,rfl⟩,q2,r2⟩
set_option maxRecDepth 100000 in
set_option maxHeartbeats 1000000 in
theorem open_reccells {H:Type} {enc:TypeId × Value→H} {W:World} {fuel:Nat} {cs:List Value} {y:DataW H × List MemPlace}
  (hf:DataW.trod enc Tryz.prog W 0 (fun _=>true) true fuel 57 cs=some y) :
  ∃ q:RQ,cs=rqC q∧(q.k1≤maxLen∧q.k2≤maxLen∧q.k3≤maxLen)∧RV q W W.heap.size:=by
 obtain ⟨xs,n,_,_,hl,hlen,hfi⟩:=DataW.trod_struct Tryz.underlying57 hf
 rw [show Tryz.prog.cellsOf 57=14 by kernel_rfl] at hl
 obtain ⟨c0,c1,c2,c3,c4,c5,c6,c7,c8,c9,c10,c11,c12,c13,rfl⟩:=len14 hl
 have h0:DataW.trod enc Tryz.prog W 0 (fun _=>true) true n 3 (([c0,c1,c2,c3,c4,c5,c6,c7,c8,c9,c10,c11,c12,c13].drop 0).take (Tryz.prog.cellsOf 3))=xs[0]?:=hfi 0 _ rfl
 have h1:DataW.trod enc Tryz.prog W 0 (fun _=>true) true n 50 (([c0,c1,c2,c3,c4,c5,c6,c7,c8,c9,c10,c11,c12,c13].drop 1).take (Tryz.prog.cellsOf 50))=xs[1]?:=hfi 1 _ rfl
 have h2:DataW.trod enc Tryz.prog W 0 (fun _=>true) true n 3 (([c0,c1,c2,c3,c4,c5,c6,c7,c8,c9,c10,c11,c12,c13].drop 5).take (Tryz.prog.cellsOf 3))=xs[2]?:=hfi 2 _ rfl
 have h3:DataW.trod enc Tryz.prog W 0 (fun _=>true) true n 53 (([c0,c1,c2,c3,c4,c5,c6,c7,c8,c9,c10,c11,c12,c13].drop 6).take (Tryz.prog.cellsOf 53))=xs[3]?:=hfi 3 _ rfl
 have h4:DataW.trod enc Tryz.prog W 0 (fun _=>true) true n 55 (([c0,c1,c2,c3,c4,c5,c6,c7,c8,c9,c10,c11,c12,c13].drop 10).take (Tryz.prog.cellsOf 55))=xs[4]?:=hfi 4 _ rfl
 rw [show Tryz.prog.cellsOf 3=1 by kernel_rfl] at h0
 rw [show Tryz.prog.cellsOf 50=4 by kernel_rfl] at h1
 rw [show Tryz.prog.cellsOf 3=1 by kernel_rfl] at h2
 rw [show Tryz.prog.cellsOf 53=4 by kernel_rfl] at h3
 rw [show Tryz.prog.cellsOf 55=4 by kernel_rfl] at h4
 have g:∀ i,i<5→∃ z,xs[i]?=some z:=fun i hi=>⟨xs[i]'(by simp at hlen;omega),List.getElem?_eq_getElem _⟩
 obtain ⟨z0,e0⟩:=g 0 (by omega)
 rw [e0] at h0
 have h0':DataW.trod enc Tryz.prog W 0 (fun _=>true) true n 3 [c0]=some z0:=by simpa using h0
 obtain ⟨k0,hk0,_⟩:=DataW.trod_int Tryz.underlying3 h0'
 simp at hk0
 subst hk0
 obtain ⟨z1,e1⟩:=g 1 (by omega)
 rw [e1] at h1
 have h1':DataW.trod enc Tryz.prog W 0 (fun _=>true) true n 50 [c1,c2,c3,c4]=some z1:=by simpa using h1
 obtain ⟨i,o,a,b,rfl,rfl,rfl,rfl⟩:=trod_ask h1'
 obtain ⟨z2,e2⟩:=g 2 (by omega)
 rw [e2] at h2
 have h2':DataW.trod enc Tryz.prog W 0 (fun _=>true) true n 3 [c5]=some z2:=by simpa using h2
 obtain ⟨k2,hk2,_⟩:=DataW.trod_int Tryz.underlying3 h2'
 simp at hk2
 subst hk2
 obtain ⟨z3,e3⟩:=g 3 (by omega)
 rw [e3] at h3
 have h3':DataW.trod enc Tryz.prog W 0 (fun _=>true) true n 53 [c6,c7,c8,c9]=some z3:=by simpa using h3
 obtain ⟨an,ok,b1,n1,e1,f1,b2,n2,e2,ls,⟨rfl,rfl,rfl,rfl⟩,s1,s2,t1,t2⟩:=trod_ans h3'
 obtain ⟨z4,e4⟩:=g 4 (by omega)
 rw [e4] at h4
 have h4':DataW.trod enc Tryz.prog W 0 (fun _=>true) true n 55 [c10,c11,c12,c13]=some z4:=by simpa using h4
 obtain ⟨on,oo,b3,n3,e3,f3,ov,⟨rfl,rfl,rfl,rfl⟩,s3,t3⟩:=trod_ord h4'
 exact ⟨⟨⟨k0,i,o,a,b,k2,⟨an,ok,f1,ls⟩,⟨on,oo,f3,ov⟩⟩,b1,n1,e1,b2,n2,e2,b3,n3,e3,0,0⟩,rfl,⟨s1,s2,s3⟩,⟨t1,t2,t3⟩⟩
set_option maxRecDepth 100000 in
theorem open_recs {H:Type} {enc:TypeId × Value→H} {W:World} {r:Reach} {base:Nat} {v:Value} {d:DataW H} {p:List MemPlace}
  (hv:Value.okWide Tryz.prog W r base 22 v) (h0:DataW.Trod enc Tryz.prog W 0 (fun _=>true) true 22 v d p) :
  ∃ (a:Option Addr) (n c:Nat) (qs:List RQ),v=.slice a n c∧n≤maxLen∧RL W W.heap.size a n qs∧∀ q ∈ qs,q.k1≤maxLen∧q.k2≤maxLen∧q.k3≤maxLen:=by
 obtain ⟨a,len,cap,rfl⟩:=okWide_slice Tryz.underlying22 hv
 obtain ⟨fuel,hf⟩:=h0
 have h:DataW.trod enc Tryz.prog W 0 (fun _=>true) true fuel 22 [.slice a len cap]=some (d,p):=by simpa [Value.cells] using hf
 rcases DataW.trod_slice Tryz.underlying22 h with ⟨hcs,_⟩ | ⟨ad,l,c,elems,rest,n,_,hcs,_,_,hlc,hm,hel,hei,_,_⟩
 ·simp at hcs
  obtain ⟨rfl,rfl,rfl⟩:=hcs
  exact ⟨none,0,0,[],rfl,by unfold maxLen;omega,⟨rfl,.inl rfl,by simp⟩,by simp⟩
 ·simp at hcs
  obtain ⟨rfl,rfl,rfl⟩:=hcs
  have each:∀ i,i<len→∃ q:RQ,(∀ o v,(rqC q)[o]?=some v→W.cell? ((ad.add (i*14)).add o)=some v)∧(q.k1≤maxLen∧q.k2≤maxLen∧q.k3≤maxLen)∧RV q W W.heap.size:=by
   intro i hi
   have h1:=hei i hi
   obtain ⟨y,hy⟩:∃ y,elems[i]?=some y:=⟨elems[i]'(by omega),List.getElem?_eq_getElem _⟩
   rw [hy,Option.bind_eq_some_iff] at h1
   obtain ⟨cs',hc,ht⟩:=h1
   obtain ⟨q,rfl,hfit,hrv⟩:=open_reccells ht
   rw [show Tryz.prog.cellsOf 57=14 by kernel_rfl] at hc
   have hcell:=(World.cells?_some hc).2.2
   refine ⟨q,fun o v ho=>?_,hfit,hrv⟩
   have hol:=(List.getElem?_eq_some_iff.1 ho).1
   have h2:=hcell o (by simpa [rqC] using hol)
   rw [h2]
   first | exact ho | simpa using ho
  by_cases h0:len=0
  ·subst h0
   exact ⟨_,0,cap,[],rfl,by unfold maxLen;omega,⟨rfl,.inl rfl,by simp⟩,by simp⟩
  ·obtain ⟨f0,hc0,_,_⟩:=each 0 (by omega)
   have hc0:=hc0 0 _ rfl
   obtain ⟨b,off,spot⟩:=ad
   have hspot:spot=none:=by simpa [Addr.add] using World.cell?_spot hc0
   subst hspot
   have hb:b<W.heap.size:=by
    have:=World.block_lt_of_cell? W _ hc0
    simpa [Addr.add] using this
   obtain ⟨F,hF⟩:=Classical.axiomOfChoice (fun i:Fin len=>each i.1 i.2)
   refine ⟨_,len,cap,List.ofFn F,rfl,by omega,⟨by simp,.inr ⟨b,off,rfl,hb,fun j f hf o v hv=>?_⟩,fun f hf=>?_⟩,fun f hf=>?_⟩
   ·obtain ⟨hj,rfl⟩:=List.getElem?_eq_some_iff.1 hf
    have hj':j<len:=by simpa using hj
    have h3:=(hF ⟨j,hj'⟩).1 o v (by simpa only [List.getElem_ofFn] using hv)
    rw [add_plain,add_plain] at h3
    exact h3
   ·obtain ⟨i,rfl⟩:=List.mem_ofFn.1 hf
    exact (hF i).2.2
   ·obtain ⟨i,rfl⟩:=List.mem_ofFn.1 hf
    exact (hF i).2.1
end Go.Proofs.YtnagchanokbgdaaGreat.Q
