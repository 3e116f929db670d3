/- The specification's copy of a head that records lead to. A head in a box of its own; what say makes of it, the program's and the specification's. Say: what was asked is answered, in a head's box; the program's and the specification's. Order: what was asked is a task, in a head's box; the program's and the specification's. A question of a head in a box: does it make sense; its edge. A head in a box: whether a question was answered with yes; a vertex that moves. -/
import Derived.Test.YtnagchanokbgdaaGreatKApC20
import Derived.Deep.AppendLies
import Derived.Deep.RegionLaw
import Derived.Test.YtnagchanokbgdaaGreatKSq0
namespace Go.Proofs.YtnagchanokbgdaaGreat
open Go.RowKit
set_option maxHeartbeats 4000000 in
theorem copyOrder20 (num op v:Int) (es:List O.EdgeV) (a5:Option Addr) (n5 k5:Nat) (hn:n5≤1048576) (hz:a5=none→n5=0∧k5=0) (w:World) (hE:O.Es w w.heap.size a5 n5 es) :
  Calls Tryz.prog 56 #[.agg #[.int .i64 num,.int .i64 op,.slice a5 n5 k5,.int .i64 v]] w fun e w'=>∃ a c,e=.returned (.agg #[.int .i64 num,.int .i64 op,.slice a n5 c,.int .i64 v])∧w'.ownsRow w.heap.size 107 2 (.slice a n5 c) n5 (O.ecells es)∧Below w.heap.size w w':=by
 obtain ⟨W,hW⟩:∃ W,W=(w.alloc (.cells #[.int .i64 num,.int .i64 op,.slice a5 n5 k5,.int .i64 v] 30)).alloc (.cells #[.int .i64 0,.int .i64 0,.slice none 0 0,.int .i64 0] 30):=⟨_,rfl⟩
 have bW:Below w.heap.size w W:=by rw [hW];exact (belA _ _).alloc (by simp) _
 have X:BxA W w.heap.size 30 #[.int .i64 num,.int .i64 op,.slice a5 n5 k5,.int .i64 v]:=by rw [hW];exact (BxA.new w _ _).up (belA _ _)
 have Y:BxA W (w.heap.size+1) 30 #[.int .i64 0,.int .i64 0,.slice none 0 0,.int .i64 0]:=by
  have:=BxA.new (w.alloc (.cells #[.int .i64 num,.int .i64 op,.slice a5 n5 k5,.int .i64 v] 30)) 30 #[.int .i64 0,.int .i64 0,.slice none 0 0,.int .i64 0]
  rw [show (w.alloc (.cells #[.int .i64 num,.int .i64 op,.slice a5 n5 k5,.int .i64 v] 30)).heap.size=w.heap.size+1 by simp] at this
  rw [hW];exact this
 have HX:=hideIt X
 have HY:=hideIt Y
 have HB:=hideIt bW
 have HE:=hideIt (hE.up bW)
 have lwW:w.heap.size+1<W.heap.size:=Y.lt
 have lx:w.heap.size<W.heap.size:=by omega
 have x2:=X.cell 2 rfl
 clear X Y bW hE
 go_enter Tryz.func56,Tryz.ntmps56
 go_upto_region 1 with fail
 rw [← hW]
 clear hW
 go_wp2_with (at_builtin;refine cpE20 _ _ rfl rfl rfl es a5 n5 k5 rfl HE.out hn hz ?_;intro a' c' w1 ho hb;refine Hid.out ?_)
 refine hidp20 ?_
 have X1:=HX.out.up hb
 have Y1:=HY.out.up hb
 have y2:=X1.cell 2 rfl
 have f2:=X1.frozen 2
 have HO:=hideIt (own_mono ho (show w.heap.size+2≤W.heap.size by omega))
 have HB1:=hideIt (HB.out.trans (hb.mono HB.out.size))
 have l1:=hb.size
 clear ho hb x2 HE HB
 go_upto_region 2 with fail
 obtain ⟨W2,hW2⟩:∃ W2,W2=w1.setCell ⟨w.heap.size,2,none⟩ (.slice a' n5 c'):=⟨_,rfl⟩
 rw [← hW2]
 have X2:BxA W2 w.heap.size 30 #[.int .i64 num,.int .i64 op,.slice a' n5 c',.int .i64 v]:=by rw [hW2];exact X1.set 2 _
 have Y2:BxA W2 (w.heap.size+1) 30 #[.int .i64 0,.int .i64 0,.slice none 0 0,.int .i64 0]:=by rw [hW2];exact Y1.setO _ (by omega)
 have HO2:Hid (W2.ownsRow (w.heap.size+2) 107 2 (.slice a' n5 c') n5 (O.ecells es)):=by show World.ownsRow _ _ _ _ _ _ _;rw [hW2];exact own_lowA HO.out (by omega)
 have HB2:Hid (Below w.heap.size w W2):=by show Below _ _ _;rw [hW2];exact Below.setCell HB1.out (p:=⟨w.heap.size,2,none⟩) (Nat.le_refl _) _
 have i0:=X2.cell 0 rfl
 have i1:=X2.cell 1 rfl
 have i2:=X2.cell 2 rfl
 have i3:=X2.cell 3 rfl
 have j0:=Y2.cell 0 rfl
 have j1:=Y2.cell 1 rfl
 have j2:=Y2.cell 2 rfl
 have j3:=Y2.cell 3 rfl
 have g0:=Y2.frozen 0
 have g1:=Y2.frozen 1
 have g2:=Y2.frozen 2
 have g3:=Y2.frozen 3
 have lY:=Y2.lt
 have HYv:=hideIt Y2
 clear hW2 X1 Y1 X2 Y2 HX HY HO HB1 y2 f2
 go_wp2
 have XF:=BxA.setA (l:=[.int .i64 0,.int .i64 0,.slice none 0 0,.int .i64 0]) HYv.out 0 [.int .i64 num,.int .i64 op,.slice a' n5 c',.int .i64 v]
 have s0:=XF.at 0 rfl
 have s1:=XF.at 1 rfl
 have s2:=XF.at 2 rfl
 have s3:=XF.at 3 rfl
 dsimp only [setA] at s0 s1 s2 s3
 refine bodyPost_ret (v:=.agg #[.int .i64 num,.int .i64 op,.slice a' n5 c',.int .i64 v]) (by simp [results,Tryz.results56,go_sem,s0,s1,s2,s3]) rfl ⟨a',c',rfl,?_,?_⟩
 ·exact own_mono (own_lowA (own_lowA (own_lowA (own_lowA HO2.out (by omega)) (by omega)) (by omega)) (by omega)) (by omega)
 ·exact Below.setCell (Below.setCell (Below.setCell (Below.setCell HB2.out (p:=⟨w.heap.size+1,0,none⟩) (by show w.heap.size≤w.heap.size+1;omega) _) (p:=⟨w.heap.size+1,1,none⟩) (by show w.heap.size≤w.heap.size+1;omega) _) (p:=⟨w.heap.size+1,2,none⟩) (by show w.heap.size≤w.heap.size+1;omega) _) (p:=⟨w.heap.size+1,3,none⟩) (by show w.heap.size≤w.heap.size+1;omega) _
structure CqS (w:World) (h:Hd) (q:Hp) (x:World):Prop where
 b:BxA x w.heap.size 35 (hC h q)
 z:BxA x (w.heap.size+1) 35 (hC zeroH zeroP)
 f:Below w.heap.size w x
section
variable {w x y:World} {h:Hd} {q q':Hp}
theorem CqS.lt (k:CqS w h q x):w.heap.size+2≤x.heap.size:=k.z.lt
theorem CqS.up (k:CqS w h q x) (hb:Below x.heap.size x y):CqS w h q y:=⟨k.b.up hb,k.z.up hb,k.f.trans (hb.mono k.f.size)⟩
theorem CqS.set (k:CqS w h q x) (off:Nat) (v:Value) (e:(hC h q).setIfInBounds off v=hC h q'):CqS w h q' (x.setCell ⟨w.heap.size,off,none⟩ v) :=
 ⟨by have:=k.b.set off v;rw [e] at this;exact this,k.z.setO v (by omega),Below.setCell k.f (p:=⟨w.heap.size,off,none⟩) (Nat.le_refl _) v⟩
end
theorem FB.made20 (u:World):FB (u.alloc (.cells #[] 24)) u.heap.size (u.alloc (.cells #[] 24)).heap.size (some ⟨u.heap.size,0,none⟩) 0 0 [] :=
 ⟨rfl,World.ownsRow_made (base:=u.heap.size) u #[] 0 (Nat.le_refl _) (by unfold maxLen;omega) rfl,fun g hg=>by simp [Value.ownBlock] at hg;subst hg;simp,Nat.le_refl _,by simp,List.Pairwise.nil⟩
theorem apH20 {ops:Array Oper} {rest:List Oper} {o:Oper} {a:Act} {Q:Exit→Act→World→Prop} {u:World} (s x:Operand) (hgd:o.guard=none) (ho:o.op=.call { callee:=.builtin .append,args:=#[s,x],argTypes:=#[26,26] }) {al:Option Addr} {n c:Nat} (hs:a.eval s=.slice al n c) (hx:a.eval x=.slice (some ⟨u.heap.size,0,none⟩) 1 1)
  {lo:Nat} {R:List Rw} (F:FB u lo u.heap.size al n c R) {r:Rw} (hr:RwB u r) (hl:lo≤r.g) (hne:∀ x ∈ R,x.g≠r.g) (hn:n≤3)
  (h:∀ a' c' u',FB u' lo u'.heap.size a' (n+1) c' (R ++ [r])→(u.alloc (.cells #[r.hdr] 24)).grownBy u' (Value.slice al n c).ownBlock→wpList Tryz.prog ops Q rest (a.put o.dst (.slice a' (n+1) c')) u'):wpList Tryz.prog ops Q (o :: rest) a (u.alloc (.cells #[r.hdr] 24)):=by
 obtain ⟨i1,hi',hy0,hy1,hy2⟩:=info_parts infoIT
 refine wpList_append_own _ hgd s x 26 ho lo 24 i1 _ 1 24 Tryz.underlying26 hi' hy0 hy1 hy2 rfl (by decide) _ _ _ hs (F.own.alloc (.cells #[r.hdr] 24)) ⟨u.heap.size,0,none⟩ 1 1 [r.hdr] hx rfl (newsH u _) (by intro v hv;simp at hv;subst hv;rfl) (by unfold maxLen;omega) (by omega) (by have:=F.there;have:=hr.lt;simp;omega) ?_
 intro v' w' h2 h3 _
 obtain ⟨a',c',rfl,hF⟩:=F.app hr hl hne h2 h3
 exact h a' c' w' hF h3
set_option maxRecDepth 100000 in
set_option maxHeartbeats 16000000 in
theorem l12Copy_inv {S:Nat} {h:Hd} {p:Hp} (w:World) (R0:HR S w h p) :
  Calls Tryz.prog 23 #[.agg (hC h p)] w fun e w'=>∃ p' R,e=.returned (.agg (hC h p'))∧HW w' w.heap.size h p' R∧Below w.heap.size w w':=by
 have hln:=R0.inv.lens R0.inn
 have hel:=R0.elen
 have hsS:=R0.inv.s
 have HLn:Hid (p.o.n≤12∧p.c.n≤66∧p.l.n≤3∧p.n.n≤3∧p.e.n≤66∧p.s.n≤80∧h.lab.length=p.l.n):=by
  have:=R0.inv.n
  refine ⟨by omega,by omega,by omega,by omega,by omega,by omega,by omega⟩
 have HIn:Hid (∀ u,Below w.heap.size w u→HIn u h p):=fun u hu=>R0.inn.up hu
 have HZo:Hid (p.o.a=none→p.o.n=0∧p.o.c=0):=sl_nil R0.so
 have HZc:Hid (p.c.a=none→p.c.n=0∧p.c.c=0):=sl_nil R0.sc
 have HZn:Hid (p.n.a=none→p.n.n=0∧p.n.c=0):=sl_nil R0.sn
 have HZe:Hid (p.e.a=none→p.e.n=0∧p.e.c=0):=sl_nil R0.se
 have HZs:Hid (p.s.a=none→p.s.n=0∧p.s.c=0):=sl_nil R0.ss
 have HLb:Hid (∀ l ∈ h.lab,1≤l.length∧l.length≤12):=fun l hl=>by
  have h1:=(O.lB_bytes R0.inv.n.2 (R0.inv.lab.2 l hl)).1
  have:=R0.inv.n
  omega
 obtain ⟨W0,hW0⟩:∃ W0,W0=(w.alloc (.cells (hC h p) 35)).alloc (.cells #[.int .i64 0,.slice none 0 0,.slice none 0 0,.slice none 0 0,.slice none 0 0,.int .i64 0,.int .i64 0,.int .i64 0,.int .i64 0,.int .i64 0,.int .i64 0,.int .i64 0,.slice none 0 0,.int .i64 0,.slice none 0 0] 35):=⟨_,rfl⟩
 have H0:Hid (CqS w h ⟨p.o,p.c,p.l,p.n,p.e,p.s⟩ W0):=by
  have h0:=(BxA.new w 35 (hC h p)).up (belA _ (.cells #[.int .i64 0,.slice none 0 0,.slice none 0 0,.slice none 0 0,.slice none 0 0,.int .i64 0,.int .i64 0,.int .i64 0,.int .i64 0,.int .i64 0,.int .i64 0,.int .i64 0,.slice none 0 0,.int .i64 0,.slice none 0 0] 35))
  have h1:=BxA.new (w.alloc (.cells (hC h p) 35)) 35 #[.int .i64 0,.slice none 0 0,.slice none 0 0,.slice none 0 0,.slice none 0 0,.int .i64 0,.int .i64 0,.int .i64 0,.int .i64 0,.int .i64 0,.int .i64 0,.int .i64 0,.slice none 0 0,.int .i64 0,.slice none 0 0]
  rw [show (w.alloc (.cells (hC h p) 35)).heap.size=w.heap.size+1 by simp] at h1
  show CqS _ _ _ _
  rw [hW0]
  exact ⟨h0,h1,(belA _ _).alloc (by simp) _⟩
 clear R0 hln hel hsS
 go_enter Tryz.func23,Tryz.ntmps23
 go_upto_region 1 with fail
 rw [← hW0]
 clear hW0
 have e1:=H0.out.b.cell 1 rfl
 have f1:=H0.out.b.frozen 1
 have g1:w.heap.size<W0.heap.size:=H0.out.b.lt
 go_upto_region 1 with fail
 go_wp2_with (at_builtin;refine cpI20 _ _ rfl rfl rfl h.own p.o.a p.o.n p.o.c rfl (HIn.out _ H0.out.f).o (by have:=HLn.out;omega) (HZo.out) ?_;intro x1 z1 u1 ho hb;refine Hid.out ?_)
 refine hidp20 ?_
 have B1:=H0.out.up hb
 have d1:=B1.b.cell 1 rfl
 have k1:=B1.b.frozen 1
 have qO1:=own_mono ho (show w.heap.size+2≤W0.heap.size from H0.out.lt)
 clear e1 f1 g1 ho hb 
 go_upto_region 2 with fail
 obtain ⟨W1,hW1⟩:∃ W,W=u1.setCell ⟨w.heap.size,1,none⟩ (.slice x1 p.o.n z1):=⟨_,rfl⟩
 rw [← hW1]
 have H1:Hid (CqS w h ⟨⟨x1,p.o.n,z1⟩,p.c,p.l,p.n,p.e,p.s⟩ W1):=by show CqS _ _ _ _;rw [hW1];exact B1.set 1 _ rfl
 have O1:Hid (W1.ownsRow (w.heap.size+2) 3 1 (.slice x1 p.o.n z1) p.o.n (ic h.own)):=by show World.ownsRow _ _ _ _ _ _ _;rw [hW1];exact own_lowA qO1 (by omega)
 clear hW1 B1 d1 k1 H0 qO1
 have e2:=H1.out.b.cell 2 rfl
 have f2:=H1.out.b.frozen 2
 have g2:w.heap.size<W1.heap.size:=H1.out.b.lt
 go_upto_region 2 with fail
 go_wp2_with (at_builtin;refine cpE20 _ _ rfl rfl rfl h.cuts p.c.a p.c.n p.c.c rfl (HIn.out _ H1.out.f).c (by have:=HLn.out;omega) (HZc.out) ?_;intro x2 z2 u2 ho hb;refine Hid.out ?_)
 refine hidp20 ?_
 have B2:=H1.out.up hb
 have d2:=B2.b.cell 2 rfl
 have k2:=B2.b.frozen 2
 have qO1:=own_up O1.out hb
 have qO2:=own_mono ho (show w.heap.size+2≤W1.heap.size from H1.out.lt)
 clear e2 f2 g2 ho hb O1
 go_upto_region 3 with fail
 obtain ⟨W2,hW2⟩:∃ W,W=u2.setCell ⟨w.heap.size,2,none⟩ (.slice x2 p.c.n z2):=⟨_,rfl⟩
 rw [← hW2]
 have H2:Hid (CqS w h ⟨⟨x1,p.o.n,z1⟩,⟨x2,p.c.n,z2⟩,p.l,p.n,p.e,p.s⟩ W2):=by show CqS _ _ _ _;rw [hW2];exact B2.set 2 _ rfl
 have O1:Hid (W2.ownsRow (w.heap.size+2) 3 1 (.slice x1 p.o.n z1) p.o.n (ic h.own)):=by show World.ownsRow _ _ _ _ _ _ _;rw [hW2];exact own_lowA qO1 (by omega)
 have O2:Hid (W2.ownsRow (w.heap.size+2) 107 2 (.slice x2 p.c.n z2) p.c.n (O.ecells h.cuts)):=by show World.ownsRow _ _ _ _ _ _ _;rw [hW2];exact own_lowA qO2 (by omega)
 clear hW2 B2 d2 k2 H1 qO1 qO2
 have e3:=H2.out.b.cell 4 rfl
 have f3:=H2.out.b.frozen 4
 have g3:w.heap.size<W2.heap.size:=H2.out.b.lt
 go_upto_region 3 with fail
 go_wp2_with (at_builtin;refine cpI20 _ _ rfl rfl rfl h.nums p.n.a p.n.n p.n.c rfl (HIn.out _ H2.out.f).n (by have:=HLn.out;omega) (HZn.out) ?_;intro x3 z3 u3 ho hb;refine Hid.out ?_)
 refine hidp20 ?_
 have B3:=H2.out.up hb
 have d3:=B3.b.cell 4 rfl
 have k3:=B3.b.frozen 4
 have qO1:=own_up O1.out hb
 have qO2:=own_up O2.out hb
 have qO3:=own_mono ho (show w.heap.size+2≤W2.heap.size from H2.out.lt)
 have HS13:Hid (∀ b,(Value.slice x1 p.o.n z1).ownBlock=some b→(Value.slice x3 p.n.n z3).ownBlock≠some b):=fun b h1 h2=>by have:=(O1.out.lt b h1).2;have:=(ho.lt b h2).1;omega
 clear e3 f3 g3 ho hb O1 O2
 go_upto_region 4 with fail
 obtain ⟨W3,hW3⟩:∃ W,W=u3.setCell ⟨w.heap.size,4,none⟩ (.slice x3 p.n.n z3):=⟨_,rfl⟩
 rw [← hW3]
 have H3:Hid (CqS w h ⟨⟨x1,p.o.n,z1⟩,⟨x2,p.c.n,z2⟩,p.l,⟨x3,p.n.n,z3⟩,p.e,p.s⟩ W3):=by show CqS _ _ _ _;rw [hW3];exact B3.set 4 _ rfl
 have O1:Hid (W3.ownsRow (w.heap.size+2) 3 1 (.slice x1 p.o.n z1) p.o.n (ic h.own)):=by show World.ownsRow _ _ _ _ _ _ _;rw [hW3];exact own_lowA qO1 (by omega)
 have O2:Hid (W3.ownsRow (w.heap.size+2) 107 2 (.slice x2 p.c.n z2) p.c.n (O.ecells h.cuts)):=by show World.ownsRow _ _ _ _ _ _ _;rw [hW3];exact own_lowA qO2 (by omega)
 have O3:Hid (W3.ownsRow (w.heap.size+2) 3 1 (.slice x3 p.n.n z3) p.n.n (ic h.nums)):=by show World.ownsRow _ _ _ _ _ _ _;rw [hW3];exact own_lowA qO3 (by omega)
 clear hW3 B3 d3 k3 H2 qO1 qO2 qO3
 have e4:=H3.out.b.cell 14 rfl
 have f4:=H3.out.b.frozen 14
 have g4:w.heap.size<W3.heap.size:=H3.out.b.lt
 go_upto_region 4 with fail
 go_wp2_with (at_builtin;refine cpS20 _ _ rfl rfl rfl h.said p.s.a p.s.n p.s.c rfl (HIn.out _ H3.out.f).s (by have:=HLn.out;omega) (HZs.out) ?_;intro x4 z4 u4 ho hb;refine Hid.out ?_)
 refine hidp20 ?_
 have B4:=H3.out.up hb
 have d4:=B4.b.cell 14 rfl
 have k4:=B4.b.frozen 14
 have qO1:=own_up O1.out hb
 have qO2:=own_up O2.out hb
 have qO3:=own_up O3.out hb
 have qO4:=own_mono ho (show w.heap.size+2≤W3.heap.size from H3.out.lt)
 clear e4 f4 g4 ho hb O1 O2 O3
 go_upto_region 5 with fail
 obtain ⟨W4,hW4⟩:∃ W,W=u4.setCell ⟨w.heap.size,14,none⟩ (.slice x4 p.s.n z4):=⟨_,rfl⟩
 rw [← hW4]
 have H4:Hid (CqS w h ⟨⟨x1,p.o.n,z1⟩,⟨x2,p.c.n,z2⟩,p.l,⟨x3,p.n.n,z3⟩,p.e,⟨x4,p.s.n,z4⟩⟩ W4):=by show CqS _ _ _ _;rw [hW4];exact B4.set 14 _ rfl
 have O1:Hid (W4.ownsRow (w.heap.size+2) 3 1 (.slice x1 p.o.n z1) p.o.n (ic h.own)):=by show World.ownsRow _ _ _ _ _ _ _;rw [hW4];exact own_lowA qO1 (by omega)
 have O2:Hid (W4.ownsRow (w.heap.size+2) 107 2 (.slice x2 p.c.n z2) p.c.n (O.ecells h.cuts)):=by show World.ownsRow _ _ _ _ _ _ _;rw [hW4];exact own_lowA qO2 (by omega)
 have O3:Hid (W4.ownsRow (w.heap.size+2) 3 1 (.slice x3 p.n.n z3) p.n.n (ic h.nums)):=by show World.ownsRow _ _ _ _ _ _ _;rw [hW4];exact own_lowA qO3 (by omega)
 have O4:Hid (W4.ownsRow (w.heap.size+2) 82 6 (.slice x4 p.s.n z4) p.s.n (scells h.said)):=by show World.ownsRow _ _ _ _ _ _ _;rw [hW4];exact own_lowA qO4 (by omega)
 clear hW4 B4 d4 k4 H3 qO1 qO2 qO3 qO4
 go_upto_region 6 with fail
 obtain ⟨ZA,hZA⟩:∃ ZA,ZA=W4.alloc (.cells #[] 24):=⟨_,rfl⟩
 rw [← hZA]
 have bZ:Below W4.heap.size W4 ZA:=by rw [hZA];exact belA _ _
 have HF0:Hid (FB ZA W4.heap.size ZA.heap.size (some ⟨W4.heap.size,0,none⟩) 0 0 []):=by show FB _ _ _ _ _ _ _;rw [hZA];exact FB.made20 W4
 have HK0:Hid (Below W4.heap.size W4 ZA):=bZ
 have HR:Hid (∀ u,Below W4.heap.size W4 u→CqS w h ⟨⟨x1,p.o.n,z1⟩,⟨x2,p.c.n,z2⟩,p.l,⟨x3,p.n.n,z3⟩,p.e,⟨x4,p.s.n,z4⟩⟩ u∧(u.ownsRow (w.heap.size+2) 3 1 (.slice x1 p.o.n z1) p.o.n (ic h.own)∧u.ownsRow (w.heap.size+2) 107 2 (.slice x2 p.c.n z2) p.c.n (O.ecells h.cuts))∧u.ownsRow (w.heap.size+2) 3 1 (.slice x3 p.n.n z3) p.n.n (ic h.nums)∧u.ownsRow (w.heap.size+2) 82 6 (.slice x4 p.s.n z4) p.s.n (scells h.said)):=fun u hu=>⟨H4.out.up hu,⟨own_up O1.out hu,own_up O2.out hu⟩,own_up O3.out hu,own_up O4.out hu⟩
 have HB13:Hid ((∀ b,(Value.slice x1 p.o.n z1).ownBlock=some b→b<W4.heap.size)∧∀ b,(Value.slice x3 p.n.n z3).ownBlock=some b→b<W4.heap.size):=⟨fun b hb=>(O1.out.lt b hb).2,fun b hb=>(O3.out.lt b hb).2⟩
 have HL4:Hid (w.heap.size+2≤W4.heap.size):=H4.out.lt
 have n3:=HLn.out.2.2.1
 clear hZA bZ H4 O1 O2 O3 O4
 go_wp2
 go_loopw [3,4] (fun l i wr=>∃ (j:Nat) (a:Option Addr) (c:Nat) (R:List Rw),j≤p.l.n∧l=.slice a j c∧i=.int .i64 (j:Int)∧Hid (rts R=h.lab.take j)∧Hid (FB wr W4.heap.size wr.heap.size a j c R)∧Hid (Below W4.heap.size W4 wr)) (fun _ i _=>p.l.n - (intOf i).toNat)
 case atStart=>exact ⟨0,_,0,[],by omega,rfl,rfl,by show _=_;simp [rts],HF0,HK0⟩
 case round =>
  obtain ⟨j,a,c,R,hj,rfl,rfl,HTk,hF,hK⟩:=hrel
  clear HF0 HK0
  by_cases hlt:j<p.l.n
  ·have e3:wr.cell? ⟨w.heap.size,3,none⟩=some (.slice p.l.a p.l.n p.l.c):=(HR.out wr hK.out).1.b.cell 3 rfl
   have lg:w.heap.size<wr.heap.size:=(HR.out wr hK.out).1.b.lt
   rcases (HIn.out wr (HR.out wr hK.out).1.f).l.2 with h0 | ⟨b,off,ea,hbl,hcl⟩
   ·omega
   obtain ⟨ls,hls⟩:∃ ls,h.lab[j]?=some ls:=⟨h.lab[j]'(by have:=HLn.out;omega),List.getElem?_eq_getElem (by have:=HLn.out;omega)⟩
   obtain ⟨al,cl,cx,hIs,_⟩:=hcl j _ hls
   have h1l:=HLb.out ls (List.mem_of_getElem? hls)
   have hzl:al=none→ls.length=0∧cl=0:=fun ha=>by
    rcases hIs.2 with h0 | ⟨b',off',hb',_⟩
    ·omega
    ·rw [ha] at hb';cases hb'
   rw [ea] at e3
   have b1:(0:Int)≤(j:Int):=by omega
   have b2:(j:Int)<(p.l.n:Int):=by omega
   have HIs:=hideIt hIs
   have HT2:Hid (∀ r:Rw,r.t=ls→rts (R ++ [r])=h.lab.take (j+1)):=fun r hr=>by rw [rts_snoc,HTk.out,take_snocF h.lab j ls hls,hr]
   clear hcl hIs hls HTk ea
   go_wp2_with (at_builtin;refine cpI20 _ _ rfl rfl rfl ls al ls.length cl rfl HIs.out (by omega) hzl ?_;intro xg zc u1 ho hb;refine Hid.out ?_)
   refine hidp20 ?_
   obtain ⟨g,rfl⟩:∃ g,xg=some ⟨g,0,none⟩:=by
    rcases ho.2 with ⟨hv,_⟩ | ⟨g,cap,cur,hv,_⟩
    ·have:=ho.1
     rw [ic_len] at this
     simp only [Value.slice.injEq] at hv
     omega
    ·simp only [Value.slice.injEq] at hv
     exact ⟨g,hv.1⟩
   have F1:FB u1 W4.heap.size u1.heap.size a j c R:=hF.out.keep hb
   have K1:Below W4.heap.size W4 u1:=hK.out.trans (hb.mono hK.out.size)
   have hr1:RwB u1 ⟨g,zc,ls⟩:=RwB.of_own ho
   have hg1:=(ho.lt g rfl).1
   have HAp:Hid (∀ a' c' u',FB u' W4.heap.size u'.heap.size a' (j+1) c' (R ++ [⟨g,zc,ls⟩])→(u1.alloc (.cells #[Rw.hdr ⟨g,zc,ls⟩] 24)).grownBy u' (Value.slice a j c).ownBlock→Hid (Below W4.heap.size W4 u')):=fun a' c' u' hF' hg' =>
    Below.grown (K1.alloc K1.size _) hg' (by have:=K1.size;simp;omega) (fun b hb2=>(F1.own.lt b hb2).1)
   have HF1:=hideIt F1
   have Hr1:=hideIt hr1
   have hl1:W4.heap.size≤g:=Nat.le_trans hK.out.size hg1
   have hne1:Hid (∀ x ∈ R,x.g≠g):=fun x hx e=>by have:=(hF.out.ins x hx).2.2;omega
   clear e3 cx HIs ho hb F1 K1 hr1 hF hK
   go_wp2_with (at_builtin;refine apH20 (r:=⟨g,zc,ls⟩) _ _ rfl rfl rfl rfl HF1.out Hr1.out hl1 hne1.out (by omega) ?_;intro a' c' u' hF' hg';refine Hid.out ?_)
   refine hidp20 ?_
   have HA:=HAp.out a' c' u' hF' hg'
   have HF2:=hideIt hF'
   clear hF' hg' HAp
   go_wp2
   exact ⟨⟨j+1,a',c',_,by omega,rfl,by go_num,HT2.out _ rfl,HF2,HA⟩,by simp [intOf];omega⟩
  ·have ej:Hid (j=p.l.n):=by show j=p.l.n;omega
   have HTf:Hid (rts R=h.lab):=by show _=_;rw [HTk.out,List.take_of_length_le (by have:=HLn.out;omega)]
   have K:=(HR.out wr hK.out).1
   have e3:=K.b.cell 3 rfl
   have f3:=K.b.frozen 3
   have l3:wr.cell? ⟨w.heap.size,3,none⟩=some (.slice p.l.a p.l.n p.l.c):=e3
   have lg:w.heap.size<wr.heap.size:=K.b.lt
   have dj:decide ((j:Int)<(p.l.n:Int))=false:=decide_eq_false (by omega)
   clear HTk K
   go_upto_region 11 with fail
   obtain ⟨ZB,hZB⟩:∃ ZB,ZB=wr.setCell ⟨w.heap.size,3,none⟩ (.slice a j c):=⟨_,rfl⟩
   rw [← hZB]
   have KB:CqS w h ⟨⟨x1,p.o.n,z1⟩,⟨x2,p.c.n,z2⟩,⟨a,j,c⟩,⟨x3,p.n.n,z3⟩,p.e,⟨x4,p.s.n,z4⟩⟩ ZB:=by rw [hZB];exact (HR.out wr hK.out).1.set 3 _ rfl
   have r1:ZB.ownsRow (w.heap.size+2) 3 1 (.slice x1 p.o.n z1) p.o.n (ic h.own):=by rw [hZB];exact own_lowA (HR.out wr hK.out).2.1.1 (by omega)
   have r2:ZB.ownsRow (w.heap.size+2) 107 2 (.slice x2 p.c.n z2) p.c.n (O.ecells h.cuts):=by rw [hZB];exact own_lowA (HR.out wr hK.out).2.1.2 (by omega)
   have r3:ZB.ownsRow (w.heap.size+2) 3 1 (.slice x3 p.n.n z3) p.n.n (ic h.nums):=by rw [hZB];exact own_lowA (HR.out wr hK.out).2.2.1 (by omega)
   have r4:ZB.ownsRow (w.heap.size+2) 82 6 (.slice x4 p.s.n z4) p.s.n (scells h.said):=by rw [hZB];exact own_lowA (HR.out wr hK.out).2.2.2 (by omega)
   have rF:FB ZB W4.heap.size ZB.heap.size a j c R:=by
    rw [hZB]
    exact hF.out.grB (grownSet wr w.heap.size 3 (.slice a j c)) (by have:=HL4.out;omega)
   have HCO:=hideIt (copyOrder20 h.num h.op h.v h.es p.e.a p.e.n p.e.c (by have:=HLn.out;omega) HZe.out ZB (HIn.out ZB KB.f).e)
   have HR5:=hideIt (And.intro (And.intro r1 r2) (And.intro r3 r4))
   have HrF:=hideIt rF
   have HKB:=hideIt KB
   have z10:=KB.b.cell 10 rfl
   have z11:=KB.b.cell 11 rfl
   have z12:=KB.b.cell 12 rfl
   have z13:=KB.b.cell 13 rfl
   clear hZB KB r1 r2 r3 r4 rF hF hK HR e3 f3 l3 lg
   go_wp2_with (go_at_call 56;refine HCO.out.mono ?_;rintro e u9 ⟨x5,z5,rfl,ho5,hb5⟩;refine Hid.out ?_)
   refine hidp20 ?_
   have KC:=HKB.out.up hb5
   have HKC:=hideIt KC
   have HCE:Hid (∀ b,(Value.slice x2 p.c.n z2).ownBlock=some b→(Value.slice x5 p.e.n z5).ownBlock≠some b):=fun b h1 h2=>by have:=(HR5.out.1.2.lt b h1).2;have:=(ho5.lt b h2).1;omega
   have HR6:Hid (((u9.ownsRow (w.heap.size+2) 3 1 (.slice x1 p.o.n z1) p.o.n (ic h.own))∧(u9.ownsRow (w.heap.size+2) 107 2 (.slice x2 p.c.n z2) p.c.n (O.ecells h.cuts)))∧(u9.ownsRow (w.heap.size+2) 3 1 (.slice x3 p.n.n z3) p.n.n (ic h.nums))∧(u9.ownsRow (w.heap.size+2) 82 6 (.slice x4 p.s.n z4) p.s.n (scells h.said))):=⟨⟨own_up HR5.out.1.1 hb5,own_up HR5.out.1.2 hb5⟩,own_up HR5.out.2.1 hb5,own_up HR5.out.2.2 hb5⟩
   have HO5:=hideIt (own_mono ho5 (show w.heap.size+2≤ZB.heap.size from HKB.out.lt))
   have HrF6:=hideIt (HrF.out.keep hb5)
   have k10:=KC.b.cell 10 rfl
   have k11:=KC.b.cell 11 rfl
   have k12:=KC.b.cell 12 rfl
   have k13:=KC.b.cell 13 rfl
   have f10:=KC.b.frozen 10
   have f11:=KC.b.frozen 11
   have f12:=KC.b.frozen 12
   have f13:=KC.b.frozen 13
   have lg:=KC.b.lt
   clear KC ho5 hb5 HR5 HrF HKB HCO z10 z11 z12 z13
   go_upto_region 12 with fail
   obtain ⟨ZC,hZC⟩:∃ ZC,ZC=((((u9.setCell ⟨w.heap.size,10,none⟩ (.int .i64 h.num)).setCell ⟨w.heap.size,11,none⟩ (.int .i64 h.op)).setCell ⟨w.heap.size,12,none⟩ (.slice x5 p.e.n z5)).setCell ⟨w.heap.size,13,none⟩ (.int .i64 h.v)):=⟨_,rfl⟩
   rw [← hZC]
   have hlo:w.heap.size<w.heap.size+2:=by omega
   have KD:CqS w h ⟨⟨x1,p.o.n,z1⟩,⟨x2,p.c.n,z2⟩,⟨a,j,c⟩,⟨x3,p.n.n,z3⟩,⟨x5,p.e.n,z5⟩,⟨x4,p.s.n,z4⟩⟩ ZC:=by
    rw [hZC]
    exact (((HKC.out.set (q':=⟨⟨x1,p.o.n,z1⟩,⟨x2,p.c.n,z2⟩,⟨a,j,c⟩,⟨x3,p.n.n,z3⟩,p.e,⟨x4,p.s.n,z4⟩⟩) 10 _ rfl).set (q':=⟨⟨x1,p.o.n,z1⟩,⟨x2,p.c.n,z2⟩,⟨a,j,c⟩,⟨x3,p.n.n,z3⟩,p.e,⟨x4,p.s.n,z4⟩⟩) 11 _ rfl).set (q':=⟨⟨x1,p.o.n,z1⟩,⟨x2,p.c.n,z2⟩,⟨a,j,c⟩,⟨x3,p.n.n,z3⟩,⟨x5,p.e.n,z5⟩,⟨x4,p.s.n,z4⟩⟩) 12 _ rfl).set 13 _ rfl
   have L4:∀ {B e s n:Nat} {v:Value} {xs:List Value},w.heap.size<B→u9.ownsRow B e s v n xs→ZC.ownsRow B e s v n xs:=fun hB hx=>by rw [hZC];exact own_lowA (own_lowA (own_lowA (own_lowA hx hB) hB) hB) hB
   have hFZ:FB ZC W4.heap.size ZC.heap.size a j c R:=by
    have hB:w.heap.size<W4.heap.size:=by have:=HL4.out;omega
    rw [hZC]
    exact (((HrF6.out.grB (grownSet _ _ _ _) hB).grB (grownSet _ _ _ _) hB).grB (grownSet _ _ _ _) hB).grB (grownSet _ _ _ _) hB
   have HWZ:Hid (HW ZC (w.heap.size+2) h ⟨⟨x1,p.o.n,z1⟩,⟨x2,p.c.n,z2⟩,⟨a,j,c⟩,⟨x3,p.n.n,z3⟩,⟨x5,p.e.n,z5⟩,⟨x4,p.s.n,z4⟩⟩ R):=⟨⟨L4 hlo HR6.out.1.1,L4 hlo HR6.out.1.2,hFZ.lo HL4.out,HTf.out,L4 hlo HR6.out.2.1,L4 hlo HO5.out,L4 hlo HR6.out.2.2⟩,⟨HS13.out,fun r hr h1=>by have:=HB13.out.1 _ h1;have:=(hFZ.ins r hr).2.1;omega,fun r hr h1=>by have:=HB13.out.2 _ h1;have:=(hFZ.ins r hr).2.1;omega⟩,HCE.out⟩
   have HKD:=hideIt KD
   clear hZC KD L4 hFZ k10 k11 k12 k13 f10 f11 f12 f13 HR6 HO5 HrF6 HKC
   refine wp_region_lit ?_
   go_step
   refine wp_loadH HKD.out.b rfl rfl ?_
   go_step
   go_step
   refine wp_storeH HKD.out.z rfl rfl rfl ?_
   intro v XV gv zv
   have HXV:=hideIt XV
   have HF9:=hideIt (And.intro ((HWZ.out.grB gv (by omega)).low (show w.heap.size≤w.heap.size+2 by omega)) (below_grB HKD.out.f gv (by omega) (Nat.le_refl _)))
   clear XV gv zv
   go_wp2
   exact bodyPost_ret (results_H1 Tryz.results23 rfl HXV.out) rfl ⟨_,R,rfl,HF9.out.1,HF9.out.2⟩
end Go.Proofs.YtnagchanokbgdaaGreat
namespace Go.Proofs.YtnagchanokbgdaaGreat
open Go.RowKit
structure HX (lo:Nat) (u:World) (G:Nat) (h:Hd) (p:Hp) (R:List Rw):Prop where
 bx:BxA u G 35 (hC h p)
 ge:lo≤G
 hw:HW u lo h p R
section
variable {lo G:Nat} {u v:World} {h:Hd} {p:Hp} {R:List Rw}
theorem HX.up (k:HX lo u G h p R) (hb:Below u.heap.size u v):HX lo v G h p R:=⟨k.bx.up hb,k.ge,k.hw.up hb⟩
theorem own_neB {B e s n:Nat} {x:Value} {xs:List Value} {cs:Array Value} (hr:u.ownsRow B e s x n xs) (X:BxA u G 35 cs) (he:e≠35):x.ownBlock≠some G:=by
 intro hb
 rcases hr.2 with ⟨rfl,_⟩ | ⟨g,cap,cur,rfl,_,hc,_⟩
 ·simp [Value.ownBlock] at hb
 ·simp [Value.ownBlock] at hb
  subst hb
  unfold BxA at X
  rw [hc] at X
  simp at X
  exact he X.2
theorem own_keepG {B e s n:Nat} {x:Value} {xs:List Value} {cs:Array Value} (hr:u.ownsRow B e s x n xs) (X:BxA u G 35 cs) (he:e≠35) (hg:u.grownBy v (some G)):v.ownsRow B e s x n xs :=
 World.ownsRow.kept hr hg (.inr (own_neB hr X he))
theorem RwB.neB {r:Rw} {cs:Array Value} (hr:RwB u r) (X:BxA u G 35 cs):r.g≠G:=by
 obtain ⟨cur,hc⟩:=hr.blk
 intro e
 unfold BxA at X
 rw [e,X] at hc
 simp at hc
theorem FB.keepG {a:Option Addr} {n c:Nat} {cs:Array Value} (hf:FB u lo u.heap.size a n c R) (X:BxA u G 35 cs) (hg:u.grownBy v (some G)):FB v lo v.heap.size a n c R :=
 ⟨hf.len,own_keepG hf.own X (by decide) hg,fun g hx=>Nat.lt_of_lt_of_le (hf.row g hx) hg.size,Nat.le_refl _,fun r hr=>by
  have:=hf.ins r hr
  have h2:=this.1.grown hg (fun e=>this.1.neB X (Option.some.inj e).symm)
  exact ⟨h2,this.2.1,h2.lt⟩,hf.nod⟩
theorem own_keepR {B e s n B' e' s' n':Nat} {x y:Value} {xs ys:List Value} (hr:u.ownsRow B e s x n xs) (hy:u.ownsRow B' e' s' y n' ys) (he:e≠e') (hg:u.grownBy v y.ownBlock):v.ownsRow B e s x n xs:=by
 refine World.ownsRow.kept hr hg ?_
 cases hb:x.ownBlock with
 | none=>exact .inl rfl
 | some b=>exact .inr fun e2=>rowsNe hr hy he b hb e2.symm
theorem RwB.neR {r:Rw} {B' e' s' n':Nat} {y:Value} {ys:List Value} (hr:RwB u r) (hy:u.ownsRow B' e' s' y n' ys) (he:(3:Nat)≠e'):y.ownBlock≠some r.g:=by
 intro hb
 obtain ⟨cur,hc⟩:=hr.blk
 rcases hy.2 with ⟨rfl,_⟩ | ⟨g,cap,cur',rfl,_,hc',_⟩
 ·simp [Value.ownBlock] at hb
 ·simp [Value.ownBlock] at hb
  subst hb
  rw [hc] at hc'
  simp at hc'
  exact he hc'.2
theorem FB.keepR {a:Option Addr} {n c B' e' s' n':Nat} {y:Value} {ys:List Value} (hf:FB u lo u.heap.size a n c R) (hy:u.ownsRow B' e' s' y n' ys) (he:(3:Nat)≠e') (he2:(24:Nat)≠e') (hg:u.grownBy v y.ownBlock):FB v lo v.heap.size a n c R :=
 ⟨hf.len,own_keepR hf.own hy he2 hg,fun g hx=>Nat.lt_of_lt_of_le (hf.row g hx) hg.size,Nat.le_refl _,fun r hr=>by
  have:=hf.ins r hr
  have h2:=this.1.grown hg (this.1.neR hy he)
  exact ⟨h2,this.2.1,h2.lt⟩,hf.nod⟩
abbrev sayP (p:Hp) (g n c:Nat):Hp:=⟨p.o,p.c,p.l,p.n,nilS,⟨some ⟨g,0,none⟩,n,c⟩⟩
theorem HX.said {i o a b s:Int} {w1 x:World} {g c:Nat} (k:HX lo u G h p R) (hl:lo≤u.heap.size) (hb:Below u.heap.size u w1) {y:World} (hg:w1.grownBy y p.s.v.ownBlock) (hs:y.ownsRow lo 82 6 (.slice (some ⟨g,0,none⟩) (p.s.n+1) c) (p.s.n+1) (scells h.said ++ scell ⟨i,i,o,a,b,s⟩))
  (hgG:y.grownBy x (some G)) (X:BxA x G 35 (hC (sayH h i o a b s) (sayP p g (p.s.n+1) c))):HX lo x G (sayH h i o a b s) (sayP p g (p.s.n+1) c) R∧Below lo u x:=by
 have k1:=k.up hb
 have ks:=k1.hw.ow.s
 have bxy:BxA y G 35 (hC h p):=k1.bx.grown hg (own_neB ks k1.bx (by decide))
 have ro:=own_keepG (own_keepR k1.hw.ow.o ks (by decide) hg) bxy (by decide) hgG
 have rc:=own_keepG (own_keepR k1.hw.ow.c ks (by decide) hg) bxy (by decide) hgG
 have rn:=own_keepG (own_keepR k1.hw.ow.n ks (by decide) hg) bxy (by decide) hgG
 have rl:=FB.keepG (FB.keepR k1.hw.ow.l ks (by decide) (by decide) hg) bxy hgG
 have rs:=own_keepG hs bxy (by decide) hgG
 refine ⟨⟨X,k.ge,⟨ro,rc,rl,k.hw.ow.r,rn,World.ownsRow_nil _ _ _ _,?_⟩,⟨k.hw.sp.on,k.hw.sp.orr,k.hw.sp.nr⟩,fun b hb=>by simp [Value.ownBlock]⟩,?_⟩
 ·show x.ownsRow lo 82 6 (.slice (some ⟨g,0,none⟩) (p.s.n+1) c) (p.s.n+1) (scells (h.said ++ [⟨i,i,o,a,b,s⟩]))
  rw [scells_snoc]
  exact rs
 ·have b1:Below lo u w1:=hb.mono hl
  have b2:=b1.grown hg (Nat.le_trans hl hb.size) (fun j hj=>(ks.lt j hj).1)
  exact b2.grown hgG (Nat.le_trans hl b2.size) (fun j hj=>by cases hj;exact k.ge)
end
end Go.Proofs.YtnagchanokbgdaaGreat
namespace Go.Proofs.YtnagchanokbgdaaGreat
open Go.RowKit
set_option maxRecDepth 100000 in
set_option maxHeartbeats 8000000 in
theorem pSay_any {lo G:Nat} {h:Hd} {p:Hp} {R:List Rw} (i o a b s:Int) (u:World) (k:HX lo u G h p R) (hl:lo≤u.heap.size) (hn:p.s.n≤1000) :
  Calls Tryz.prog 111 #[.pointer (some ⟨G,0,none⟩),.agg #[.int .i64 i,.int .i64 o,.int .i64 a,.int .i64 b],.int .i64 s] u fun e v=>e=.returned (.int .i64 1)∧(∃ g c,HX lo v G (sayH h i o a b s) (sayP p g (p.s.n+1) c) R)∧Below lo u v:=by
 obtain ⟨i0,hi,hz0,hz1,hz2⟩:=info_parts infoSd
 have HK:=hideIt k
 have lG:G<u.heap.size:=k.bx.lt
 have HL:=hideIt hl
 have x14:u.cell? ⟨G,14,none⟩=some (.slice p.s.a p.s.n p.s.c):=k.bx.cell 14 rfl
 have f14:=k.bx.frozen 14
 have HA:Hid (∀ (y w1:World),Below u.heap.size u y→y.grownBy w1 p.s.v.ownBlock→w1.cell? ⟨G,14,none⟩=some (.slice p.s.a p.s.n p.s.c)∧w1.frozen? ⟨G,14,none⟩=false∧BxA w1 G 35 (hC h p)):=fun y w1 hb hg=>by
  have Y:=(HK.out.up hb).bx.grown hg (own_neB (HK.out.up hb).hw.ow.s (HK.out.up hb).bx (by decide))
  exact ⟨Y.cell 14 rfl,Y.frozen 14,Y⟩
 have b0:Below u.heap.size u ((u.alloc (.cells #[.int .i64 i,.int .i64 o,.int .i64 a,.int .i64 b] 28)).alloc (.cells #[.int .i64 i,.int .i64 i,.int .i64 o,.int .i64 a,.int .i64 b,.int .i64 s] 82)):=(belA _ _).alloc (by simp) _
 have HNw:Hid (((u.alloc (.cells #[.int .i64 i,.int .i64 o,.int .i64 a,.int .i64 b] 28)).alloc (.cells #[.int .i64 i,.int .i64 i,.int .i64 o,.int .i64 a,.int .i64 b,.int .i64 s] 82)).drew.heap[u.heap.size+1]?=some (.cells #[.int .i64 i,.int .i64 i,.int .i64 o,.int .i64 a,.int .i64 b,.int .i64 s] 82 (0,0))∧((u.alloc (.cells #[.int .i64 i,.int .i64 o,.int .i64 a,.int .i64 b] 28)).drew.alloc (.cells #[.int .i64 i,.int .i64 i,.int .i64 o,.int .i64 a,.int .i64 b,.int .i64 s] 82)).heap[u.heap.size+1]?=some (.cells #[.int .i64 i,.int .i64 i,.int .i64 o,.int .i64 a,.int .i64 b,.int .i64 s] 82 (0,0))):=by
  have h:=heap_alloc_new (u.alloc (.cells #[.int .i64 i,.int .i64 o,.int .i64 a,.int .i64 b] 28)) (.cells #[.int .i64 i,.int .i64 i,.int .i64 o,.int .i64 a,.int .i64 b,.int .i64 s] 82)
  rw [show (u.alloc (.cells #[.int .i64 i,.int .i64 o,.int .i64 a,.int .i64 b] 28)).heap.size=u.heap.size+1 by simp] at h
  exact ⟨h,h⟩
 have HBe:Hid (Below u.heap.size u ((u.alloc (.cells #[.int .i64 i,.int .i64 o,.int .i64 a,.int .i64 b] 28)).alloc (.cells #[.int .i64 i,.int .i64 i,.int .i64 o,.int .i64 a,.int .i64 b,.int .i64 s] 82)).drew∧Below u.heap.size u ((u.alloc (.cells #[.int .i64 i,.int .i64 o,.int .i64 a,.int .i64 b] 28)).drew.alloc (.cells #[.int .i64 i,.int .i64 i,.int .i64 o,.int .i64 a,.int .i64 b,.int .i64 s] 82))):=⟨b0.drew,(belA _ _).drew.alloc (by simp) _⟩
 clear k hl b0
 go_enter Tryz.func111,Tryz.ntmps111
 go_wp2
 go_region_law (refine step_append_lies _ (by rfl) _ _ _ (by rfl) lo 82 i0 _ 6 48 Tryz.underlying33 hi hz0 hz1 hz2 rfl (by omega) _ p.s.n (scells h.said) (by rfl) (by first | exact (HK.out.up HBe.out.1).hw.ow.s | exact (HK.out.up HBe.out.2).hw.ow.s) ⟨u.heap.size+1,0,none⟩ 1 1 [.int .i64 i,.int .i64 i,.int .i64 o,.int .i64 a,.int .i64 b,.int .i64 s] (by rfl) (by rfl) (World.news_of_block (cs:=#[.int .i64 i,.int .i64 i,.int .i64 o,.int .i64 a,.int .i64 b,.int .i64 s]) (t:=82) (fr:=(0,0)) (by first | exact HNw.out.1 | exact HNw.out.2)) (by simp [Value.oneCell']) (by omega) (by unfold maxLen;omega) (by omega) (by have:=HL.out;simp;omega) (u.heap.size+2) (by simp) ?_;intro g1 cap1 w1 hown1 hg1 hat1 hlt1;obtain ⟨q14,qf14,Y⟩:=(by first | exact HA.out _ w1 HBe.out.1 hg1 | exact HA.out _ w1 HBe.out.2 hg1:w1.cell? ⟨G,14,none⟩=some (.slice p.s.a p.s.n p.s.c)∧w1.frozen? ⟨G,14,none⟩=false∧BxA w1 G 35 (hC h p)))
 all_goals
  have HSd:Hid (∀ x,w1.grownBy x (some G)→BxA x G 35 (hC (sayH h i o a b s) (sayP p g1 (p.s.n+1) cap1))→HX lo x G (sayH h i o a b s) (sayP p g1 (p.s.n+1) cap1) R∧Below lo u x):=fun x hx X=>by
   first
   | exact HK.out.said HL.out HBe.out.1 hg1 hown1 hx X
   | exact HK.out.said HL.out HBe.out.2 hg1 hown1 hx X
  have hY:=Y.set 14 (.slice (some ⟨g1,0,none⟩) (p.s.n+1) cap1)
  have hZ:BxA (w1.setCell ⟨G,14,none⟩ (.slice (some ⟨g1,0,none⟩) (p.s.n+1) cap1)) G 35 (hC h ⟨p.o,p.c,p.l,p.n,p.e,⟨some ⟨g1,0,none⟩,p.s.n+1,cap1⟩⟩):=hY
  have hG0:=grownSet w1 G 14 (.slice (some ⟨g1,0,none⟩) (p.s.n+1) cap1)
  obtain ⟨W2,hW2⟩:∃ W2,W2=w1.setCell ⟨G,14,none⟩ (.slice (some ⟨g1,0,none⟩) (p.s.n+1) cap1):=⟨_,rfl⟩
  clear hown1 hg1 hat1 HNw HBe HA HK Y hY x14 f14
  go_upto_region 2 with fail
  rw [← hW2] at hZ hG0 ⊢
  clear hW2 q14 qf14
  have z5:=hZ.cell 5 rfl
  have z6:=hZ.cell 6 rfl
  have z7:=hZ.cell 7 rfl
  have z8:=hZ.cell 8 rfl
  have z9:=hZ.cell 9 rfl
  have z10:=hZ.cell 10 rfl
  have z11:=hZ.cell 11 rfl
  have z12:=hZ.cell 12 rfl
  have z13:=hZ.cell 13 rfl
  have fz5:=hZ.frozen 5
  have fz6:=hZ.frozen 6
  have fz7:=hZ.frozen 7
  have fz8:=hZ.frozen 8
  have fz9:=hZ.frozen 9
  have fz10:=hZ.frozen 10
  have fz11:=hZ.frozen 11
  have fz12:=hZ.frozen 12
  have fz13:=hZ.frozen 13
  have XF:=BxA.setA (l:=hLs h ⟨p.o,p.c,p.l,p.n,p.e,⟨some ⟨g1,0,none⟩,p.s.n+1,cap1⟩⟩) hZ 5 [.int .i64 0,.int .i64 0,.int .i64 0,.int .i64 0,.int .i64 0,.int .i64 0,.int .i64 0,.slice none 0 0,.int .i64 0]
  have HFin:=hideIt (HSd.out (setA W2 G 5 [.int .i64 0,.int .i64 0,.int .i64 0,.int .i64 0,.int .i64 0,.int .i64 0,.int .i64 0,.slice none 0 0,.int .i64 0]) (setA_gr w1 G _ 5 W2 hG0) XF)
  clear hZ hG0 HSd XF
  go_wp2
  go_ret
  exact ⟨rfl,⟨g1,cap1,HFin.out.1⟩,HFin.out.2⟩
set_option maxRecDepth 100000 in
set_option maxHeartbeats 8000000 in
theorem sSay_any {lo G:Nat} {h:Hd} {p:Hp} {R:List Rw} (i o a b s:Int) (u:World) (k:HX lo u G h p R) (hl:lo≤u.heap.size) (hn:p.s.n≤1000) :
  Calls Tryz.prog 50 #[.pointer (some ⟨G,0,none⟩),.agg #[.int .i64 i,.int .i64 o,.int .i64 a,.int .i64 b],.int .i64 s] u fun e v=>e=.returned (.tuple #[])∧(∃ g c,HX lo v G (sayH h i o a b s) (sayP p g (p.s.n+1) c) R)∧Below lo u v:=by
 obtain ⟨i0,hi,hz0,hz1,hz2⟩:=info_parts infoSd
 have HK:=hideIt k
 have lG:G<u.heap.size:=k.bx.lt
 have HL:=hideIt hl
 have x14:u.cell? ⟨G,14,none⟩=some (.slice p.s.a p.s.n p.s.c):=k.bx.cell 14 rfl
 have f14:=k.bx.frozen 14
 have HA:Hid (∀ (y w1:World),Below u.heap.size u y→y.grownBy w1 p.s.v.ownBlock→w1.cell? ⟨G,14,none⟩=some (.slice p.s.a p.s.n p.s.c)∧w1.frozen? ⟨G,14,none⟩=false∧BxA w1 G 35 (hC h p)):=fun y w1 hb hg=>by
  have Y:=(HK.out.up hb).bx.grown hg (own_neB (HK.out.up hb).hw.ow.s (HK.out.up hb).bx (by decide))
  exact ⟨Y.cell 14 rfl,Y.frozen 14,Y⟩
 have b0:Below u.heap.size u ((u.alloc (.cells #[.int .i64 i,.int .i64 o,.int .i64 a,.int .i64 b] 28)).alloc (.cells #[.int .i64 i,.int .i64 i,.int .i64 o,.int .i64 a,.int .i64 b,.int .i64 s] 82)):=(belA _ _).alloc (by simp) _
 have HNw:Hid (((u.alloc (.cells #[.int .i64 i,.int .i64 o,.int .i64 a,.int .i64 b] 28)).alloc (.cells #[.int .i64 i,.int .i64 i,.int .i64 o,.int .i64 a,.int .i64 b,.int .i64 s] 82)).drew.heap[u.heap.size+1]?=some (.cells #[.int .i64 i,.int .i64 i,.int .i64 o,.int .i64 a,.int .i64 b,.int .i64 s] 82 (0,0))∧((u.alloc (.cells #[.int .i64 i,.int .i64 o,.int .i64 a,.int .i64 b] 28)).drew.alloc (.cells #[.int .i64 i,.int .i64 i,.int .i64 o,.int .i64 a,.int .i64 b,.int .i64 s] 82)).heap[u.heap.size+1]?=some (.cells #[.int .i64 i,.int .i64 i,.int .i64 o,.int .i64 a,.int .i64 b,.int .i64 s] 82 (0,0))):=by
  have h:=heap_alloc_new (u.alloc (.cells #[.int .i64 i,.int .i64 o,.int .i64 a,.int .i64 b] 28)) (.cells #[.int .i64 i,.int .i64 i,.int .i64 o,.int .i64 a,.int .i64 b,.int .i64 s] 82)
  rw [show (u.alloc (.cells #[.int .i64 i,.int .i64 o,.int .i64 a,.int .i64 b] 28)).heap.size=u.heap.size+1 by simp] at h
  exact ⟨h,h⟩
 have HBe:Hid (Below u.heap.size u ((u.alloc (.cells #[.int .i64 i,.int .i64 o,.int .i64 a,.int .i64 b] 28)).alloc (.cells #[.int .i64 i,.int .i64 i,.int .i64 o,.int .i64 a,.int .i64 b,.int .i64 s] 82)).drew∧Below u.heap.size u ((u.alloc (.cells #[.int .i64 i,.int .i64 o,.int .i64 a,.int .i64 b] 28)).drew.alloc (.cells #[.int .i64 i,.int .i64 i,.int .i64 o,.int .i64 a,.int .i64 b,.int .i64 s] 82))):=⟨b0.drew,(belA _ _).drew.alloc (by simp) _⟩
 clear k hl b0
 go_enter Tryz.func50,Tryz.ntmps50
 go_wp2
 go_region_law (refine step_append_lies _ (by rfl) _ _ _ (by rfl) lo 82 i0 _ 6 48 Tryz.underlying33 hi hz0 hz1 hz2 rfl (by omega) _ p.s.n (scells h.said) (by rfl) (by first | exact (HK.out.up HBe.out.1).hw.ow.s | exact (HK.out.up HBe.out.2).hw.ow.s) ⟨u.heap.size+1,0,none⟩ 1 1 [.int .i64 i,.int .i64 i,.int .i64 o,.int .i64 a,.int .i64 b,.int .i64 s] (by rfl) (by rfl) (World.news_of_block (cs:=#[.int .i64 i,.int .i64 i,.int .i64 o,.int .i64 a,.int .i64 b,.int .i64 s]) (t:=82) (fr:=(0,0)) (by first | exact HNw.out.1 | exact HNw.out.2)) (by simp [Value.oneCell']) (by omega) (by unfold maxLen;omega) (by omega) (by have:=HL.out;simp;omega) (u.heap.size+2) (by simp) ?_;intro g1 cap1 w1 hown1 hg1 hat1 hlt1;obtain ⟨q14,qf14,Y⟩:=(by first | exact HA.out _ w1 HBe.out.1 hg1 | exact HA.out _ w1 HBe.out.2 hg1:w1.cell? ⟨G,14,none⟩=some (.slice p.s.a p.s.n p.s.c)∧w1.frozen? ⟨G,14,none⟩=false∧BxA w1 G 35 (hC h p)))
 all_goals
  have HSd:Hid (∀ x,w1.grownBy x (some G)→BxA x G 35 (hC (sayH h i o a b s) (sayP p g1 (p.s.n+1) cap1))→HX lo x G (sayH h i o a b s) (sayP p g1 (p.s.n+1) cap1) R∧Below lo u x):=fun x hx X=>by
   first
   | exact HK.out.said HL.out HBe.out.1 hg1 hown1 hx X
   | exact HK.out.said HL.out HBe.out.2 hg1 hown1 hx X
  have hY:=Y.set 14 (.slice (some ⟨g1,0,none⟩) (p.s.n+1) cap1)
  have hZ:BxA (w1.setCell ⟨G,14,none⟩ (.slice (some ⟨g1,0,none⟩) (p.s.n+1) cap1)) G 35 (hC h ⟨p.o,p.c,p.l,p.n,p.e,⟨some ⟨g1,0,none⟩,p.s.n+1,cap1⟩⟩):=hY
  have hG0:=grownSet w1 G 14 (.slice (some ⟨g1,0,none⟩) (p.s.n+1) cap1)
  obtain ⟨W2,hW2⟩:∃ W2,W2=w1.setCell ⟨G,14,none⟩ (.slice (some ⟨g1,0,none⟩) (p.s.n+1) cap1):=⟨_,rfl⟩
  clear hown1 hg1 hat1 HNw HBe HA HK Y hY x14 f14
  go_upto_region 2 with fail
  rw [← hW2] at hZ hG0 ⊢
  clear hW2 q14 qf14
  have z5:=hZ.cell 5 rfl
  have z6:=hZ.cell 6 rfl
  have z7:=hZ.cell 7 rfl
  have z8:=hZ.cell 8 rfl
  have z9:=hZ.cell 9 rfl
  have z10:=hZ.cell 10 rfl
  have z11:=hZ.cell 11 rfl
  have z12:=hZ.cell 12 rfl
  have z13:=hZ.cell 13 rfl
  have fz5:=hZ.frozen 5
  have fz6:=hZ.frozen 6
  have fz7:=hZ.frozen 7
  have fz8:=hZ.frozen 8
  have fz9:=hZ.frozen 9
  have fz10:=hZ.frozen 10
  have fz11:=hZ.frozen 11
  have fz12:=hZ.frozen 12
  have fz13:=hZ.frozen 13
  have XF:=BxA.setA (l:=hLs h ⟨p.o,p.c,p.l,p.n,p.e,⟨some ⟨g1,0,none⟩,p.s.n+1,cap1⟩⟩) hZ 5 [.int .i64 0,.int .i64 0,.int .i64 0,.int .i64 0,.int .i64 0,.int .i64 0,.int .i64 0,.slice none 0 0,.int .i64 0]
  have HFin:=hideIt (HSd.out (setA W2 G 5 [.int .i64 0,.int .i64 0,.int .i64 0,.int .i64 0,.int .i64 0,.int .i64 0,.int .i64 0,.slice none 0 0,.int .i64 0]) (setA_gr w1 G _ 5 W2 hG0) XF)
  clear hZ hG0 HSd XF
  go_wp2
  exact bodyPost_end (v:=.tuple #[]) (results_none rfl _ _ _) rfl ⟨rfl,⟨g1,cap1,HFin.out.1⟩,HFin.out.2⟩
end Go.Proofs.YtnagchanokbgdaaGreat
namespace Go.Proofs.YtnagchanokbgdaaGreat
open Go.RowKit
abbrev ordP (p:Hp) (e:Sx):Hp:=⟨p.o,p.c,p.l,p.n,e,p.s⟩
theorem HX.ordered {lo G:Nat} {u x:World} {h h':Hd} {p:Hp} {R:List Rw} {e:Sx} (k:HX lo u G h p R) (h1:h'.own=h.own) (h2:h'.cuts=h.cuts) (h3:h'.lab=h.lab) (h4:h'.nums=h.nums) (h5:h'.said=h.said) (hE:u.ownsRow lo 107 2 e.v e.n (O.ecells h'.es)) (hce:∀ b,p.c.v.ownBlock=some b→e.v.ownBlock≠some b)
  (hg:u.grownBy x (some G)) (X:BxA x G 35 (hC h' (ordP p e))):HX lo x G h' (ordP p e) R :=
 ⟨X,k.ge,⟨by rw [h1];exact own_keepG k.hw.ow.o k.bx (by decide) hg,by rw [h2];exact own_keepG k.hw.ow.c k.bx (by decide) hg,FB.keepG k.hw.ow.l k.bx hg,by rw [h3];exact k.hw.ow.r,by rw [h4];exact own_keepG k.hw.ow.n k.bx (by decide) hg,own_keepG hE k.bx (by decide) hg,by rw [h5];exact own_keepG k.hw.ow.s k.bx (by decide) hg⟩,⟨k.hw.sp.on,k.hw.sp.orr,k.hw.sp.nr⟩,hce⟩
set_option maxRecDepth 100000 in
set_option maxHeartbeats 8000000 in
theorem pOrder_any {lo G:Nat} {h:Hd} {p:Hp} {R:List Rw} (i o a b:Int) (s:Nat) (n0 op vv:Int) (es:List O.EdgeV) (aE:Option Addr) (nE cE:Nat) (u:World) (k:HX lo u G h p R) (hl:lo≤u.heap.size) (hs:s<h.nums.length) (hs3:s≤2) (hb1:∀ y ∈ h.nums,0≤y∧y≤1000)
  (hE:u.ownsRow lo 107 2 (.slice aE nE cE) nE (O.ecells es)) (hce:∀ b,p.c.v.ownBlock=some b→(Value.slice aE nE cE).ownBlock≠some b) :
  Calls Tryz.prog 138 #[.pointer (some ⟨G,0,none⟩),.agg #[.int .i64 i,.int .i64 o,.int .i64 a,.int .i64 b],.int .i64 ((s:Int)+1),.agg #[.int .i64 n0,.int .i64 op,.slice aE nE cE,.int .i64 vv]] u fun e v=>e=.returned (.int .i64 2)∧HX lo v G (ordH h i o a b ((s:Int)+1) op es vv) (ordP p ⟨aE,nE,cE⟩) R∧Below lo u v:=by
 obtain ⟨x,hx⟩:∃ x,x=O.atI h.nums ((s:Int)+1 - 1):=⟨_,rfl⟩
 have hm:=atI_mem (ls:=h.nums) (v:=(s:Int)+1 - 1) (by omega) (by omega)
 rw [← hx] at hm
 have hxb:=hb1 x hm.1
 have hm2:=hm.2
 rw [show ((s:Int)+1 - 1).toNat=s by omega] at hm2
 have hNl:h.nums.length=p.n.n:=(Is_own k.hw.ow.n).1
 obtain ⟨pO,pC,pL,⟨aN,nN,cN⟩,pE,pS⟩:=p
 dsimp only at hNl
 obtain ⟨bn,on,rfl,hbn,hcn⟩:∃ bn on,aN=some ⟨bn,on,none⟩∧bn<u.heap.size∧u.cell? ⟨bn,on+s,none⟩=some (.int .i64 x):=by
  rcases (Is_own k.hw.ow.n).2 with h0 | ⟨bn,on,e,hb,hc⟩
  ·dsimp only at h0;omega
  ·exact ⟨bn,on,e,hb,hc _ _ hm2⟩
 obtain ⟨W,hW⟩:∃ W,W=(u.alloc (.cells #[.int .i64 i,.int .i64 o,.int .i64 a,.int .i64 b] 28)).alloc (.cells #[.int .i64 n0,.int .i64 op,.slice aE nE cE,.int .i64 vv] 30):=⟨_,rfl⟩
 have bW:Below u.heap.size u W:=by rw [hW];exact (belA _ _).alloc (by simp) _
 have XA:BxA W u.heap.size 28 #[.int .i64 i,.int .i64 o,.int .i64 a,.int .i64 b]:=by rw [hW];exact (BxA.new u _ _).up (belA _ _)
 have XO:BxA W (u.heap.size+1) 30 #[.int .i64 n0,.int .i64 op,.slice aE nE cE,.int .i64 vv]:=by
  have:=BxA.new (u.alloc (.cells #[.int .i64 i,.int .i64 o,.int .i64 a,.int .i64 b] 28)) 30 #[.int .i64 n0,.int .i64 op,.slice aE nE cE,.int .i64 vv]
  rw [show (u.alloc (.cells #[.int .i64 i,.int .i64 o,.int .i64 a,.int .i64 b] 28)).heap.size=u.heap.size+1 by simp] at this
  rw [hW];exact this
 have lG:G<u.heap.size:=k.bx.lt
 have HK:=hideIt k
 have HE:=hideIt hE
 have Hce:=hideIt hce
 have HB:=hideIt bW
 have HL:=hideIt hl
 have g4:W.cell? ⟨G,4,none⟩=some (.slice (some ⟨bn,on,none⟩) nN cN):=(k.bx.up bW).cell 4 rfl
 have c0:W.cell? ⟨bn,on+s,none⟩=some (.int .i64 x):=by rw [bW.cell (p:=⟨bn,on+s,none⟩) hbn];exact hcn
 have o0:=XO.cell 0 rfl
 have fo0:=XO.frozen 0
 have HXA:=hideIt XA
 have HXO:=hideIt XO
 have q1:(0:Int)≤(s:Int):=by omega
 have q2:(s:Int)<(nN:Int):=by omega
 have Hx:=hideIt hx
 have w0:wrap64 (s:Int)=(s:Int):=by unfold wrap64;omega
 clear k hl hb1 hE hce hm hm2 hNl hbn hcn bW XA XO hx hs
 go_enter Tryz.func138,Tryz.ntmps138
 go_upto_region 1 with fail
 rw [← hW]
 clear hW
 go_upto_region 2 with fail
 obtain ⟨W2,hW2⟩:∃ W2,W2=W.setCell ⟨u.heap.size+1,0,none⟩ (.int .i64 (x+1)):=⟨_,rfl⟩
 rw [← hW2]
 have b2:Below u.heap.size u W2:=by rw [hW2];exact Below.setCell HB.out (p:=⟨u.heap.size+1,0,none⟩) (by show u.heap.size≤u.heap.size+1;omega) _
 have YA:BxA W2 u.heap.size 28 #[.int .i64 i,.int .i64 o,.int .i64 a,.int .i64 b]:=by rw [hW2];exact HXA.out.setO _ (by omega)
 have YO:BxA W2 (u.heap.size+1) 30 #[.int .i64 (x+1),.int .i64 op,.slice aE nE cE,.int .i64 vv]:=by rw [hW2];exact HXO.out.set 0 _
 have k2:=HK.out.up b2
 have y0:=YA.cell 0 rfl
 have y1:=YA.cell 1 rfl
 have y2:=YA.cell 2 rfl
 have y3:=YA.cell 3 rfl
 have i0:=YO.cell 0 rfl
 have i1:=YO.cell 1 rfl
 have i2:=YO.cell 2 rfl
 have i3:=YO.cell 3 rfl
 have z5:=k2.bx.cell 5 rfl
 have z6:=k2.bx.cell 6 rfl
 have z7:=k2.bx.cell 7 rfl
 have z8:=k2.bx.cell 8 rfl
 have z9:=k2.bx.cell 9 rfl
 have z10:=k2.bx.cell 10 rfl
 have z11:=k2.bx.cell 11 rfl
 have z12:=k2.bx.cell 12 rfl
 have z13:=k2.bx.cell 13 rfl
 have fz5:=k2.bx.frozen 5
 have fz6:=k2.bx.frozen 6
 have fz7:=k2.bx.frozen 7
 have fz8:=k2.bx.frozen 8
 have fz9:=k2.bx.frozen 9
 have fz10:=k2.bx.frozen 10
 have fz11:=k2.bx.frozen 11
 have fz12:=k2.bx.frozen 12
 have fz13:=k2.bx.frozen 13
 have XF:=BxA.setA (l:=hLs h ⟨pO,pC,pL,⟨some ⟨bn,on,none⟩,nN,cN⟩,pE,pS⟩) k2.bx 5 [.int .i64 i,.int .i64 o,.int .i64 a,.int .i64 b,.int .i64 ((s:Int)+1),.int .i64 (x+1),.int .i64 op,.slice aE nE cE,.int .i64 vv]
 have hgr:=setA_gr W2 G [.int .i64 i,.int .i64 o,.int .i64 a,.int .i64 b,.int .i64 ((s:Int)+1),.int .i64 (x+1),.int .i64 op,.slice aE nE cE,.int .i64 vv] 5 W2 (gr_self W2 _)
 have HFin:=hideIt (k2.ordered (h':=ordH h i o a b ((s:Int)+1) op es vv) (e:=⟨aE,nE,cE⟩) rfl rfl rfl rfl rfl (own_up HE.out b2) Hce.out hgr (by
  have e:ordH h i o a b ((s:Int)+1) op es vv=⟨h.N,h.own,h.cuts,h.lab,h.nums,i,o,a,b,(s:Int)+1,x+1,op,es,vv,h.said⟩:=by rw [Hx.out];rfl
  rw [e]
  exact XF))
 have HBl:=hideIt (below_grB (C:=lo) (b2.mono HL.out) hgr HK.out.ge HL.out)
 clear hW2 b2 YA YO k2 XF hgr HK HE Hce HB HXA HXO g4 c0 o0 fo0
 go_wp2
 go_ret
 exact ⟨rfl,HFin.out,HBl.out⟩
set_option maxRecDepth 100000 in
set_option maxHeartbeats 8000000 in
theorem sTask_any {lo G:Nat} {h:Hd} {p:Hp} {R:List Rw} (i o a b:Int) (s:Nat) (n0 op vv:Int) (es:List O.EdgeV) (aE:Option Addr) (nE cE:Nat) (u:World) (k:HX lo u G h p R) (hl:lo≤u.heap.size) (hs:s<h.nums.length) (hs3:s≤2) (hb1:∀ y ∈ h.nums,0≤y∧y≤1000)
  (hE:u.ownsRow lo 107 2 (.slice aE nE cE) nE (O.ecells es)) (hce:∀ b,p.c.v.ownBlock=some b→(Value.slice aE nE cE).ownBlock≠some b) :
  Calls Tryz.prog 52 #[.pointer (some ⟨G,0,none⟩),.agg #[.int .i64 i,.int .i64 o,.int .i64 a,.int .i64 b],.int .i64 ((s:Int)+1),.agg #[.int .i64 n0,.int .i64 op,.slice aE nE cE,.int .i64 vv]] u fun e v=>e=.returned (.int .i64 2)∧HX lo v G (ordH h i o a b ((s:Int)+1) op es vv) (ordP p ⟨aE,nE,cE⟩) R∧Below lo u v∧∀ b,b<u.heap.size→b≠G→v.heap[b]?=u.heap[b]?:=by
 obtain ⟨x,hx⟩:∃ x,x=O.atI h.nums ((s:Int)+1 - 1):=⟨_,rfl⟩
 have hm:=atI_mem (ls:=h.nums) (v:=(s:Int)+1 - 1) (by omega) (by omega)
 rw [← hx] at hm
 have hxb:=hb1 x hm.1
 have hm2:=hm.2
 rw [show ((s:Int)+1 - 1).toNat=s by omega] at hm2
 have hNl:h.nums.length=p.n.n:=(Is_own k.hw.ow.n).1
 obtain ⟨pO,pC,pL,⟨aN,nN,cN⟩,pE,pS⟩:=p
 dsimp only at hNl
 obtain ⟨bn,on,rfl,hbn,hcn⟩:∃ bn on,aN=some ⟨bn,on,none⟩∧bn<u.heap.size∧u.cell? ⟨bn,on+s,none⟩=some (.int .i64 x):=by
  rcases (Is_own k.hw.ow.n).2 with h0 | ⟨bn,on,e,hb,hc⟩
  ·dsimp only at h0;omega
  ·exact ⟨bn,on,e,hb,hc _ _ hm2⟩
 obtain ⟨W,hW⟩:∃ W,W=(u.alloc (.cells #[.int .i64 i,.int .i64 o,.int .i64 a,.int .i64 b] 28)).alloc (.cells #[.int .i64 n0,.int .i64 op,.slice aE nE cE,.int .i64 vv] 30):=⟨_,rfl⟩
 have bW:Below u.heap.size u W:=by rw [hW];exact (belA _ _).alloc (by simp) _
 have XA:BxA W u.heap.size 28 #[.int .i64 i,.int .i64 o,.int .i64 a,.int .i64 b]:=by rw [hW];exact (BxA.new u _ _).up (belA _ _)
 have XO:BxA W (u.heap.size+1) 30 #[.int .i64 n0,.int .i64 op,.slice aE nE cE,.int .i64 vv]:=by
  have:=BxA.new (u.alloc (.cells #[.int .i64 i,.int .i64 o,.int .i64 a,.int .i64 b] 28)) 30 #[.int .i64 n0,.int .i64 op,.slice aE nE cE,.int .i64 vv]
  rw [show (u.alloc (.cells #[.int .i64 i,.int .i64 o,.int .i64 a,.int .i64 b] 28)).heap.size=u.heap.size+1 by simp] at this
  rw [hW];exact this
 have lG:G<u.heap.size:=k.bx.lt
 have HK:=hideIt k
 have HE:=hideIt hE
 have Hce:=hideIt hce
 have HB:=hideIt bW
 have HL:=hideIt hl
 have g4:W.cell? ⟨G,4,none⟩=some (.slice (some ⟨bn,on,none⟩) nN cN):=(k.bx.up bW).cell 4 rfl
 have c0:W.cell? ⟨bn,on+s,none⟩=some (.int .i64 x):=by rw [bW.cell (p:=⟨bn,on+s,none⟩) hbn];exact hcn
 have o0:=XO.cell 0 rfl
 have fo0:=XO.frozen 0
 have HXA:=hideIt XA
 have HXO:=hideIt XO
 have q1:(0:Int)≤(s:Int):=by omega
 have q2:(s:Int)<(nN:Int):=by omega
 have Hx:=hideIt hx
 have w0:wrap64 (s:Int)=(s:Int):=by unfold wrap64;omega
 clear k hl hb1 hE hce hm hm2 hNl hbn hcn bW XA XO hx hs
 go_enter Tryz.func52,Tryz.ntmps52
 go_upto_region 1 with fail
 rw [← hW]
 clear hW
 go_upto_region 2 with fail
 obtain ⟨W2,hW2⟩:∃ W2,W2=W.setCell ⟨u.heap.size+1,0,none⟩ (.int .i64 (x+1)):=⟨_,rfl⟩
 rw [← hW2]
 have b2:Below u.heap.size u W2:=by rw [hW2];exact Below.setCell HB.out (p:=⟨u.heap.size+1,0,none⟩) (by show u.heap.size≤u.heap.size+1;omega) _
 have YA:BxA W2 u.heap.size 28 #[.int .i64 i,.int .i64 o,.int .i64 a,.int .i64 b]:=by rw [hW2];exact HXA.out.setO _ (by omega)
 have YO:BxA W2 (u.heap.size+1) 30 #[.int .i64 (x+1),.int .i64 op,.slice aE nE cE,.int .i64 vv]:=by rw [hW2];exact HXO.out.set 0 _
 have k2:=HK.out.up b2
 have y0:=YA.cell 0 rfl
 have y1:=YA.cell 1 rfl
 have y2:=YA.cell 2 rfl
 have y3:=YA.cell 3 rfl
 have i0:=YO.cell 0 rfl
 have i1:=YO.cell 1 rfl
 have i2:=YO.cell 2 rfl
 have i3:=YO.cell 3 rfl
 have z5:=k2.bx.cell 5 rfl
 have z6:=k2.bx.cell 6 rfl
 have z7:=k2.bx.cell 7 rfl
 have z8:=k2.bx.cell 8 rfl
 have z9:=k2.bx.cell 9 rfl
 have z10:=k2.bx.cell 10 rfl
 have z11:=k2.bx.cell 11 rfl
 have z12:=k2.bx.cell 12 rfl
 have z13:=k2.bx.cell 13 rfl
 have fz5:=k2.bx.frozen 5
 have fz6:=k2.bx.frozen 6
 have fz7:=k2.bx.frozen 7
 have fz8:=k2.bx.frozen 8
 have fz9:=k2.bx.frozen 9
 have fz10:=k2.bx.frozen 10
 have fz11:=k2.bx.frozen 11
 have fz12:=k2.bx.frozen 12
 have fz13:=k2.bx.frozen 13
 have XF:=BxA.setA (l:=hLs h ⟨pO,pC,pL,⟨some ⟨bn,on,none⟩,nN,cN⟩,pE,pS⟩) k2.bx 5 [.int .i64 i,.int .i64 o,.int .i64 a,.int .i64 b,.int .i64 ((s:Int)+1),.int .i64 (x+1),.int .i64 op,.slice aE nE cE,.int .i64 vv]
 have hgr:=setA_gr W2 G [.int .i64 i,.int .i64 o,.int .i64 a,.int .i64 b,.int .i64 ((s:Int)+1),.int .i64 (x+1),.int .i64 op,.slice aE nE cE,.int .i64 vv] 5 W2 (gr_self W2 _)
 have HFin:=hideIt (k2.ordered (h':=ordH h i o a b ((s:Int)+1) op es vv) (e:=⟨aE,nE,cE⟩) rfl rfl rfl rfl rfl (own_up HE.out b2) Hce.out hgr (by
  have e:ordH h i o a b ((s:Int)+1) op es vv=⟨h.N,h.own,h.cuts,h.lab,h.nums,i,o,a,b,(s:Int)+1,x+1,op,es,vv,h.said⟩:=by rw [Hx.out];rfl
  rw [e]
  exact XF))
 have HBl:=hideIt (below_grB (C:=lo) (b2.mono HL.out) hgr HK.out.ge HL.out)
 have HEx:=hideIt (fun b (h1:b<u.heap.size) (h2:b≠G)=>(hgr.block b (Nat.lt_of_lt_of_le h1 b2.size) (fun e=>h2 (Option.some.inj e))).trans (b2.block b h1))
 clear hW2 b2 YA YO k2 XF hgr HK HE Hce HB HXA HXO g4 c0 o0 fo0
 go_wp2
 go_ret
 exact ⟨rfl,HFin.out,HBl.out,HEx.out⟩
end Go.Proofs.YtnagchanokbgdaaGreat
namespace Go.Proofs.YtnagchanokbgdaaGreat
open Go.RowKit
def edA (xa xb:Int):O.EdgeV:=(min xa xb,max xa xb)
theorem askEdge_any (xi xo xa xb:Int) (w:World):Calls Tryz.prog 150 #[.agg #[.int .i64 xi,.int .i64 xo,.int .i64 xa,.int .i64 xb]] w fun e w'=>e=.returned (.agg #[.int .i64 (edA xa xb).1,.int .i64 (edA xa xb).2])∧Below w.heap.size w w':=by
 go_enter Tryz.func150,Tryz.ntmps150
 go_wp2
 exact bodyPost_ret (v:=.agg #[.int .i64 (min xa xb),.int .i64 (max xa xb)]) (by simp [results,Tryz.results150,go_sem]) rfl ⟨rfl,((Below.refl _ _).alloc (Nat.le_refl _) _).alloc (by simp) _⟩
theorem l12Edge_any (xi xo xa xb:Int) (w:World):Calls Tryz.prog 77 #[.agg #[.int .i64 xi,.int .i64 xo,.int .i64 xa,.int .i64 xb]] w fun e w'=>e=.returned (.agg #[.int .i64 (edA xa xb).1,.int .i64 (edA xa xb).2])∧Below w.heap.size w w':=by
 by_cases h:xa<xb
 ·have d1:decide (xa<xb)=true:=decide_eq_true h
  have e1:edA xa xb=(xa,xb):=by unfold edA;rw [Int.min_eq_left (by omega),Int.max_eq_right (by omega)]
  rw [e1]
  clear h e1
  go_enter Tryz.func77,Tryz.ntmps77
  go_wp2
  exact bodyPost_ret (v:=.agg #[.int .i64 xa,.int .i64 xb]) (by simp [results,Tryz.results77,go_sem]) rfl ⟨rfl,((Below.refl _ _).alloc (Nat.le_refl _) _).alloc (by simp) _⟩
 ·have d1:decide (xa<xb)=false:=decide_eq_false h
  have e1:edA xa xb=(xb,xa):=by unfold edA;rw [Int.min_eq_right (by omega),Int.max_eq_left (by omega)]
  rw [e1]
  clear h e1
  go_enter Tryz.func77,Tryz.ntmps77
  go_wp2
  exact bodyPost_ret (v:=.agg #[.int .i64 xb,.int .i64 xa]) (by simp [results,Tryz.results77,go_sem]) rfl ⟨rfl,((Below.refl _ _).alloc (Nat.le_refl _) _).alloc (by simp) _⟩
theorem exec_loadH {o:Oper} {a:Act} {w:World} {x:Operand} {b:Nat} {h:Hd} {p:Hp} (ho:o.op=.load 35 x) (hx:a.eval x=.pointer (some ⟨b,0,none⟩)) (X:BxA w b 35 (hC h p)):(execOp a.eval o).run Tryz.prog w=.ok (.value (.agg (hC h p))) w:=by
 unfold execOp
 simp only [ho,hx,Instr.loadAt,Instr.sureAddr,Sem.run_bind,Sem.run_pure,Result.andThen_ok,run_loadVar_mid (P:=Tryz.prog) w b 0 35 (hLs h p) _ (BxA.range X) Tryz.underlying35 rfl (by kernel_rfl)]
set_option maxRecDepth 100000 in
set_option maxHeartbeats 4000000 in
theorem ms8t1 {G:Nat} {h:Hd} {p:Hp} (i a b:Int) (e0:(a == b)=false) (ha:0≤a∧a<h.N) (vb:Bool) (hvb:decide (0≤b∧b<h.N)=vb)  (w:World) (X:BxA w G 35 (hC h p)) :
  Calls Tryz.prog 110 #[.pointer (some ⟨G,0,none⟩),.agg #[.int .i64 i,.int .i64 1,.int .i64 a,.int .i64 b]] w fun e w'=>e=.returned (.bool vb)∧Below w.heap.size w w':=by
 obtain ⟨W,hW⟩:∃ W,W=w.alloc (.cells #[.int .i64 i,.int .i64 1,.int .i64 a,.int .i64 b] 28):=⟨_,rfl⟩
 have bW:Below w.heap.size w W:=by rw [hW];exact belA _ _
 have XA:BxA W w.heap.size 28 #[.int .i64 i,.int .i64 1,.int .i64 a,.int .i64 b]:=by rw [hW];exact BxA.new _ _ _
 have HB:=hideIt bW
 have HX:=hideIt (X.up bW)
 have HXA:=hideIt XA
 have HS:Hid (∀ u,Below W.heap.size W u→BxA u G 35 (hC h p)∧u.cell? ⟨w.heap.size,2,none⟩=some (.int .i64 a)∧u.cell? ⟨w.heap.size,3,none⟩=some (.int .i64 b)):=fun u hu=>⟨HX.out.up hu,(HXA.out.up hu).cell 2 rfl,(HXA.out.up hu).cell 3 rfl⟩
 have c0:=Below.refl W.heap.size W
 have x1:=XA.cell 1 rfl
 have x2:=XA.cell 2 rfl
 have x3:=XA.cell 3 rfl
 clear X XA bW
 have HVa:Hid (∀ u,Below W.heap.size W u→Calls Tryz.prog 133 #[.agg (hC h p),.int .i64 a] u fun e v=>e=.returned (.bool true)∧Below W.heap.size W v):=fun u hu=>(hasVertex_any h _ a u).mono fun e v ⟨h1,h2⟩=>⟨by rw [h1,decide_eq_true ha],hu.trans (h2.mono hu.size)⟩
 clear ha
 have HVb:Hid (∀ u,Below W.heap.size W u→Calls Tryz.prog 133 #[.agg (hC h p),.int .i64 b] u fun e v=>e=.returned (.bool vb)∧Below W.heap.size W v):=fun u hu=>(hasVertex_any h _ b u).mono fun e v ⟨h1,h2⟩=>⟨by rw [h1,hvb],hu.trans (h2.mono hu.size)⟩
 clear hvb
 go_enter Tryz.func110,Tryz.ntmps110
 go_upto_region 1 with fail
 rw [← hW]
 clear hW
 go_upto_region 8 with fail
 refine wp_region_held_drew (S:=(fun u=>BxA u G 35 (hC h p)∧u.cell? ⟨w.heap.size,2,none⟩=some (.int .i64 a)∧u.cell? ⟨w.heap.size,3,none⟩=some (.int .i64 b))) (by kernel_rfl) (HS.out _ c0.drew) (fun hHeld=>?_)
 refine tq0 (i:=0) (v:=?_) rfl ?_ (by assumption) ?_
 rotate_left
 ·intro w hSw;obtain ⟨_,za,zb⟩:=hSw;go_simp;try with_reducible rfl
 try simp only [Act.put,pS0,pT0]
 refine tq0 (i:=1) (v:=?_) rfl ?_ (by assumption) ?_
 rotate_left
 ·intro w hSw;obtain ⟨_,za,zb⟩:=hSw;go_simp;try with_reducible rfl
 try simp only [Act.put,pS0,pT0]
 refine tq0 (i:=2) (v:=.agg (hC h p)) rfl (fun w hSw=>exec_loadH rfl rfl hSw.1) (by assumption) ?_
 try simp only [Act.put,pS0,pT0]
 refine tq0 (i:=3) (v:=?_) rfl ?_ (by assumption) ?_
 rotate_left
 ·intro w hSw;obtain ⟨_,za,zb⟩:=hSw;go_simp;try with_reducible rfl
 try simp only [Act.put,pS0,pT0]
 refine tq0 (i:=4) (v:=?_) rfl ?_ (by assumption) ?_
 rotate_left
 ·intro w hSw;obtain ⟨_,za,zb⟩:=hSw;go_simp;try with_reducible rfl
 try simp only [Act.put,pS0,pT0]
 refine wpAnyH_ready (rs:=[5]) (by kernel_rfl) (by simp) ?_
 refine AllReadyH.cons rfl (fun K hK=>?_) AllReadyH.nil
 rw [if_pos]
 rotate_left
 ·kernel_rfl
 go_wp2_with (go_at_call 133;refine (HVa.out _ c0.drew).mono ?_;rintro e w2 ⟨rfl,c2⟩;refine Hid.out ?_)
 refine hidp20 ?_
 refine hK.out _ _ (HS.out _ c2) (fun hHeld=>?_)
 clear hK K
 try simp only [Act.put,pS0,pT0]
 refine tq0 (i:=6) (v:=?_) rfl ?_ (by assumption) ?_
 rotate_left
 ·intro w hSw;obtain ⟨_,za,zb⟩:=hSw;go_simp;try with_reducible rfl
 try simp only [Act.put,pS0,pT0]
 refine tq0 (i:=7) (v:=?_) rfl ?_ (by assumption) ?_
 rotate_left
 ·intro w hSw;obtain ⟨_,za,zb⟩:=hSw;go_simp;try with_reducible rfl
 try simp only [Act.put,pS0,pT0]
 refine tq0 (i:=8) (v:=?_) rfl ?_ (by assumption) ?_
 rotate_left
 ·intro w hSw;obtain ⟨_,za,zb⟩:=hSw;go_simp;try with_reducible rfl
 try simp only [Act.put,pS0,pT0]
 refine tq0 (i:=9) (v:=.agg (hC h p)) rfl (fun w hSw=>exec_loadH rfl rfl hSw.1) (by assumption) ?_
 try simp only [Act.put,pS0,pT0]
 refine tq0 (i:=10) (v:=?_) rfl ?_ (by assumption) ?_
 rotate_left
 ·intro w hSw;obtain ⟨_,za,zb⟩:=hSw;go_simp;try with_reducible rfl
 try simp only [Act.put,pS0,pT0]
 refine tq0 (i:=11) (v:=?_) rfl ?_ (by assumption) ?_
 rotate_left
 ·intro w hSw;obtain ⟨_,za,zb⟩:=hSw;go_simp;try with_reducible rfl
 try simp only [Act.put,pS0,pT0]
 refine wpAnyH_ready (rs:=[12]) (by kernel_rfl) (by simp) ?_
 refine AllReadyH.cons rfl (fun K hK=>?_) AllReadyH.nil
 rw [if_pos]
 rotate_left
 ·kernel_rfl
 go_wp2_with (go_at_call 133;refine (HVb.out _ c2).mono ?_;rintro e w3 ⟨rfl,c3⟩;refine Hid.out ?_)
 refine hidp20 ?_
 refine hK.out _ _ (HS.out _ c3) (fun hHeld=>?_)
 clear hK K
 try simp only [Act.put,pS0,pT0]
 refine tq0 (i:=13) (v:=?_) rfl ?_ (by assumption) ?_
 rotate_left
 ·intro w hSw;obtain ⟨_,za,zb⟩:=hSw;go_simp;try with_reducible rfl
 try simp only [Act.put,pS0,pT0]
 refine tq0 (i:=14) (v:=?_) rfl ?_ (by assumption) ?_
 rotate_left
 ·intro w hSw;obtain ⟨_,za,zb⟩:=hSw;go_simp;try with_reducible rfl
 try simp only [Act.put,pS0,pT0]
 refine wpAnyH_done (by kernel_rfl) ?_ _
 go_wp2
 go_ret
 exact ⟨rfl,HB.out.trans (c3.mono HB.out.size)⟩
set_option maxRecDepth 100000 in
set_option maxHeartbeats 4000000 in
theorem ms8f1 {G:Nat} {h:Hd} {p:Hp} (i a b:Int) (e0:(a == b)=false) (ha:¬ (0≤a∧a<h.N))  (w:World) (X:BxA w G 35 (hC h p)) :
  Calls Tryz.prog 110 #[.pointer (some ⟨G,0,none⟩),.agg #[.int .i64 i,.int .i64 1,.int .i64 a,.int .i64 b]] w fun e w'=>e=.returned (.bool false)∧Below w.heap.size w w':=by
 obtain ⟨W,hW⟩:∃ W,W=w.alloc (.cells #[.int .i64 i,.int .i64 1,.int .i64 a,.int .i64 b] 28):=⟨_,rfl⟩
 have bW:Below w.heap.size w W:=by rw [hW];exact belA _ _
 have XA:BxA W w.heap.size 28 #[.int .i64 i,.int .i64 1,.int .i64 a,.int .i64 b]:=by rw [hW];exact BxA.new _ _ _
 have HB:=hideIt bW
 have HX:=hideIt (X.up bW)
 have HXA:=hideIt XA
 have HS:Hid (∀ u,Below W.heap.size W u→BxA u G 35 (hC h p)∧u.cell? ⟨w.heap.size,2,none⟩=some (.int .i64 a)∧u.cell? ⟨w.heap.size,3,none⟩=some (.int .i64 b)):=fun u hu=>⟨HX.out.up hu,(HXA.out.up hu).cell 2 rfl,(HXA.out.up hu).cell 3 rfl⟩
 have c0:=Below.refl W.heap.size W
 have x1:=XA.cell 1 rfl
 have x2:=XA.cell 2 rfl
 have x3:=XA.cell 3 rfl
 clear X XA bW
 have HVa:Hid (∀ u,Below W.heap.size W u→Calls Tryz.prog 133 #[.agg (hC h p),.int .i64 a] u fun e v=>e=.returned (.bool false)∧Below W.heap.size W v):=fun u hu=>(hasVertex_any h _ a u).mono fun e v ⟨h1,h2⟩=>⟨by rw [h1,decide_eq_false ha],hu.trans (h2.mono hu.size)⟩
 clear ha
 go_enter Tryz.func110,Tryz.ntmps110
 go_upto_region 1 with fail
 rw [← hW]
 clear hW
 go_upto_region 8 with fail
 refine wp_region_held_drew (S:=(fun u=>BxA u G 35 (hC h p)∧u.cell? ⟨w.heap.size,2,none⟩=some (.int .i64 a)∧u.cell? ⟨w.heap.size,3,none⟩=some (.int .i64 b))) (by kernel_rfl) (HS.out _ c0.drew) (fun hHeld=>?_)
 refine tq0 (i:=0) (v:=?_) rfl ?_ (by assumption) ?_
 rotate_left
 ·intro w hSw;obtain ⟨_,za,zb⟩:=hSw;go_simp;try with_reducible rfl
 try simp only [Act.put,pS0,pT0]
 refine tq0 (i:=1) (v:=?_) rfl ?_ (by assumption) ?_
 rotate_left
 ·intro w hSw;obtain ⟨_,za,zb⟩:=hSw;go_simp;try with_reducible rfl
 try simp only [Act.put,pS0,pT0]
 refine tq0 (i:=2) (v:=.agg (hC h p)) rfl (fun w hSw=>exec_loadH rfl rfl hSw.1) (by assumption) ?_
 try simp only [Act.put,pS0,pT0]
 refine tq0 (i:=3) (v:=?_) rfl ?_ (by assumption) ?_
 rotate_left
 ·intro w hSw;obtain ⟨_,za,zb⟩:=hSw;go_simp;try with_reducible rfl
 try simp only [Act.put,pS0,pT0]
 refine tq0 (i:=4) (v:=?_) rfl ?_ (by assumption) ?_
 rotate_left
 ·intro w hSw;obtain ⟨_,za,zb⟩:=hSw;go_simp;try with_reducible rfl
 try simp only [Act.put,pS0,pT0]
 refine wpAnyH_ready (rs:=[5]) (by kernel_rfl) (by simp) ?_
 refine AllReadyH.cons rfl (fun K hK=>?_) AllReadyH.nil
 rw [if_pos]
 rotate_left
 ·kernel_rfl
 go_wp2_with (go_at_call 133;refine (HVa.out _ c0.drew).mono ?_;rintro e w2 ⟨rfl,c2⟩;refine Hid.out ?_)
 refine hidp20 ?_
 refine hK.out _ _ (HS.out _ c2) (fun hHeld=>?_)
 clear hK K
 try simp only [Act.put,pS0,pT0]
 refine tq0 (i:=6) (v:=?_) rfl ?_ (by assumption) ?_
 rotate_left
 ·intro w hSw;obtain ⟨_,za,zb⟩:=hSw;go_simp;try with_reducible rfl
 try simp only [Act.put,pS0,pT0]
 refine wpAnyH_take (i:=7) rfl (by kernel_rfl) (by kernel_rfl) (by kernel_rfl) (fun _ _ _ h=>h) (Or.inr ⟨by kernel_rfl,rfl⟩) (by assumption) ?_
 refine wpAnyH_take (i:=8) rfl (by kernel_rfl) (by kernel_rfl) (by kernel_rfl) (fun _ _ _ h=>h) (Or.inr ⟨by kernel_rfl,rfl⟩) (by assumption) ?_
 refine wpAnyH_take (i:=9) rfl (by kernel_rfl) (by kernel_rfl) (by kernel_rfl) (fun _ _ _ h=>h) (Or.inr ⟨by kernel_rfl,rfl⟩) (by assumption) ?_
 refine wpAnyH_take (i:=10) rfl (by kernel_rfl) (by kernel_rfl) (by kernel_rfl) (fun _ _ _ h=>h) (Or.inr ⟨by kernel_rfl,rfl⟩) (by assumption) ?_
 refine wpAnyH_take (i:=11) rfl (by kernel_rfl) (by kernel_rfl) (by kernel_rfl) (fun _ _ _ h=>h) (Or.inr ⟨by kernel_rfl,rfl⟩) (by assumption) ?_
 refine wpAnyH_take (i:=12) rfl (by kernel_rfl) (by kernel_rfl) (by kernel_rfl) (fun _ _ _ h=>h) (Or.inr ⟨by kernel_rfl,rfl⟩) (by assumption) ?_
 refine tq0 (i:=13) (v:=?_) rfl ?_ (by assumption) ?_
 rotate_left
 ·intro w hSw;obtain ⟨_,za,zb⟩:=hSw;go_simp;try with_reducible rfl
 try simp only [Act.put,pS0,pT0]
 refine tq0 (i:=14) (v:=?_) rfl ?_ (by assumption) ?_
 rotate_left
 ·intro w hSw;obtain ⟨_,za,zb⟩:=hSw;go_simp;try with_reducible rfl
 try simp only [Act.put,pS0,pT0]
 refine wpAnyH_done (by kernel_rfl) ?_ _
 go_wp2
 go_ret
 exact ⟨rfl,HB.out.trans (c2.mono HB.out.size)⟩
set_option maxRecDepth 100000 in
set_option maxHeartbeats 4000000 in
theorem ms8t2 {G:Nat} {h:Hd} {p:Hp} (i a b:Int) (e0:(a == b)=false) (ha:0≤a∧a<h.N) (vb:Bool) (hvb:decide (0≤b∧b<h.N)=vb)  (w:World) (X:BxA w G 35 (hC h p)) :
  Calls Tryz.prog 110 #[.pointer (some ⟨G,0,none⟩),.agg #[.int .i64 i,.int .i64 2,.int .i64 a,.int .i64 b]] w fun e w'=>e=.returned (.bool vb)∧Below w.heap.size w w':=by
 obtain ⟨W,hW⟩:∃ W,W=w.alloc (.cells #[.int .i64 i,.int .i64 2,.int .i64 a,.int .i64 b] 28):=⟨_,rfl⟩
 have bW:Below w.heap.size w W:=by rw [hW];exact belA _ _
 have XA:BxA W w.heap.size 28 #[.int .i64 i,.int .i64 2,.int .i64 a,.int .i64 b]:=by rw [hW];exact BxA.new _ _ _
 have HB:=hideIt bW
 have HX:=hideIt (X.up bW)
 have HXA:=hideIt XA
 have HS:Hid (∀ u,Below W.heap.size W u→BxA u G 35 (hC h p)∧u.cell? ⟨w.heap.size,2,none⟩=some (.int .i64 a)∧u.cell? ⟨w.heap.size,3,none⟩=some (.int .i64 b)):=fun u hu=>⟨HX.out.up hu,(HXA.out.up hu).cell 2 rfl,(HXA.out.up hu).cell 3 rfl⟩
 have c0:=Below.refl W.heap.size W
 have x1:=XA.cell 1 rfl
 have x2:=XA.cell 2 rfl
 have x3:=XA.cell 3 rfl
 clear X XA bW
 have HVa:Hid (∀ u,Below W.heap.size W u→Calls Tryz.prog 133 #[.agg (hC h p),.int .i64 a] u fun e v=>e=.returned (.bool true)∧Below W.heap.size W v):=fun u hu=>(hasVertex_any h _ a u).mono fun e v ⟨h1,h2⟩=>⟨by rw [h1,decide_eq_true ha],hu.trans (h2.mono hu.size)⟩
 clear ha
 have HVb:Hid (∀ u,Below W.heap.size W u→Calls Tryz.prog 133 #[.agg (hC h p),.int .i64 b] u fun e v=>e=.returned (.bool vb)∧Below W.heap.size W v):=fun u hu=>(hasVertex_any h _ b u).mono fun e v ⟨h1,h2⟩=>⟨by rw [h1,hvb],hu.trans (h2.mono hu.size)⟩
 clear hvb
 go_enter Tryz.func110,Tryz.ntmps110
 go_upto_region 1 with fail
 rw [← hW]
 clear hW
 go_upto_region 8 with fail
 refine wp_region_held_drew (S:=(fun u=>BxA u G 35 (hC h p)∧u.cell? ⟨w.heap.size,2,none⟩=some (.int .i64 a)∧u.cell? ⟨w.heap.size,3,none⟩=some (.int .i64 b))) (by kernel_rfl) (HS.out _ c0.drew) (fun hHeld=>?_)
 refine tq0 (i:=0) (v:=?_) rfl ?_ (by assumption) ?_
 rotate_left
 ·intro w hSw;obtain ⟨_,za,zb⟩:=hSw;go_simp;try with_reducible rfl
 try simp only [Act.put,pS0,pT0]
 refine tq0 (i:=1) (v:=?_) rfl ?_ (by assumption) ?_
 rotate_left
 ·intro w hSw;obtain ⟨_,za,zb⟩:=hSw;go_simp;try with_reducible rfl
 try simp only [Act.put,pS0,pT0]
 refine tq0 (i:=2) (v:=.agg (hC h p)) rfl (fun w hSw=>exec_loadH rfl rfl hSw.1) (by assumption) ?_
 try simp only [Act.put,pS0,pT0]
 refine tq0 (i:=3) (v:=?_) rfl ?_ (by assumption) ?_
 rotate_left
 ·intro w hSw;obtain ⟨_,za,zb⟩:=hSw;go_simp;try with_reducible rfl
 try simp only [Act.put,pS0,pT0]
 refine tq0 (i:=4) (v:=?_) rfl ?_ (by assumption) ?_
 rotate_left
 ·intro w hSw;obtain ⟨_,za,zb⟩:=hSw;go_simp;try with_reducible rfl
 try simp only [Act.put,pS0,pT0]
 refine wpAnyH_ready (rs:=[5]) (by kernel_rfl) (by simp) ?_
 refine AllReadyH.cons rfl (fun K hK=>?_) AllReadyH.nil
 rw [if_pos]
 rotate_left
 ·kernel_rfl
 go_wp2_with (go_at_call 133;refine (HVa.out _ c0.drew).mono ?_;rintro e w2 ⟨rfl,c2⟩;refine Hid.out ?_)
 refine hidp20 ?_
 refine hK.out _ _ (HS.out _ c2) (fun hHeld=>?_)
 clear hK K
 try simp only [Act.put,pS0,pT0]
 refine tq0 (i:=6) (v:=?_) rfl ?_ (by assumption) ?_
 rotate_left
 ·intro w hSw;obtain ⟨_,za,zb⟩:=hSw;go_simp;try with_reducible rfl
 try simp only [Act.put,pS0,pT0]
 refine tq0 (i:=7) (v:=?_) rfl ?_ (by assumption) ?_
 rotate_left
 ·intro w hSw;obtain ⟨_,za,zb⟩:=hSw;go_simp;try with_reducible rfl
 try simp only [Act.put,pS0,pT0]
 refine tq0 (i:=8) (v:=?_) rfl ?_ (by assumption) ?_
 rotate_left
 ·intro w hSw;obtain ⟨_,za,zb⟩:=hSw;go_simp;try with_reducible rfl
 try simp only [Act.put,pS0,pT0]
 refine tq0 (i:=9) (v:=.agg (hC h p)) rfl (fun w hSw=>exec_loadH rfl rfl hSw.1) (by assumption) ?_
 try simp only [Act.put,pS0,pT0]
 refine tq0 (i:=10) (v:=?_) rfl ?_ (by assumption) ?_
 rotate_left
 ·intro w hSw;obtain ⟨_,za,zb⟩:=hSw;go_simp;try with_reducible rfl
 try simp only [Act.put,pS0,pT0]
 refine tq0 (i:=11) (v:=?_) rfl ?_ (by assumption) ?_
 rotate_left
 ·intro w hSw;obtain ⟨_,za,zb⟩:=hSw;go_simp;try with_reducible rfl
 try simp only [Act.put,pS0,pT0]
 refine wpAnyH_ready (rs:=[12]) (by kernel_rfl) (by simp) ?_
 refine AllReadyH.cons rfl (fun K hK=>?_) AllReadyH.nil
 rw [if_pos]
 rotate_left
 ·kernel_rfl
 go_wp2_with (go_at_call 133;refine (HVb.out _ c2).mono ?_;rintro e w3 ⟨rfl,c3⟩;refine Hid.out ?_)
 refine hidp20 ?_
 refine hK.out _ _ (HS.out _ c3) (fun hHeld=>?_)
 clear hK K
 try simp only [Act.put,pS0,pT0]
 refine tq0 (i:=13) (v:=?_) rfl ?_ (by assumption) ?_
 rotate_left
 ·intro w hSw;obtain ⟨_,za,zb⟩:=hSw;go_simp;try with_reducible rfl
 try simp only [Act.put,pS0,pT0]
 refine tq0 (i:=14) (v:=?_) rfl ?_ (by assumption) ?_
 rotate_left
 ·intro w hSw;obtain ⟨_,za,zb⟩:=hSw;go_simp;try with_reducible rfl
 try simp only [Act.put,pS0,pT0]
 refine wpAnyH_done (by kernel_rfl) ?_ _
 go_wp2
 go_ret
 exact ⟨rfl,HB.out.trans (c3.mono HB.out.size)⟩
set_option maxRecDepth 100000 in
set_option maxHeartbeats 4000000 in
theorem ms8f2 {G:Nat} {h:Hd} {p:Hp} (i a b:Int) (e0:(a == b)=false) (ha:¬ (0≤a∧a<h.N))  (w:World) (X:BxA w G 35 (hC h p)) :
  Calls Tryz.prog 110 #[.pointer (some ⟨G,0,none⟩),.agg #[.int .i64 i,.int .i64 2,.int .i64 a,.int .i64 b]] w fun e w'=>e=.returned (.bool false)∧Below w.heap.size w w':=by
 obtain ⟨W,hW⟩:∃ W,W=w.alloc (.cells #[.int .i64 i,.int .i64 2,.int .i64 a,.int .i64 b] 28):=⟨_,rfl⟩
 have bW:Below w.heap.size w W:=by rw [hW];exact belA _ _
 have XA:BxA W w.heap.size 28 #[.int .i64 i,.int .i64 2,.int .i64 a,.int .i64 b]:=by rw [hW];exact BxA.new _ _ _
 have HB:=hideIt bW
 have HX:=hideIt (X.up bW)
 have HXA:=hideIt XA
 have HS:Hid (∀ u,Below W.heap.size W u→BxA u G 35 (hC h p)∧u.cell? ⟨w.heap.size,2,none⟩=some (.int .i64 a)∧u.cell? ⟨w.heap.size,3,none⟩=some (.int .i64 b)):=fun u hu=>⟨HX.out.up hu,(HXA.out.up hu).cell 2 rfl,(HXA.out.up hu).cell 3 rfl⟩
 have c0:=Below.refl W.heap.size W
 have x1:=XA.cell 1 rfl
 have x2:=XA.cell 2 rfl
 have x3:=XA.cell 3 rfl
 clear X XA bW
 have HVa:Hid (∀ u,Below W.heap.size W u→Calls Tryz.prog 133 #[.agg (hC h p),.int .i64 a] u fun e v=>e=.returned (.bool false)∧Below W.heap.size W v):=fun u hu=>(hasVertex_any h _ a u).mono fun e v ⟨h1,h2⟩=>⟨by rw [h1,decide_eq_false ha],hu.trans (h2.mono hu.size)⟩
 clear ha
 go_enter Tryz.func110,Tryz.ntmps110
 go_upto_region 1 with fail
 rw [← hW]
 clear hW
 go_upto_region 8 with fail
 refine wp_region_held_drew (S:=(fun u=>BxA u G 35 (hC h p)∧u.cell? ⟨w.heap.size,2,none⟩=some (.int .i64 a)∧u.cell? ⟨w.heap.size,3,none⟩=some (.int .i64 b))) (by kernel_rfl) (HS.out _ c0.drew) (fun hHeld=>?_)
 refine tq0 (i:=0) (v:=?_) rfl ?_ (by assumption) ?_
 rotate_left
 ·intro w hSw;obtain ⟨_,za,zb⟩:=hSw;go_simp;try with_reducible rfl
 try simp only [Act.put,pS0,pT0]
 refine tq0 (i:=1) (v:=?_) rfl ?_ (by assumption) ?_
 rotate_left
 ·intro w hSw;obtain ⟨_,za,zb⟩:=hSw;go_simp;try with_reducible rfl
 try simp only [Act.put,pS0,pT0]
 refine tq0 (i:=2) (v:=.agg (hC h p)) rfl (fun w hSw=>exec_loadH rfl rfl hSw.1) (by assumption) ?_
 try simp only [Act.put,pS0,pT0]
 refine tq0 (i:=3) (v:=?_) rfl ?_ (by assumption) ?_
 rotate_left
 ·intro w hSw;obtain ⟨_,za,zb⟩:=hSw;go_simp;try with_reducible rfl
 try simp only [Act.put,pS0,pT0]
 refine tq0 (i:=4) (v:=?_) rfl ?_ (by assumption) ?_
 rotate_left
 ·intro w hSw;obtain ⟨_,za,zb⟩:=hSw;go_simp;try with_reducible rfl
 try simp only [Act.put,pS0,pT0]
 refine wpAnyH_ready (rs:=[5]) (by kernel_rfl) (by simp) ?_
 refine AllReadyH.cons rfl (fun K hK=>?_) AllReadyH.nil
 rw [if_pos]
 rotate_left
 ·kernel_rfl
 go_wp2_with (go_at_call 133;refine (HVa.out _ c0.drew).mono ?_;rintro e w2 ⟨rfl,c2⟩;refine Hid.out ?_)
 refine hidp20 ?_
 refine hK.out _ _ (HS.out _ c2) (fun hHeld=>?_)
 clear hK K
 try simp only [Act.put,pS0,pT0]
 refine tq0 (i:=6) (v:=?_) rfl ?_ (by assumption) ?_
 rotate_left
 ·intro w hSw;obtain ⟨_,za,zb⟩:=hSw;go_simp;try with_reducible rfl
 try simp only [Act.put,pS0,pT0]
 refine wpAnyH_take (i:=7) rfl (by kernel_rfl) (by kernel_rfl) (by kernel_rfl) (fun _ _ _ h=>h) (Or.inr ⟨by kernel_rfl,rfl⟩) (by assumption) ?_
 refine wpAnyH_take (i:=8) rfl (by kernel_rfl) (by kernel_rfl) (by kernel_rfl) (fun _ _ _ h=>h) (Or.inr ⟨by kernel_rfl,rfl⟩) (by assumption) ?_
 refine wpAnyH_take (i:=9) rfl (by kernel_rfl) (by kernel_rfl) (by kernel_rfl) (fun _ _ _ h=>h) (Or.inr ⟨by kernel_rfl,rfl⟩) (by assumption) ?_
 refine wpAnyH_take (i:=10) rfl (by kernel_rfl) (by kernel_rfl) (by kernel_rfl) (fun _ _ _ h=>h) (Or.inr ⟨by kernel_rfl,rfl⟩) (by assumption) ?_
 refine wpAnyH_take (i:=11) rfl (by kernel_rfl) (by kernel_rfl) (by kernel_rfl) (fun _ _ _ h=>h) (Or.inr ⟨by kernel_rfl,rfl⟩) (by assumption) ?_
 refine wpAnyH_take (i:=12) rfl (by kernel_rfl) (by kernel_rfl) (by kernel_rfl) (fun _ _ _ h=>h) (Or.inr ⟨by kernel_rfl,rfl⟩) (by assumption) ?_
 refine tq0 (i:=13) (v:=?_) rfl ?_ (by assumption) ?_
 rotate_left
 ·intro w hSw;obtain ⟨_,za,zb⟩:=hSw;go_simp;try with_reducible rfl
 try simp only [Act.put,pS0,pT0]
 refine tq0 (i:=14) (v:=?_) rfl ?_ (by assumption) ?_
 rotate_left
 ·intro w hSw;obtain ⟨_,za,zb⟩:=hSw;go_simp;try with_reducible rfl
 try simp only [Act.put,pS0,pT0]
 refine wpAnyH_done (by kernel_rfl) ?_ _
 go_wp2
 go_ret
 exact ⟨rfl,HB.out.trans (c2.mono HB.out.size)⟩
set_option maxRecDepth 100000 in
set_option maxHeartbeats 4000000 in
theorem ms8t3 {G:Nat} {h:Hd} {p:Hp} (i a b:Int) (ha:0≤a∧a<h.N) (vb:Bool) (hvb:decide (0≤b∧b<h.N)=vb)  (w:World) (X:BxA w G 35 (hC h p)) :
  Calls Tryz.prog 110 #[.pointer (some ⟨G,0,none⟩),.agg #[.int .i64 i,.int .i64 3,.int .i64 a,.int .i64 b]] w fun e w'=>e=.returned (.bool vb)∧Below w.heap.size w w':=by
 obtain ⟨W,hW⟩:∃ W,W=w.alloc (.cells #[.int .i64 i,.int .i64 3,.int .i64 a,.int .i64 b] 28):=⟨_,rfl⟩
 have bW:Below w.heap.size w W:=by rw [hW];exact belA _ _
 have XA:BxA W w.heap.size 28 #[.int .i64 i,.int .i64 3,.int .i64 a,.int .i64 b]:=by rw [hW];exact BxA.new _ _ _
 have HB:=hideIt bW
 have HX:=hideIt (X.up bW)
 have HXA:=hideIt XA
 have HS:Hid (∀ u,Below W.heap.size W u→BxA u G 35 (hC h p)∧u.cell? ⟨w.heap.size,2,none⟩=some (.int .i64 a)∧u.cell? ⟨w.heap.size,3,none⟩=some (.int .i64 b)):=fun u hu=>⟨HX.out.up hu,(HXA.out.up hu).cell 2 rfl,(HXA.out.up hu).cell 3 rfl⟩
 have c0:=Below.refl W.heap.size W
 have x1:=XA.cell 1 rfl
 have x2:=XA.cell 2 rfl
 have x3:=XA.cell 3 rfl
 clear X XA bW
 have HVa:Hid (∀ u,Below W.heap.size W u→Calls Tryz.prog 133 #[.agg (hC h p),.int .i64 a] u fun e v=>e=.returned (.bool true)∧Below W.heap.size W v):=fun u hu=>(hasVertex_any h _ a u).mono fun e v ⟨h1,h2⟩=>⟨by rw [h1,decide_eq_true ha],hu.trans (h2.mono hu.size)⟩
 clear ha
 have HVb:Hid (∀ u,Below W.heap.size W u→Calls Tryz.prog 133 #[.agg (hC h p),.int .i64 b] u fun e v=>e=.returned (.bool vb)∧Below W.heap.size W v):=fun u hu=>(hasVertex_any h _ b u).mono fun e v ⟨h1,h2⟩=>⟨by rw [h1,hvb],hu.trans (h2.mono hu.size)⟩
 clear hvb
 go_enter Tryz.func110,Tryz.ntmps110
 go_upto_region 1 with fail
 rw [← hW]
 clear hW
 go_upto_region 8 with fail
 refine wp_region_held_drew (S:=(fun u=>BxA u G 35 (hC h p)∧u.cell? ⟨w.heap.size,2,none⟩=some (.int .i64 a)∧u.cell? ⟨w.heap.size,3,none⟩=some (.int .i64 b))) (by kernel_rfl) (HS.out _ c0.drew) (fun hHeld=>?_)
 refine tq0 (i:=0) (v:=?_) rfl ?_ (by assumption) ?_
 rotate_left
 ·intro w hSw;obtain ⟨_,za,zb⟩:=hSw;go_simp;try with_reducible rfl
 try simp only [Act.put,pS0,pT0]
 refine tq0 (i:=1) (v:=?_) rfl ?_ (by assumption) ?_
 rotate_left
 ·intro w hSw;obtain ⟨_,za,zb⟩:=hSw;go_simp;try with_reducible rfl
 try simp only [Act.put,pS0,pT0]
 refine tq0 (i:=2) (v:=.agg (hC h p)) rfl (fun w hSw=>exec_loadH rfl rfl hSw.1) (by assumption) ?_
 try simp only [Act.put,pS0,pT0]
 refine tq0 (i:=3) (v:=?_) rfl ?_ (by assumption) ?_
 rotate_left
 ·intro w hSw;obtain ⟨_,za,zb⟩:=hSw;go_simp;try with_reducible rfl
 try simp only [Act.put,pS0,pT0]
 refine tq0 (i:=4) (v:=?_) rfl ?_ (by assumption) ?_
 rotate_left
 ·intro w hSw;obtain ⟨_,za,zb⟩:=hSw;go_simp;try with_reducible rfl
 try simp only [Act.put,pS0,pT0]
 refine wpAnyH_ready (rs:=[5]) (by kernel_rfl) (by simp) ?_
 refine AllReadyH.cons rfl (fun K hK=>?_) AllReadyH.nil
 rw [if_pos]
 rotate_left
 ·kernel_rfl
 go_wp2_with (go_at_call 133;refine (HVa.out _ c0.drew).mono ?_;rintro e w2 ⟨rfl,c2⟩;refine Hid.out ?_)
 refine hidp20 ?_
 refine hK.out _ _ (HS.out _ c2) (fun hHeld=>?_)
 clear hK K
 try simp only [Act.put,pS0,pT0]
 refine tq0 (i:=6) (v:=?_) rfl ?_ (by assumption) ?_
 rotate_left
 ·intro w hSw;obtain ⟨_,za,zb⟩:=hSw;go_simp;try with_reducible rfl
 try simp only [Act.put,pS0,pT0]
 refine tq0 (i:=7) (v:=?_) rfl ?_ (by assumption) ?_
 rotate_left
 ·intro w hSw;obtain ⟨_,za,zb⟩:=hSw;go_simp;try with_reducible rfl
 try simp only [Act.put,pS0,pT0]
 refine tq0 (i:=8) (v:=?_) rfl ?_ (by assumption) ?_
 rotate_left
 ·intro w hSw;obtain ⟨_,za,zb⟩:=hSw;go_simp;try with_reducible rfl
 try simp only [Act.put,pS0,pT0]
 refine tq0 (i:=9) (v:=.agg (hC h p)) rfl (fun w hSw=>exec_loadH rfl rfl hSw.1) (by assumption) ?_
 try simp only [Act.put,pS0,pT0]
 refine tq0 (i:=10) (v:=?_) rfl ?_ (by assumption) ?_
 rotate_left
 ·intro w hSw;obtain ⟨_,za,zb⟩:=hSw;go_simp;try with_reducible rfl
 try simp only [Act.put,pS0,pT0]
 refine tq0 (i:=11) (v:=?_) rfl ?_ (by assumption) ?_
 rotate_left
 ·intro w hSw;obtain ⟨_,za,zb⟩:=hSw;go_simp;try with_reducible rfl
 try simp only [Act.put,pS0,pT0]
 refine wpAnyH_ready (rs:=[12]) (by kernel_rfl) (by simp) ?_
 refine AllReadyH.cons rfl (fun K hK=>?_) AllReadyH.nil
 rw [if_pos]
 rotate_left
 ·kernel_rfl
 go_wp2_with (go_at_call 133;refine (HVb.out _ c2).mono ?_;rintro e w3 ⟨rfl,c3⟩;refine Hid.out ?_)
 refine hidp20 ?_
 refine hK.out _ _ (HS.out _ c3) (fun hHeld=>?_)
 clear hK K
 try simp only [Act.put,pS0,pT0]
 refine tq0 (i:=13) (v:=?_) rfl ?_ (by assumption) ?_
 rotate_left
 ·intro w hSw;obtain ⟨_,za,zb⟩:=hSw;go_simp;try with_reducible rfl
 try simp only [Act.put,pS0,pT0]
 refine tq0 (i:=14) (v:=?_) rfl ?_ (by assumption) ?_
 rotate_left
 ·intro w hSw;obtain ⟨_,za,zb⟩:=hSw;go_simp;try with_reducible rfl
 try simp only [Act.put,pS0,pT0]
 refine wpAnyH_done (by kernel_rfl) ?_ _
 go_wp2
 go_ret
 exact ⟨rfl,HB.out.trans (c3.mono HB.out.size)⟩
set_option maxRecDepth 100000 in
set_option maxHeartbeats 4000000 in
theorem ms8f3 {G:Nat} {h:Hd} {p:Hp} (i a b:Int) (ha:¬ (0≤a∧a<h.N))  (w:World) (X:BxA w G 35 (hC h p)) :
  Calls Tryz.prog 110 #[.pointer (some ⟨G,0,none⟩),.agg #[.int .i64 i,.int .i64 3,.int .i64 a,.int .i64 b]] w fun e w'=>e=.returned (.bool false)∧Below w.heap.size w w':=by
 obtain ⟨W,hW⟩:∃ W,W=w.alloc (.cells #[.int .i64 i,.int .i64 3,.int .i64 a,.int .i64 b] 28):=⟨_,rfl⟩
 have bW:Below w.heap.size w W:=by rw [hW];exact belA _ _
 have XA:BxA W w.heap.size 28 #[.int .i64 i,.int .i64 3,.int .i64 a,.int .i64 b]:=by rw [hW];exact BxA.new _ _ _
 have HB:=hideIt bW
 have HX:=hideIt (X.up bW)
 have HXA:=hideIt XA
 have HS:Hid (∀ u,Below W.heap.size W u→BxA u G 35 (hC h p)∧u.cell? ⟨w.heap.size,2,none⟩=some (.int .i64 a)∧u.cell? ⟨w.heap.size,3,none⟩=some (.int .i64 b)):=fun u hu=>⟨HX.out.up hu,(HXA.out.up hu).cell 2 rfl,(HXA.out.up hu).cell 3 rfl⟩
 have c0:=Below.refl W.heap.size W
 have x1:=XA.cell 1 rfl
 have x2:=XA.cell 2 rfl
 have x3:=XA.cell 3 rfl
 clear X XA bW
 have HVa:Hid (∀ u,Below W.heap.size W u→Calls Tryz.prog 133 #[.agg (hC h p),.int .i64 a] u fun e v=>e=.returned (.bool false)∧Below W.heap.size W v):=fun u hu=>(hasVertex_any h _ a u).mono fun e v ⟨h1,h2⟩=>⟨by rw [h1,decide_eq_false ha],hu.trans (h2.mono hu.size)⟩
 clear ha
 go_enter Tryz.func110,Tryz.ntmps110
 go_upto_region 1 with fail
 rw [← hW]
 clear hW
 go_upto_region 8 with fail
 refine wp_region_held_drew (S:=(fun u=>BxA u G 35 (hC h p)∧u.cell? ⟨w.heap.size,2,none⟩=some (.int .i64 a)∧u.cell? ⟨w.heap.size,3,none⟩=some (.int .i64 b))) (by kernel_rfl) (HS.out _ c0.drew) (fun hHeld=>?_)
 refine tq0 (i:=0) (v:=?_) rfl ?_ (by assumption) ?_
 rotate_left
 ·intro w hSw;obtain ⟨_,za,zb⟩:=hSw;go_simp;try with_reducible rfl
 try simp only [Act.put,pS0,pT0]
 refine tq0 (i:=1) (v:=?_) rfl ?_ (by assumption) ?_
 rotate_left
 ·intro w hSw;obtain ⟨_,za,zb⟩:=hSw;go_simp;try with_reducible rfl
 try simp only [Act.put,pS0,pT0]
 refine tq0 (i:=2) (v:=.agg (hC h p)) rfl (fun w hSw=>exec_loadH rfl rfl hSw.1) (by assumption) ?_
 try simp only [Act.put,pS0,pT0]
 refine tq0 (i:=3) (v:=?_) rfl ?_ (by assumption) ?_
 rotate_left
 ·intro w hSw;obtain ⟨_,za,zb⟩:=hSw;go_simp;try with_reducible rfl
 try simp only [Act.put,pS0,pT0]
 refine tq0 (i:=4) (v:=?_) rfl ?_ (by assumption) ?_
 rotate_left
 ·intro w hSw;obtain ⟨_,za,zb⟩:=hSw;go_simp;try with_reducible rfl
 try simp only [Act.put,pS0,pT0]
 refine wpAnyH_ready (rs:=[5]) (by kernel_rfl) (by simp) ?_
 refine AllReadyH.cons rfl (fun K hK=>?_) AllReadyH.nil
 rw [if_pos]
 rotate_left
 ·kernel_rfl
 go_wp2_with (go_at_call 133;refine (HVa.out _ c0.drew).mono ?_;rintro e w2 ⟨rfl,c2⟩;refine Hid.out ?_)
 refine hidp20 ?_
 refine hK.out _ _ (HS.out _ c2) (fun hHeld=>?_)
 clear hK K
 try simp only [Act.put,pS0,pT0]
 refine tq0 (i:=6) (v:=?_) rfl ?_ (by assumption) ?_
 rotate_left
 ·intro w hSw;obtain ⟨_,za,zb⟩:=hSw;go_simp;try with_reducible rfl
 try simp only [Act.put,pS0,pT0]
 refine wpAnyH_take (i:=7) rfl (by kernel_rfl) (by kernel_rfl) (by kernel_rfl) (fun _ _ _ h=>h) (Or.inr ⟨by kernel_rfl,rfl⟩) (by assumption) ?_
 refine wpAnyH_take (i:=8) rfl (by kernel_rfl) (by kernel_rfl) (by kernel_rfl) (fun _ _ _ h=>h) (Or.inr ⟨by kernel_rfl,rfl⟩) (by assumption) ?_
 refine wpAnyH_take (i:=9) rfl (by kernel_rfl) (by kernel_rfl) (by kernel_rfl) (fun _ _ _ h=>h) (Or.inr ⟨by kernel_rfl,rfl⟩) (by assumption) ?_
 refine wpAnyH_take (i:=10) rfl (by kernel_rfl) (by kernel_rfl) (by kernel_rfl) (fun _ _ _ h=>h) (Or.inr ⟨by kernel_rfl,rfl⟩) (by assumption) ?_
 refine wpAnyH_take (i:=11) rfl (by kernel_rfl) (by kernel_rfl) (by kernel_rfl) (fun _ _ _ h=>h) (Or.inr ⟨by kernel_rfl,rfl⟩) (by assumption) ?_
 refine wpAnyH_take (i:=12) rfl (by kernel_rfl) (by kernel_rfl) (by kernel_rfl) (fun _ _ _ h=>h) (Or.inr ⟨by kernel_rfl,rfl⟩) (by assumption) ?_
 refine tq0 (i:=13) (v:=?_) rfl ?_ (by assumption) ?_
 rotate_left
 ·intro w hSw;obtain ⟨_,za,zb⟩:=hSw;go_simp;try with_reducible rfl
 try simp only [Act.put,pS0,pT0]
 refine tq0 (i:=14) (v:=?_) rfl ?_ (by assumption) ?_
 rotate_left
 ·intro w hSw;obtain ⟨_,za,zb⟩:=hSw;go_simp;try with_reducible rfl
 try simp only [Act.put,pS0,pT0]
 refine wpAnyH_done (by kernel_rfl) ?_ _
 go_wp2
 go_ret
 exact ⟨rfl,HB.out.trans (c2.mono HB.out.size)⟩
set_option maxRecDepth 100000 in
set_option maxHeartbeats 4000000 in
theorem ms9t {G:Nat} {h:Hd} {p:Hp} (i a b:Int) (ha:0≤a∧a<h.N) (vb:Bool) (hvb:decide (1≤b∧b≤(p.l.n:Int))=vb)  (w:World) (X:BxA w G 35 (hC h p)) :
  Calls Tryz.prog 110 #[.pointer (some ⟨G,0,none⟩),.agg #[.int .i64 i,.int .i64 4,.int .i64 a,.int .i64 b]] w fun e w'=>e=.returned (.bool vb)∧Below w.heap.size w w':=by
 obtain ⟨W,hW⟩:∃ W,W=w.alloc (.cells #[.int .i64 i,.int .i64 4,.int .i64 a,.int .i64 b] 28):=⟨_,rfl⟩
 have bW:Below w.heap.size w W:=by rw [hW];exact belA _ _
 have XA:BxA W w.heap.size 28 #[.int .i64 i,.int .i64 4,.int .i64 a,.int .i64 b]:=by rw [hW];exact BxA.new _ _ _
 have HB:=hideIt bW
 have HX:=hideIt (X.up bW)
 have HXA:=hideIt XA
 have HS:Hid (∀ u,Below W.heap.size W u→BxA u G 35 (hC h p)∧u.cell? ⟨w.heap.size,2,none⟩=some (.int .i64 a)∧u.cell? ⟨w.heap.size,3,none⟩=some (.int .i64 b)):=fun u hu=>⟨HX.out.up hu,(HXA.out.up hu).cell 2 rfl,(HXA.out.up hu).cell 3 rfl⟩
 have c0:=Below.refl W.heap.size W
 have x1:=XA.cell 1 rfl
 have x2:=XA.cell 2 rfl
 have x3:=XA.cell 3 rfl
 clear X XA bW
 have HVa:Hid (∀ u,Below W.heap.size W u→Calls Tryz.prog 133 #[.agg (hC h p),.int .i64 a] u fun e v=>e=.returned (.bool true)∧Below W.heap.size W v):=fun u hu=>(hasVertex_any h _ a u).mono fun e v ⟨h1,h2⟩=>⟨by rw [h1,decide_eq_true ha],hu.trans (h2.mono hu.size)⟩
 clear ha
 have HSb:Hid (∀ u,Below W.heap.size W u→Calls Tryz.prog 124 #[.agg (hC h p),.int .i64 b] u fun e v=>e=.returned (.bool vb)∧Below W.heap.size W v):=fun u hu=>(hasShard_any h _ b u).mono fun e v ⟨h1,h2⟩=>⟨by rw [h1,hvb],hu.trans (h2.mono hu.size)⟩
 clear hvb
 go_enter Tryz.func110,Tryz.ntmps110
 go_upto_region 1 with fail
 rw [← hW]
 clear hW
 go_upto_region 9 with fail
 refine wp_region_held_drew (S:=(fun u=>BxA u G 35 (hC h p)∧u.cell? ⟨w.heap.size,2,none⟩=some (.int .i64 a)∧u.cell? ⟨w.heap.size,3,none⟩=some (.int .i64 b))) (by kernel_rfl) (HS.out _ c0.drew) (fun hHeld=>?_)
 refine tq0 (i:=0) (v:=?_) rfl ?_ (by assumption) ?_
 rotate_left
 ·intro w hSw;obtain ⟨_,za,zb⟩:=hSw;go_simp;try with_reducible rfl
 try simp only [Act.put,pS0,pT0]
 refine tq0 (i:=1) (v:=?_) rfl ?_ (by assumption) ?_
 rotate_left
 ·intro w hSw;obtain ⟨_,za,zb⟩:=hSw;go_simp;try with_reducible rfl
 try simp only [Act.put,pS0,pT0]
 refine tq0 (i:=2) (v:=.agg (hC h p)) rfl (fun w hSw=>exec_loadH rfl rfl hSw.1) (by assumption) ?_
 try simp only [Act.put,pS0,pT0]
 refine tq0 (i:=3) (v:=?_) rfl ?_ (by assumption) ?_
 rotate_left
 ·intro w hSw;obtain ⟨_,za,zb⟩:=hSw;go_simp;try with_reducible rfl
 try simp only [Act.put,pS0,pT0]
 refine tq0 (i:=4) (v:=?_) rfl ?_ (by assumption) ?_
 rotate_left
 ·intro w hSw;obtain ⟨_,za,zb⟩:=hSw;go_simp;try with_reducible rfl
 try simp only [Act.put,pS0,pT0]
 refine wpAnyH_ready (rs:=[5]) (by kernel_rfl) (by simp) ?_
 refine AllReadyH.cons rfl (fun K hK=>?_) AllReadyH.nil
 rw [if_pos]
 rotate_left
 ·kernel_rfl
 go_wp2_with (go_at_call 133;refine (HVa.out _ c0.drew).mono ?_;rintro e w2 ⟨rfl,c2⟩;refine Hid.out ?_)
 refine hidp20 ?_
 refine hK.out _ _ (HS.out _ c2) (fun hHeld=>?_)
 clear hK K
 try simp only [Act.put,pS0,pT0]
 refine tq0 (i:=6) (v:=?_) rfl ?_ (by assumption) ?_
 rotate_left
 ·intro w hSw;obtain ⟨_,za,zb⟩:=hSw;go_simp;try with_reducible rfl
 try simp only [Act.put,pS0,pT0]
 refine tq0 (i:=7) (v:=?_) rfl ?_ (by assumption) ?_
 rotate_left
 ·intro w hSw;obtain ⟨_,za,zb⟩:=hSw;go_simp;try with_reducible rfl
 try simp only [Act.put,pS0,pT0]
 refine tq0 (i:=8) (v:=?_) rfl ?_ (by assumption) ?_
 rotate_left
 ·intro w hSw;obtain ⟨_,za,zb⟩:=hSw;go_simp;try with_reducible rfl
 try simp only [Act.put,pS0,pT0]
 refine tq0 (i:=9) (v:=.agg (hC h p)) rfl (fun w hSw=>exec_loadH rfl rfl hSw.1) (by assumption) ?_
 try simp only [Act.put,pS0,pT0]
 refine tq0 (i:=10) (v:=?_) rfl ?_ (by assumption) ?_
 rotate_left
 ·intro w hSw;obtain ⟨_,za,zb⟩:=hSw;go_simp;try with_reducible rfl
 try simp only [Act.put,pS0,pT0]
 refine tq0 (i:=11) (v:=?_) rfl ?_ (by assumption) ?_
 rotate_left
 ·intro w hSw;obtain ⟨_,za,zb⟩:=hSw;go_simp;try with_reducible rfl
 try simp only [Act.put,pS0,pT0]
 refine wpAnyH_ready (rs:=[12]) (by kernel_rfl) (by simp) ?_
 refine AllReadyH.cons rfl (fun K hK=>?_) AllReadyH.nil
 rw [if_pos]
 rotate_left
 ·kernel_rfl
 go_wp2_with (go_at_call 124;refine (HSb.out _ c2).mono ?_;rintro e w3 ⟨rfl,c3⟩;refine Hid.out ?_)
 refine hidp20 ?_
 refine hK.out _ _ (HS.out _ c3) (fun hHeld=>?_)
 clear hK K
 try simp only [Act.put,pS0,pT0]
 refine tq0 (i:=13) (v:=?_) rfl ?_ (by assumption) ?_
 rotate_left
 ·intro w hSw;obtain ⟨_,za,zb⟩:=hSw;go_simp;try with_reducible rfl
 try simp only [Act.put,pS0,pT0]
 refine tq0 (i:=14) (v:=?_) rfl ?_ (by assumption) ?_
 rotate_left
 ·intro w hSw;obtain ⟨_,za,zb⟩:=hSw;go_simp;try with_reducible rfl
 try simp only [Act.put,pS0,pT0]
 refine wpAnyH_done (by kernel_rfl) ?_ _
 go_wp2
 go_ret
 exact ⟨rfl,HB.out.trans (c3.mono HB.out.size)⟩
set_option maxRecDepth 100000 in
set_option maxHeartbeats 4000000 in
theorem ms9f {G:Nat} {h:Hd} {p:Hp} (i a b:Int) (ha:¬ (0≤a∧a<h.N))  (w:World) (X:BxA w G 35 (hC h p)) :
  Calls Tryz.prog 110 #[.pointer (some ⟨G,0,none⟩),.agg #[.int .i64 i,.int .i64 4,.int .i64 a,.int .i64 b]] w fun e w'=>e=.returned (.bool false)∧Below w.heap.size w w':=by
 obtain ⟨W,hW⟩:∃ W,W=w.alloc (.cells #[.int .i64 i,.int .i64 4,.int .i64 a,.int .i64 b] 28):=⟨_,rfl⟩
 have bW:Below w.heap.size w W:=by rw [hW];exact belA _ _
 have XA:BxA W w.heap.size 28 #[.int .i64 i,.int .i64 4,.int .i64 a,.int .i64 b]:=by rw [hW];exact BxA.new _ _ _
 have HB:=hideIt bW
 have HX:=hideIt (X.up bW)
 have HXA:=hideIt XA
 have HS:Hid (∀ u,Below W.heap.size W u→BxA u G 35 (hC h p)∧u.cell? ⟨w.heap.size,2,none⟩=some (.int .i64 a)∧u.cell? ⟨w.heap.size,3,none⟩=some (.int .i64 b)):=fun u hu=>⟨HX.out.up hu,(HXA.out.up hu).cell 2 rfl,(HXA.out.up hu).cell 3 rfl⟩
 have c0:=Below.refl W.heap.size W
 have x1:=XA.cell 1 rfl
 have x2:=XA.cell 2 rfl
 have x3:=XA.cell 3 rfl
 clear X XA bW
 have HVa:Hid (∀ u,Below W.heap.size W u→Calls Tryz.prog 133 #[.agg (hC h p),.int .i64 a] u fun e v=>e=.returned (.bool false)∧Below W.heap.size W v):=fun u hu=>(hasVertex_any h _ a u).mono fun e v ⟨h1,h2⟩=>⟨by rw [h1,decide_eq_false ha],hu.trans (h2.mono hu.size)⟩
 clear ha
 go_enter Tryz.func110,Tryz.ntmps110
 go_upto_region 1 with fail
 rw [← hW]
 clear hW
 go_upto_region 9 with fail
 refine wp_region_held_drew (S:=(fun u=>BxA u G 35 (hC h p)∧u.cell? ⟨w.heap.size,2,none⟩=some (.int .i64 a)∧u.cell? ⟨w.heap.size,3,none⟩=some (.int .i64 b))) (by kernel_rfl) (HS.out _ c0.drew) (fun hHeld=>?_)
 refine tq0 (i:=0) (v:=?_) rfl ?_ (by assumption) ?_
 rotate_left
 ·intro w hSw;obtain ⟨_,za,zb⟩:=hSw;go_simp;try with_reducible rfl
 try simp only [Act.put,pS0,pT0]
 refine tq0 (i:=1) (v:=?_) rfl ?_ (by assumption) ?_
 rotate_left
 ·intro w hSw;obtain ⟨_,za,zb⟩:=hSw;go_simp;try with_reducible rfl
 try simp only [Act.put,pS0,pT0]
 refine tq0 (i:=2) (v:=.agg (hC h p)) rfl (fun w hSw=>exec_loadH rfl rfl hSw.1) (by assumption) ?_
 try simp only [Act.put,pS0,pT0]
 refine tq0 (i:=3) (v:=?_) rfl ?_ (by assumption) ?_
 rotate_left
 ·intro w hSw;obtain ⟨_,za,zb⟩:=hSw;go_simp;try with_reducible rfl
 try simp only [Act.put,pS0,pT0]
 refine tq0 (i:=4) (v:=?_) rfl ?_ (by assumption) ?_
 rotate_left
 ·intro w hSw;obtain ⟨_,za,zb⟩:=hSw;go_simp;try with_reducible rfl
 try simp only [Act.put,pS0,pT0]
 refine wpAnyH_ready (rs:=[5]) (by kernel_rfl) (by simp) ?_
 refine AllReadyH.cons rfl (fun K hK=>?_) AllReadyH.nil
 rw [if_pos]
 rotate_left
 ·kernel_rfl
 go_wp2_with (go_at_call 133;refine (HVa.out _ c0.drew).mono ?_;rintro e w2 ⟨rfl,c2⟩;refine Hid.out ?_)
 refine hidp20 ?_
 refine hK.out _ _ (HS.out _ c2) (fun hHeld=>?_)
 clear hK K
 try simp only [Act.put,pS0,pT0]
 refine tq0 (i:=6) (v:=?_) rfl ?_ (by assumption) ?_
 rotate_left
 ·intro w hSw;obtain ⟨_,za,zb⟩:=hSw;go_simp;try with_reducible rfl
 try simp only [Act.put,pS0,pT0]
 refine wpAnyH_take (i:=7) rfl (by kernel_rfl) (by kernel_rfl) (by kernel_rfl) (fun _ _ _ h=>h) (Or.inr ⟨by kernel_rfl,rfl⟩) (by assumption) ?_
 refine wpAnyH_take (i:=8) rfl (by kernel_rfl) (by kernel_rfl) (by kernel_rfl) (fun _ _ _ h=>h) (Or.inr ⟨by kernel_rfl,rfl⟩) (by assumption) ?_
 refine wpAnyH_take (i:=9) rfl (by kernel_rfl) (by kernel_rfl) (by kernel_rfl) (fun _ _ _ h=>h) (Or.inr ⟨by kernel_rfl,rfl⟩) (by assumption) ?_
 refine wpAnyH_take (i:=10) rfl (by kernel_rfl) (by kernel_rfl) (by kernel_rfl) (fun _ _ _ h=>h) (Or.inr ⟨by kernel_rfl,rfl⟩) (by assumption) ?_
 refine wpAnyH_take (i:=11) rfl (by kernel_rfl) (by kernel_rfl) (by kernel_rfl) (fun _ _ _ h=>h) (Or.inr ⟨by kernel_rfl,rfl⟩) (by assumption) ?_
 refine wpAnyH_take (i:=12) rfl (by kernel_rfl) (by kernel_rfl) (by kernel_rfl) (fun _ _ _ h=>h) (Or.inr ⟨by kernel_rfl,rfl⟩) (by assumption) ?_
 refine tq0 (i:=13) (v:=?_) rfl ?_ (by assumption) ?_
 rotate_left
 ·intro w hSw;obtain ⟨_,za,zb⟩:=hSw;go_simp;try with_reducible rfl
 try simp only [Act.put,pS0,pT0]
 refine tq0 (i:=14) (v:=?_) rfl ?_ (by assumption) ?_
 rotate_left
 ·intro w hSw;obtain ⟨_,za,zb⟩:=hSw;go_simp;try with_reducible rfl
 try simp only [Act.put,pS0,pT0]
 refine wpAnyH_done (by kernel_rfl) ?_ _
 go_wp2
 go_ret
 exact ⟨rfl,HB.out.trans (c2.mono HB.out.size)⟩
set_option maxRecDepth 100000 in
set_option maxHeartbeats 4000000 in
theorem mse1 {G:Nat} {h:Hd} {p:Hp} (i a b:Int) (e0:(a == b)=true) (w:World) (X:BxA w G 35 (hC h p)) :
  Calls Tryz.prog 110 #[.pointer (some ⟨G,0,none⟩),.agg #[.int .i64 i,.int .i64 1,.int .i64 a,.int .i64 b]] w fun e w'=>e=.returned (.bool false)∧Below w.heap.size w w':=by
 obtain ⟨W,hW⟩:∃ W,W=w.alloc (.cells #[.int .i64 i,.int .i64 1,.int .i64 a,.int .i64 b] 28):=⟨_,rfl⟩
 have bW:Below w.heap.size w W:=by rw [hW];exact belA _ _
 have XA:BxA W w.heap.size 28 #[.int .i64 i,.int .i64 1,.int .i64 a,.int .i64 b]:=by rw [hW];exact BxA.new _ _ _
 have HB:=hideIt bW
 have HX:=hideIt (X.up bW)
 have HXA:=hideIt XA
 have HS:Hid (∀ u,Below W.heap.size W u→BxA u G 35 (hC h p)∧u.cell? ⟨w.heap.size,2,none⟩=some (.int .i64 a)∧u.cell? ⟨w.heap.size,3,none⟩=some (.int .i64 b)):=fun u hu=>⟨HX.out.up hu,(HXA.out.up hu).cell 2 rfl,(HXA.out.up hu).cell 3 rfl⟩
 have c0:=Below.refl W.heap.size W
 have x1:=XA.cell 1 rfl
 have x2:=XA.cell 2 rfl
 have x3:=XA.cell 3 rfl
 clear X XA bW
 go_enter Tryz.func110,Tryz.ntmps110
 go_upto_region 1 with fail
 rw [← hW]
 clear hW
 go_wp2
 go_ret
 exact ⟨rfl,HB.out⟩
set_option maxRecDepth 100000 in
set_option maxHeartbeats 4000000 in
theorem mse2 {G:Nat} {h:Hd} {p:Hp} (i a b:Int) (e0:(a == b)=true) (w:World) (X:BxA w G 35 (hC h p)) :
  Calls Tryz.prog 110 #[.pointer (some ⟨G,0,none⟩),.agg #[.int .i64 i,.int .i64 2,.int .i64 a,.int .i64 b]] w fun e w'=>e=.returned (.bool false)∧Below w.heap.size w w':=by
 obtain ⟨W,hW⟩:∃ W,W=w.alloc (.cells #[.int .i64 i,.int .i64 2,.int .i64 a,.int .i64 b] 28):=⟨_,rfl⟩
 have bW:Below w.heap.size w W:=by rw [hW];exact belA _ _
 have XA:BxA W w.heap.size 28 #[.int .i64 i,.int .i64 2,.int .i64 a,.int .i64 b]:=by rw [hW];exact BxA.new _ _ _
 have HB:=hideIt bW
 have HX:=hideIt (X.up bW)
 have HXA:=hideIt XA
 have HS:Hid (∀ u,Below W.heap.size W u→BxA u G 35 (hC h p)∧u.cell? ⟨w.heap.size,2,none⟩=some (.int .i64 a)∧u.cell? ⟨w.heap.size,3,none⟩=some (.int .i64 b)):=fun u hu=>⟨HX.out.up hu,(HXA.out.up hu).cell 2 rfl,(HXA.out.up hu).cell 3 rfl⟩
 have c0:=Below.refl W.heap.size W
 have x1:=XA.cell 1 rfl
 have x2:=XA.cell 2 rfl
 have x3:=XA.cell 3 rfl
 clear X XA bW
 go_enter Tryz.func110,Tryz.ntmps110
 go_upto_region 1 with fail
 rw [← hW]
 clear hW
 go_wp2
 go_ret
 exact ⟨rfl,HB.out⟩
set_option maxRecDepth 100000 in
set_option maxHeartbeats 4000000 in
theorem msx {G:Nat} {h:Hd} {p:Hp} (i o a b:Int) (e1:(o == 1)=false) (e2:(o == 2)=false) (e3:(o == 3)=false) (e4:(o == 4)=false) (w:World) (X:BxA w G 35 (hC h p)) :
  Calls Tryz.prog 110 #[.pointer (some ⟨G,0,none⟩),.agg #[.int .i64 i,.int .i64 o,.int .i64 a,.int .i64 b]] w fun e w'=>e=.returned (.bool false)∧Below w.heap.size w w':=by
 obtain ⟨W,hW⟩:∃ W,W=w.alloc (.cells #[.int .i64 i,.int .i64 o,.int .i64 a,.int .i64 b] 28):=⟨_,rfl⟩
 have bW:Below w.heap.size w W:=by rw [hW];exact belA _ _
 have XA:BxA W w.heap.size 28 #[.int .i64 i,.int .i64 o,.int .i64 a,.int .i64 b]:=by rw [hW];exact BxA.new _ _ _
 have HB:=hideIt bW
 have HX:=hideIt (X.up bW)
 have HXA:=hideIt XA
 have HS:Hid (∀ u,Below W.heap.size W u→BxA u G 35 (hC h p)∧u.cell? ⟨w.heap.size,2,none⟩=some (.int .i64 a)∧u.cell? ⟨w.heap.size,3,none⟩=some (.int .i64 b)):=fun u hu=>⟨HX.out.up hu,(HXA.out.up hu).cell 2 rfl,(HXA.out.up hu).cell 3 rfl⟩
 have c0:=Below.refl W.heap.size W
 have x1:=XA.cell 1 rfl
 have x2:=XA.cell 2 rfl
 have x3:=XA.cell 3 rfl
 clear X XA bW
 go_enter Tryz.func110,Tryz.ntmps110
 go_upto_region 1 with fail
 rw [← hW]
 clear hW
 go_wp2
 go_ret
 exact ⟨rfl,HB.out⟩
theorem makesSense_any {G:Nat} {h:Hd} {p:Hp} (i o a b:Int) (w:World) (X:BxA w G 35 (hC h p)) :
  Calls Tryz.prog 110 #[.pointer (some ⟨G,0,none⟩),.agg #[.int .i64 i,.int .i64 o,.int .i64 a,.int .i64 b]] w fun e w'=>e=.returned (.bool (rgB h.N p.l.n o a b))∧Below w.heap.size w w':=by
 have key:∀ z:Bool,rgB h.N p.l.n o a b=z→(Calls Tryz.prog 110 #[.pointer (some ⟨G,0,none⟩),.agg #[.int .i64 i,.int .i64 o,.int .i64 a,.int .i64 b]] w fun e w'=>e=.returned (.bool z)∧Below w.heap.size w w')→(Calls Tryz.prog 110 #[.pointer (some ⟨G,0,none⟩),.agg #[.int .i64 i,.int .i64 o,.int .i64 a,.int .i64 b]] w fun e w'=>e=.returned (.bool (rgB h.N p.l.n o a b))∧Below w.heap.size w w'):=fun z hz hc=>by rw [hz];exact hc
 by_cases o3:o=3
 ·subst o3
  by_cases ha:0≤a∧a<h.N
  ·exact key (decide (0≤b∧b<h.N)) (decide_eq_decide.2 (by omega)) (ms8t3 i a b ha _ rfl w X)
  ·exact key false (decide_eq_false (by omega)) (ms8f3 i a b ha w X)
 ·by_cases o4:o=4
  ·subst o4
   by_cases ha:0≤a∧a<h.N
   ·exact key (decide (1≤b∧b≤(p.l.n:Int))) (decide_eq_decide.2 (by omega)) (ms9t i a b ha _ rfl w X)
   ·exact key false (decide_eq_false (by omega)) (ms9f i a b ha w X)
  ·by_cases o1:o=1
   ·subst o1
    by_cases hab:a=b
    ·exact key false (decide_eq_false (by omega)) (mse1 i a b (by simpa using hab) w X)
    ·by_cases ha:0≤a∧a<h.N
     ·exact key (decide (0≤b∧b<h.N)) (decide_eq_decide.2 (by omega)) (ms8t1 i a b (by simpa using hab) ha _ rfl w X)
     ·exact key false (decide_eq_false (by omega)) (ms8f1 i a b (by simpa using hab) ha w X)
   ·by_cases o2:o=2
    ·subst o2
     by_cases hab:a=b
     ·exact key false (decide_eq_false (by omega)) (mse2 i a b (by simpa using hab) w X)
     ·by_cases ha:0≤a∧a<h.N
      ·exact key (decide (0≤b∧b<h.N)) (decide_eq_decide.2 (by omega)) (ms8t2 i a b (by simpa using hab) ha _ rfl w X)
      ·exact key false (decide_eq_false (by omega)) (ms8f2 i a b (by simpa using hab) ha w X)
    ·exact key false (decide_eq_false (by omega)) (msx i o a b (by simpa using o1) (by simpa using o2) (by simpa using o3) (by simpa using o4) w X)
end Go.Proofs.YtnagchanokbgdaaGreat
namespace Go.Proofs.YtnagchanokbgdaaGreat
open Go.RowKit
set_option maxHeartbeats 4000000 in
theorem pSayWh_any {lo G:Nat} {h:Hd} {p:Hp} {R:List Rw} (i o a b:Int) (yes:Bool) (u:World) (k:HX lo u G h p R) (hl:lo≤u.heap.size) (hn:p.s.n≤1000) :
  Calls Tryz.prog 118 #[.pointer (some ⟨G,0,none⟩),.agg #[.int .i64 i,.int .i64 o,.int .i64 a,.int .i64 b],.bool yes] u fun e v=>e=.returned (.int .i64 1)∧(∃ g c,HX lo v G (sayH h i o a b (if yes then 1 else 2)) (sayP p g (p.s.n+1) c) R)∧Below lo u v:=by
 have bW:=belA u (.cells #[.int .i64 i,.int .i64 o,.int .i64 a,.int .i64 b] 28)
 have HK:=hideIt (k.up bW)
 have HS:Hid (∀ s:Int,Calls Tryz.prog 111 #[.pointer (some ⟨G,0,none⟩),.agg #[.int .i64 i,.int .i64 o,.int .i64 a,.int .i64 b],.int .i64 s] (u.alloc (.cells #[.int .i64 i,.int .i64 o,.int .i64 a,.int .i64 b] 28)) fun e v=>e=.returned (.int .i64 1)∧(∃ g c,HX lo v G (sayH h i o a b s) (sayP p g (p.s.n+1) c) R)∧Below lo u v):=fun s =>
  (pSay_any i o a b s _ HK.out (Nat.le_trans hl bW.size) hn).mono fun e v ⟨h1,h2,h3⟩=>⟨h1,h2,(bW.mono hl).trans h3⟩
 clear k bW HK
 cases yes with
 | true =>
  go_enter Tryz.func118,Tryz.ntmps118
  go_wp2_with (go_at_call 111;refine (HS.out 1).mono ?_;rintro e w1 ⟨rfl,hk,hb⟩)
  go_ret
  exact ⟨rfl,hk,hb⟩
 | false =>
  go_enter Tryz.func118,Tryz.ntmps118
  go_wp2_with (go_at_call 111;refine (HS.out 2).mono ?_;rintro e w1 ⟨rfl,hk,hb⟩)
  go_ret
  exact ⟨rfl,hk,hb⟩
def MvA (lo:Nat) (u:World) (G:Nat) (g:Hd) (c:Int) (e:Ending) (v:World):Prop:=e=.returned (.int .i64 c)∧(∃ p R,HX lo v G g p R)∧Below lo u v
set_option maxRecDepth 100000 in
set_option maxHeartbeats 8000000 in
theorem pMove_any {lo G S:Nat} {h:Hd} {p:Hp} {R:List Rw} (i a b:Int) (u:World) (k:HX lo u G h p R) (hi:HInv S h) (hl:lo≤u.heap.size) (ha:0≤a∧a<h.N) :
  Calls Tryz.prog 115 #[.pointer (some ⟨G,0,none⟩),.agg #[.int .i64 i,.int .i64 4,.int .i64 a,.int .i64 b]] u fun e v=>MvA lo u G (if O.atI h.own a=b then sayH h i 4 a b 2 else ordH h i 4 a b (O.atI h.own a) 3 [] a) (if O.atI h.own a=b then 1 else 2) e v:=by
 have ho:=hi.ownAt ha.1 ha.2
 have hln:=hi.lens k.hw.ow.inn
 have hnum:∀ y ∈ h.nums,0≤y∧y≤1000:=fun y hy=>by
  have h1:=hi.num.2 y hy
  have:=hi.sd.1
  split at h1 <;> omega
 obtain ⟨x,hx⟩:∃ x,O.atI h.own a=x:=⟨_,rfl⟩
 rw [hx] at ho ⊢
 obtain ⟨s,rfl⟩:∃ s:Nat,x=(s:Int)+1:=⟨(x - 1).toNat,by omega⟩
 obtain ⟨av,rfl⟩:∃ v:Nat,a=(v:Int):=⟨a.toNat,by omega⟩
 rw [Int.toNat_natCast] at ho
 have hs3:s≤2:=by have:=hi.s;omega
 have hsN:s<h.nums.length:=by have:=hi.num.1;omega
 obtain ⟨W,hW⟩:∃ W,W=u.alloc (.cells #[.int .i64 i,.int .i64 4,.int .i64 (av:Int),.int .i64 b] 28):=⟨_,rfl⟩
 have bW:Below u.heap.size u W:=by rw [hW];exact belA _ _
 have XA:BxA W u.heap.size 28 #[.int .i64 i,.int .i64 4,.int .i64 (av:Int),.int .i64 b]:=by rw [hW];exact BxA.new _ _ _
 have HK:=hideIt (k.up bW)
 have HXA:=hideIt XA
 have HB:=hideIt (bW.mono hl)
 have lG:G<u.heap.size:=k.bx.lt
 have HL:Hid (lo≤W.heap.size):=Nat.le_trans hl bW.size
 have hn:p.s.n≤1000:=by omega
 obtain ⟨bo,oo,ea,hbo,hco⟩:∃ bo oo,p.o.a=some ⟨bo,oo,none⟩∧bo<W.heap.size∧W.cell? ⟨bo,oo+av,none⟩=some (.int .i64 ((s:Int)+1)):=by
  rcases (Is_own HK.out.hw.ow.o).2 with h0 | ⟨bo,oo,e,hb,hc⟩
  ·omega
  ·exact ⟨bo,oo,e,hb,hc _ _ ho.2⟩
 have g1:W.cell? ⟨G,1,none⟩=some (.slice p.o.a p.o.n p.o.c):=HK.out.bx.cell 1 rfl
 rw [ea] at g1
 have x2:=XA.cell 2 rfl
 have q1:(0:Int)≤(av:Int):=by omega
 have q2:(av:Int)<(p.o.n:Int):=by omega
 have HSy:Hid (∀ v,v=W.drew→Calls Tryz.prog 111 #[.pointer (some ⟨G,0,none⟩),.agg #[.int .i64 i,.int .i64 4,.int .i64 (av:Int),.int .i64 b],.int .i64 2] v fun e v=>e=.returned (.int .i64 1)∧(∃ p R,HX lo v G (sayH h i 4 (av:Int) b 2) p R)∧Below lo u v):=fun v hv=>by
  subst hv
  exact (pSay_any i 4 (av:Int) b 2 W.drew (HK.out.up (Below.refl _ _).drew) HL.out hn).mono fun e v ⟨h1,⟨g,c,h2⟩,h3⟩=>⟨h1,⟨_,_,h2⟩,HB.out.trans (Below.trans (Below.refl _ _).drew h3)⟩
 have HOr:Hid (∀ v,v=W.drew→Calls Tryz.prog 138 #[.pointer (some ⟨G,0,none⟩),.agg #[.int .i64 i,.int .i64 4,.int .i64 (av:Int),.int .i64 b],.int .i64 ((s:Int)+1),.agg #[.int .i64 0,.int .i64 3,.slice none 0 0,.int .i64 (av:Int)]] v fun e v=>e=.returned (.int .i64 2)∧(∃ p R,HX lo v G (ordH h i 4 (av:Int) b ((s:Int)+1) 3 [] (av:Int)) p R)∧Below lo u v):=fun v hv=>by
  subst hv
  exact (pOrder_any i 4 (av:Int) b s 0 3 (av:Int) [] none 0 0 W.drew (HK.out.up (Below.refl _ _).drew) HL.out hsN hs3 hnum (World.ownsRow_nil _ _ _ _) (fun b _=>by simp [Value.ownBlock])).mono fun e v ⟨h1,h2,h3⟩=>⟨h1,⟨_,_,h2⟩,HB.out.trans (Below.trans (Below.refl _ _).drew h3)⟩
 have YA:=(HXA.out.up (Below.refl W.heap.size W).drew)
 have w0:=YA.cell 0 rfl
 have w1:=YA.cell 1 rfl
 have w2:=YA.cell 2 rfl
 have w3:=YA.cell 3 rfl
 clear k hi ho hln hnum bW XA ea hl ha hx YA
 by_cases hxb:(s:Int)+1=b
 ·rw [if_pos hxb,if_pos hxb]
  subst hxb
  have e1:((s:Int)+1 == (s:Int)+1)=true:=by simp
  go_enter Tryz.func115,Tryz.ntmps115
  go_upto_region 1 with fail
  rw [← hW]
  clear hW
  go_region_held3 (fun v=>v.cell? ⟨G,1,none⟩=some (.slice (some ⟨bo,oo,none⟩) p.o.n p.o.c)∧v.cell? ⟨u.heap.size,2,none⟩=some (.int .i64 (av:Int))∧v.cell? ⟨bo,oo+av,none⟩=some (.int .i64 ((s:Int)+1))) (exact ⟨g1,x2,hco⟩) (fail)
  obtain ⟨W1,hW1⟩:∃ W1,W1=W.drew:=⟨_,rfl⟩
  have HSy1:=hideIt (HSy.out W1 hW1)
  rw [← hW1] at w0 w1 w2 w3 ⊢
  clear hW1 g1 x2 hco HSy HOr
  go_wp2_with (go_at_call 111;refine HSy1.out.mono ?_;rintro e w1 ⟨rfl,hk,hb⟩)
  go_ret
  exact ⟨rfl,hk,hb⟩
 ·rw [if_neg hxb,if_neg hxb]
  have e1:((s:Int)+1 == b)=false:=by simpa using hxb
  go_enter Tryz.func115,Tryz.ntmps115
  go_upto_region 1 with fail
  rw [← hW]
  clear hW
  go_region_held3 (fun v=>v.cell? ⟨G,1,none⟩=some (.slice (some ⟨bo,oo,none⟩) p.o.n p.o.c)∧v.cell? ⟨u.heap.size,2,none⟩=some (.int .i64 (av:Int))∧v.cell? ⟨bo,oo+av,none⟩=some (.int .i64 ((s:Int)+1))) (exact ⟨g1,x2,hco⟩) (fail)
  obtain ⟨W1,hW1⟩:∃ W1,W1=W.drew:=⟨_,rfl⟩
  have HOr1:=hideIt (HOr.out W1 hW1)
  rw [← hW1] at w0 w1 w2 w3 ⊢
  clear hW1 g1 x2 hco HSy HOr hxb
  go_wp2_with (go_at_call 138;refine HOr1.out.mono ?_;rintro e w1 ⟨rfl,hk,hb⟩)
  go_ret
  exact ⟨rfl,hk,hb⟩
end Go.Proofs.YtnagchanokbgdaaGreat
