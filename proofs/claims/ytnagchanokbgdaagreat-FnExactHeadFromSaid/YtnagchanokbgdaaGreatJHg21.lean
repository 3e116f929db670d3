/- A head in a box: add, take, together. The program's ask. The program's Take, of a head that records lead to. The program's Hear, of a head that records lead to. The head that records lead to: the program's HeadFrom. The program's HeadFrom. -/
import Derived.Test.YtnagchanokbgdaaGreatJGo20
import Derived.Test.YtnagchanokbgdaaGreatJSq1
import Derived.Test.YtnagchanokbgdaaGreatJLawB10
import Derived.Test.YtnagchanokbgdaaGreatJE6
import Derived.Test.YtnagchanokbgdaaGreatJOpenR21
namespace Go.Proofs.YtnagchanokbgdaaGreat
open Go.RowKit
theorem lok_of {N:Int} {n:Nat} (hn:N=(n:Int)) {ls:List Int} (h:O.lB N ls=true):O.LOk n ls:=by
 unfold O.lB at h
 rw [Bool.and_eq_true,decide_eq_true_iff] at h
 refine ⟨by omega,fun v hv=>?_⟩
 have hl:v<ls.length:=by omega
 have h2:=h.2
 unfold O.lbs at h2
 rw [List.all_eq_true] at h2
 have h3:=h2 v (List.mem_range.2 hl)
 unfold O.lbAt at h3
 rw [List.getElem?_eq_getElem hl] at h3
 dsimp only at h3
 rw [Bool.and_eq_true,decide_eq_true_iff] at h3
 have e:O.atI ls (v:Int)=ls[v]:=by unfold O.atI;simp [List.getD,hl]
 rw [e]
 exact h3.1
set_option maxRecDepth 100000 in
set_option maxHeartbeats 8000000 in
theorem pTog_any {lo G S:Nat} {h:Hd} {p:Hp} {R:List Rw} (i a b:Int) (u:World) (k:HX lo u G h p R) (hi:HInv S h) (hl:lo≤u.heap.size) (ha:0≤a∧a<h.N) (hb0:0≤b∧b<h.N) :
  Calls Tryz.prog 114 #[.pointer (some ⟨G,0,none⟩),.agg #[.int .i64 i,.int .i64 3,.int .i64 a,.int .i64 b]] u fun e v=>MvA lo u G (sayH h i 3 a b (if O.atI (wlL h) a=O.atI (wlL h) b then 1 else 2)) 1 e v:=by
 have hln:=hi.lens k.hw.ow.inn
 have hR:=k.hw.re hi
 have hN:=hi.n
 obtain ⟨n,hn⟩:∃ n:Nat,h.N=(n:Int):=⟨h.N.toNat,by omega⟩
 have hlb:∀ l ∈ h.lab,O.LOk n l:=fun l hl=>lok_of hn (hi.lab.2 l hl)
 have hcb:∀ e ∈ h.cuts,O.eB (n:Int) e=true:=fun e he=>by
  have:=hi.cut
  unfold O.eOk at this
  rw [Bool.and_eq_true,hn] at this
  exact O.chk_eB this.1 he
 have hwl:wlL h=O.labs (O.uE h.lab n ++ h.cuts) n n:=by unfold wlL;rw [hn,Int.toNat_natCast]
 obtain ⟨L,hL⟩:=ex0 (wlL h)
 rw [← hL]
 rw [← hL] at hwl
 have hLl:L.length=n:=by rw [hwl];exact O.labs_len _ _ _
 obtain ⟨va,rfl⟩:∃ v:Nat,a=(v:Int):=⟨a.toNat,by omega⟩
 obtain ⟨vb,rfl⟩:∃ v:Nat,b=(v:Int):=⟨b.toNat,by omega⟩
 have m1:=(atI_mem (ls:=L) (v:=(va:Int)) (by omega) (by omega)).2
 have m2:=(atI_mem (ls:=L) (v:=(vb:Int)) (by omega) (by omega)).2
 rw [Int.toNat_natCast] at m1 m2
 obtain ⟨x1,hx1⟩:∃ x,x=O.atI L (va:Int):=⟨_,rfl⟩
 obtain ⟨x2,hx2⟩:∃ x,x=O.atI L (vb:Int):=⟨_,rfl⟩
 rw [← hx1,← hx2]
 rw [← hx1] at m1
 rw [← hx2] at m2
 have hsn:p.s.n≤1000:=by omega
 obtain ⟨bb,hbb⟩:∃ bb:Bool,(x1 == x2)=bb:=⟨_,rfl⟩
 rw [show (if x1=x2 then (1:Int) else 2)=(if bb=true then 1 else 2) by rw [← hbb];simp]
 obtain ⟨sv,hsv⟩:∃ sv:Int,(if bb=true then (1:Int) else 2)=sv:=⟨_,rfl⟩
 rw [hsv]
 obtain ⟨W,hW⟩:=ex0 (u.alloc (.cells #[.int .i64 i,.int .i64 3,.int .i64 (va:Int),.int .i64 (vb:Int)] 28))
 have bW:Below u.heap.size u W:=by rw [hW];exact belA _ _
 have XA:BxA W u.heap.size 28 #[.int .i64 i,.int .i64 3,.int .i64 (va:Int),.int .i64 (vb:Int)]:=by rw [hW];exact BxA.new _ _ _
 have HK:=hideIt (k.up bW)
 have HXA:=hideIt XA
 have HB:=hideIt (bW.mono hl)
 have HL:Hid (lo≤W.heap.size):=Nat.le_trans hl bW.size
 have lG:G<u.heap.size:=k.bx.lt
 have HWl:Hid (Calls Tryz.prog 137 #[.int .i64 h.N,.slice p.l.a p.l.n p.l.c,.slice p.c.a p.c.n p.c.c] W.drew fun e v=>∃ a' c',e=.returned (.tuple #[.slice a' n c',.bool true])∧v.ownsRow W.heap.size 3 1 (.slice a' n c') n (ic L)∧Below W.heap.size W v):=by
  have hI:=hR.inn.up (bW.drew)
  have:=O.iWholeLabels_yes n (by omega) (by omega) h.lab p.l.n (by have:=hi.s;omega) p.l.a p.l.c h.cuts p.c.n (by omega) p.c.a p.c.c hlb hcb W.drew hI.l hI.c
  rw [hn]
  refine this.mono fun e v ⟨a',c',h1,h2,h3⟩=>⟨a',c',h1,by rw [hwl];exact h2,Below.trans (Below.refl _ _).drew h3⟩
 have S0:W.cell? ⟨G,0,none⟩=some (.int .i64 h.N)∧W.cell? ⟨G,2,none⟩=some (.slice p.c.a p.c.n p.c.c)∧W.cell? ⟨G,3,none⟩=some (.slice p.l.a p.l.n p.l.c):=⟨HK.out.bx.cell 0 rfl,HK.out.bx.cell 2 rfl,HK.out.bx.cell 3 rfl⟩
 have HSv:Hid (∀ v,Below W.heap.size W v→v.cell? ⟨G,0,none⟩=some (.int .i64 h.N)∧v.cell? ⟨G,2,none⟩=some (.slice p.c.a p.c.n p.c.c)∧v.cell? ⟨G,3,none⟩=some (.slice p.l.a p.l.n p.l.c)):=fun v hv=>⟨(HK.out.bx.up hv).cell 0 rfl,(HK.out.bx.up hv).cell 2 rfl,(HK.out.bx.up hv).cell 3 rfl⟩
 have HM:=hideIt (And.intro m1 (And.intro m2 hLl))
 clear k hi hR hln hN hlb hcb hwl hL bW XA ha hb0 hl m1 m2 hx1 hx2 hLl hn
 go_enter Tryz.func114,Tryz.ntmps114
 go_upto_region 1 with fail
 rw [← hW]
 clear hW
 go_region_held3 (fun v=>v.cell? ⟨G,0,none⟩=some (.int .i64 h.N)∧v.cell? ⟨G,2,none⟩=some (.slice p.c.a p.c.n p.c.c)∧v.cell? ⟨G,3,none⟩=some (.slice p.l.a p.l.n p.l.c)) (first | exact S0 | exact HSv.out _ (by assumption))
  ((go_at_call 137;refine HWl.out.mono ?_;rintro e w1 ⟨a',c',rfl,ho,c1⟩))
 have ho1:=hideIt ho
 have HK1:=hideIt (HK.out.up c1)
 have HA1:=hideIt (HXA.out.up c1)
 have HB1:Hid (Below lo u w1):=HB.out.trans (c1.mono HL.out)
 have HL1:Hid (lo≤w1.heap.size):=Nat.le_trans HL.out c1.size
 obtain ⟨bl,ol,ea,hbl,hc1,hc2⟩:∃ bl ol,a'=some ⟨bl,ol,none⟩∧bl<w1.heap.size∧w1.cell? ⟨bl,ol+va,none⟩=some (.int .i64 x1)∧w1.cell? ⟨bl,ol+vb,none⟩=some (.int .i64 x2):=by
  rcases (Is_own ho).2 with h0 | ⟨bl,ol,e,hb,hc⟩
  ·have:=(List.getElem?_eq_some_iff.1 HM.out.1).1;have:=HM.out.2.2;omega
  ·exact ⟨bl,ol,e,hb,hc _ _ HM.out.1,hc _ _ HM.out.2.1⟩
 subst ea
 have q1:(0:Int)≤(va:Int):=by omega
 have q2:(va:Int)<(n:Int):=by have:=(List.getElem?_eq_some_iff.1 HM.out.1).1;have:=HM.out.2.2;omega
 have q3:(0:Int)≤(vb:Int):=by omega
 have q4:(vb:Int)<(n:Int):=by have:=(List.getElem?_eq_some_iff.1 HM.out.2.1).1;have:=HM.out.2.2;omega
 have w0:=HA1.out.cell 0 rfl
 have y1:=HA1.out.cell 1 rfl
 have y2:=HA1.out.cell 2 rfl
 have y3:=HA1.out.cell 3 rfl
 have HSy:Hid (∀ (v:World),Below w1.heap.size w1 v→Calls Tryz.prog 118 #[.pointer (some ⟨G,0,none⟩),.agg #[.int .i64 i,.int .i64 3,.int .i64 (va:Int),.int .i64 (vb:Int)],.bool bb] v fun e v=>MvA lo u G (sayH h i 3 (va:Int) (vb:Int) sv) 1 e v):=fun v hv=>by
  rw [← hsv]
  exact
  (pSayWh_any i 3 (va:Int) (vb:Int) bb v (HK1.out.up hv) (Nat.le_trans HL1.out hv.size) hsn).mono fun e v ⟨h1,⟨g,c,h2⟩,h3⟩=>⟨h1,⟨_,_,h2⟩,HB1.out.trans ((hv.mono HL1.out).trans h3)⟩
 clear hsv ho c1 HWl S0 HSv HK HXA HB HL HM ho1 HK1 HA1 HB1 HL1
 go_upto_region 2 with fail
 (
  apply viaT
  intro t1_4_6_9_11_12_
  apply viaT
  intro t1_4_6_9_11_
  apply viaT
  intro t4_6_9_11_12_
  apply viaT
  intro t1_4_6_9_
  apply viaT
  intro t1_4_9_11_
  apply viaT
  intro t4_6_9_11_
  apply viaT
  intro t1_4_6_
  apply viaT
  intro t1_4_9_
  apply viaT
  intro t1_9_11_
  apply viaT
  intro t4_6_9_
  apply viaT
  intro t4_9_11_
  apply viaT
  intro t1_4_
  apply viaT
  intro t1_9_
  apply viaT
  intro t4_6_
  apply viaT
  intro t4_9_
  apply viaT
  intro t9_11_
  apply viaT
  intro t1_
  apply viaT
  intro t4_
  apply viaT
  intro t9_
  focus (
  refine wp_region_held_drew (S:=fun _=>True) (by kernel_rfl) trivial (fun _=>?_)
  refine tq0 (i:=0) (v:=?_) rfl ?_ trivial ?_
  rotate_left
  ·intro w hSw;(try dsimp only at hSw);go_simp;try with_reducible rfl
  try simp only [Act.put,pU0]
  refine tq0 (i:=2) (v:=?_) rfl ?_ trivial ?_
  rotate_left
  ·intro w hSw;(try dsimp only at hSw);go_simp;try with_reducible rfl
  try simp only [Act.put,pU0]
  refine tq0 (i:=3) (v:=?_) rfl ?_ trivial ?_
  rotate_left
  ·intro w hSw;(try dsimp only at hSw);go_simp;try with_reducible rfl
  try simp only [Act.put,pU0]
  refine tq0 (i:=7) (v:=?_) rfl ?_ trivial ?_
  rotate_left
  ·intro w hSw;(try dsimp only at hSw);go_simp;try with_reducible rfl
  try simp only [Act.put,pU0]
  refine tq0 (i:=8) (v:=?_) rfl ?_ trivial ?_
  rotate_left
  ·intro w hSw;(try dsimp only at hSw);go_simp;try with_reducible rfl
  try simp only [Act.put,pU0]
  obtain ⟨y,hy⟩:=ex0 (w1.drew)
  have FC:(y.cell? ⟨u.heap.size,0,none⟩=some (.int .i64 i)∧y.cell? ⟨u.heap.size,1,none⟩=some (.int .i64 3)∧y.cell? ⟨u.heap.size,2,none⟩=some (.int .i64 (va:Int))∧y.cell? ⟨u.heap.size,3,none⟩=some (.int .i64 (vb:Int)))∧y.cell? ⟨bl,ol+va,none⟩=some (.int .i64 x1)∧y.cell? ⟨bl,ol+vb,none⟩=some (.int .i64 x2)∧Below w1.heap.size w1 y:=by rw [hy];exact ⟨⟨w0,y1,y2,y3⟩,hc1,hc2,(Below.refl _ _).drew⟩
  rw [← hy]
  clear hy
  refine wpAnyH_ready (rs:=[1,4,9]) (by kernel_rfl) (by simp) ?_
  refine AllReadyH.cons rfl (fun K hK=>?_) (AllReadyH.cons rfl (fun K hK=>?_) (AllReadyH.cons rfl (fun K hK=>?_) AllReadyH.nil))
  focus (
  obtain ⟨⟨c0,c1,c2,c3⟩,d1,d2,bb0⟩:=FC
  go_simp
  refine hK.out _ _ trivial (fun _=>?_)
  clear hK K
  try simp only [Act.put,pU0]
  have FC:=And.intro (And.intro c0 (And.intro c1 (And.intro c2 c3))) (And.intro d1 (And.intro d2 bb0))
  clear c0 c1 c2 c3 d1 d2 bb0
  refine lstH (l':=#[true,true,true,true,false,false,false,true,true,false,false,false,false,false,false]) (by kernel_rfl) ?_
  have F:=FC
  clear FC
  revert F
  revert y
  exact t1_.out
  )
  focus (
  obtain ⟨⟨c0,c1,c2,c3⟩,d1,d2,bb0⟩:=FC
  go_simp
  refine hK.out _ _ trivial (fun _=>?_)
  clear hK K
  try simp only [Act.put,pU0]
  have FC:=And.intro (And.intro c0 (And.intro c1 (And.intro c2 c3))) (And.intro d1 (And.intro d2 bb0))
  clear c0 c1 c2 c3 d1 d2 bb0
  refine tq0 (i:=5) (v:=?_) rfl ?_ trivial ?_
  rotate_left
  ·intro w hSw;(try dsimp only at hSw);go_simp;try with_reducible rfl
  try simp only [Act.put,pU0]
  refine lstH (l':=#[true,false,true,true,true,true,false,true,true,false,false,false,false,false,false]) (by kernel_rfl) ?_
  have F:=FC
  clear FC
  revert F
  revert y
  exact t4_.out
  )
  focus (
  obtain ⟨⟨c0,c1,c2,c3⟩,d1,d2,bb0⟩:=FC
  go_simp
  refine hK.out _ _ trivial (fun _=>?_)
  clear hK K
  try simp only [Act.put,pU0]
  have FC:=And.intro (And.intro c0 (And.intro c1 (And.intro c2 c3))) (And.intro d1 (And.intro d2 bb0))
  clear c0 c1 c2 c3 d1 d2 bb0
  refine tq0 (i:=10) (v:=?_) rfl ?_ trivial ?_
  rotate_left
  ·intro w hSw;(try dsimp only at hSw);go_simp;try with_reducible rfl
  try simp only [Act.put,pU0]
  refine lstH (l':=#[true,false,true,true,false,false,false,true,true,true,true,false,false,false,false]) (by kernel_rfl) ?_
  have F:=FC
  clear FC
  revert F
  revert y
  exact t9_.out
  )
  )
  focus (
  intro y F
  have FC:=F
  clear F
  refine wpAnyH_ready (rs:=[1,4,11]) (by kernel_rfl) (by simp) ?_
  refine AllReadyH.cons rfl (fun K hK=>?_) (AllReadyH.cons rfl (fun K hK=>?_) (AllReadyH.cons rfl (fun K hK=>?_) AllReadyH.nil))
  focus (
  obtain ⟨⟨c0,c1,c2,c3⟩,d1,d2,bb0⟩:=FC
  go_simp
  refine hK.out _ _ trivial (fun _=>?_)
  clear hK K
  try simp only [pU0]
  have FC:=And.intro (And.intro c0 (And.intro c1 (And.intro c2 c3))) (And.intro d1 (And.intro d2 bb0))
  clear c0 c1 c2 c3 d1 d2 bb0
  refine lstH (l':=#[true,true,true,true,false,false,false,true,true,true,true,false,false,false,false]) (by kernel_rfl) ?_
  have F:=FC
  clear FC
  revert F
  revert y
  exact t1_9_.out
  )
  focus (
  obtain ⟨⟨c0,c1,c2,c3⟩,d1,d2,bb0⟩:=FC
  go_simp
  refine hK.out _ _ trivial (fun _=>?_)
  clear hK K
  try simp only [pU0]
  have FC:=And.intro (And.intro c0 (And.intro c1 (And.intro c2 c3))) (And.intro d1 (And.intro d2 bb0))
  clear c0 c1 c2 c3 d1 d2 bb0
  refine tq0 (i:=5) (v:=?_) rfl ?_ trivial ?_
  rotate_left
  ·intro w hSw;(try dsimp only at hSw);go_simp;try with_reducible rfl
  try simp only [Act.put,pU0]
  refine lstH (l':=#[true,false,true,true,true,true,false,true,true,true,true,false,false,false,false]) (by kernel_rfl) ?_
  have F:=FC
  clear FC
  revert F
  revert y
  exact t4_9_.out
  )
  focus (
  obtain ⟨⟨c0,c1,c2,c3⟩,d1,d2,bb0⟩:=FC
  go_simp
  refine hK.out _ _ trivial (fun _=>?_)
  clear hK K
  try simp only [pU0]
  have FC:=And.intro (And.intro c0 (And.intro c1 (And.intro c2 c3))) (And.intro d1 (And.intro d2 bb0))
  clear c0 c1 c2 c3 d1 d2 bb0
  refine lstH (l':=#[true,false,true,true,false,false,false,true,true,true,true,true,false,false,false]) (by kernel_rfl) ?_
  have F:=FC
  clear FC
  revert F
  revert y
  exact t9_11_.out
  )
  )
  focus (
  intro y F
  have FC:=F
  clear F
  refine wpAnyH_ready (rs:=[1,6,9]) (by kernel_rfl) (by simp) ?_
  refine AllReadyH.cons rfl (fun K hK=>?_) (AllReadyH.cons rfl (fun K hK=>?_) (AllReadyH.cons rfl (fun K hK=>?_) AllReadyH.nil))
  focus (
  obtain ⟨⟨c0,c1,c2,c3⟩,d1,d2,bb0⟩:=FC
  go_simp
  refine hK.out _ _ trivial (fun _=>?_)
  clear hK K
  try simp only [pU0]
  have FC:=And.intro (And.intro c0 (And.intro c1 (And.intro c2 c3))) (And.intro d1 (And.intro d2 bb0))
  clear c0 c1 c2 c3 d1 d2 bb0
  refine lstH (l':=#[true,true,true,true,true,true,false,true,true,false,false,false,false,false,false]) (by kernel_rfl) ?_
  have F:=FC
  clear FC
  revert F
  revert y
  exact t1_4_.out
  )
  focus (
  obtain ⟨⟨c0,c1,c2,c3⟩,d1,d2,bb0⟩:=FC
  go_simp
  refine hK.out _ _ trivial (fun _=>?_)
  clear hK K
  try simp only [pU0]
  have FC:=And.intro (And.intro c0 (And.intro c1 (And.intro c2 c3))) (And.intro d1 (And.intro d2 bb0))
  clear c0 c1 c2 c3 d1 d2 bb0
  refine lstH (l':=#[true,false,true,true,true,true,true,true,true,false,false,false,false,false,false]) (by kernel_rfl) ?_
  have F:=FC
  clear FC
  revert F
  revert y
  exact t4_6_.out
  )
  focus (
  obtain ⟨⟨c0,c1,c2,c3⟩,d1,d2,bb0⟩:=FC
  go_simp
  refine hK.out _ _ trivial (fun _=>?_)
  clear hK K
  try simp only [pU0]
  have FC:=And.intro (And.intro c0 (And.intro c1 (And.intro c2 c3))) (And.intro d1 (And.intro d2 bb0))
  clear c0 c1 c2 c3 d1 d2 bb0
  refine tq0 (i:=10) (v:=?_) rfl ?_ trivial ?_
  rotate_left
  ·intro w hSw;(try dsimp only at hSw);go_simp;try with_reducible rfl
  try simp only [Act.put,pU0]
  refine lstH (l':=#[true,false,true,true,true,true,false,true,true,true,true,false,false,false,false]) (by kernel_rfl) ?_
  have F:=FC
  clear FC
  revert F
  revert y
  exact t4_9_.out
  )
  )
  focus (
  intro y F
  have FC:=F
  clear F
  refine wpAnyH_ready (rs:=[4,9]) (by kernel_rfl) (by simp) ?_
  refine AllReadyH.cons rfl (fun K hK=>?_) (AllReadyH.cons rfl (fun K hK=>?_) AllReadyH.nil)
  focus (
  obtain ⟨⟨c0,c1,c2,c3⟩,d1,d2,bb0⟩:=FC
  go_simp
  refine hK.out _ _ trivial (fun _=>?_)
  clear hK K
  try simp only [pU0]
  have FC:=And.intro (And.intro c0 (And.intro c1 (And.intro c2 c3))) (And.intro d1 (And.intro d2 bb0))
  clear c0 c1 c2 c3 d1 d2 bb0
  refine tq0 (i:=5) (v:=?_) rfl ?_ trivial ?_
  rotate_left
  ·intro w hSw;(try dsimp only at hSw);go_simp;try with_reducible rfl
  try simp only [Act.put,pU0]
  refine lstH (l':=#[true,true,true,true,true,true,false,true,true,false,false,false,false,false,false]) (by kernel_rfl) ?_
  have F:=FC
  clear FC
  revert F
  revert y
  exact t1_4_.out
  )
  focus (
  obtain ⟨⟨c0,c1,c2,c3⟩,d1,d2,bb0⟩:=FC
  go_simp
  refine hK.out _ _ trivial (fun _=>?_)
  clear hK K
  try simp only [pU0]
  have FC:=And.intro (And.intro c0 (And.intro c1 (And.intro c2 c3))) (And.intro d1 (And.intro d2 bb0))
  clear c0 c1 c2 c3 d1 d2 bb0
  refine tq0 (i:=10) (v:=?_) rfl ?_ trivial ?_
  rotate_left
  ·intro w hSw;(try dsimp only at hSw);go_simp;try with_reducible rfl
  try simp only [Act.put,pU0]
  refine lstH (l':=#[true,true,true,true,false,false,false,true,true,true,true,false,false,false,false]) (by kernel_rfl) ?_
  have F:=FC
  clear FC
  revert F
  revert y
  exact t1_9_.out
  )
  )
  focus (
  intro y F
  have FC:=F
  clear F
  refine wpAnyH_ready (rs:=[1,4]) (by kernel_rfl) (by simp) ?_
  refine AllReadyH.cons rfl (fun K hK=>?_) (AllReadyH.cons rfl (fun K hK=>?_) AllReadyH.nil)
  focus (
  obtain ⟨⟨c0,c1,c2,c3⟩,d1,d2,bb0⟩:=FC
  go_simp
  refine hK.out _ _ trivial (fun _=>?_)
  clear hK K
  try simp only [pU0]
  have FC:=And.intro (And.intro c0 (And.intro c1 (And.intro c2 c3))) (And.intro d1 (And.intro d2 bb0))
  clear c0 c1 c2 c3 d1 d2 bb0
  refine lstH (l':=#[true,true,true,true,false,false,false,true,true,true,true,true,false,false,false]) (by kernel_rfl) ?_
  have F:=FC
  clear FC
  revert F
  revert y
  exact t1_9_11_.out
  )
  focus (
  obtain ⟨⟨c0,c1,c2,c3⟩,d1,d2,bb0⟩:=FC
  go_simp
  refine hK.out _ _ trivial (fun _=>?_)
  clear hK K
  try simp only [pU0]
  have FC:=And.intro (And.intro c0 (And.intro c1 (And.intro c2 c3))) (And.intro d1 (And.intro d2 bb0))
  clear c0 c1 c2 c3 d1 d2 bb0
  refine tq0 (i:=5) (v:=?_) rfl ?_ trivial ?_
  rotate_left
  ·intro w hSw;(try dsimp only at hSw);go_simp;try with_reducible rfl
  try simp only [Act.put,pU0]
  refine lstH (l':=#[true,false,true,true,true,true,false,true,true,true,true,true,false,false,false]) (by kernel_rfl) ?_
  have F:=FC
  clear FC
  revert F
  revert y
  exact t4_9_11_.out
  )
  )
  focus (
  intro y F
  have FC:=F
  clear F
  refine wpAnyH_ready (rs:=[1,6,11]) (by kernel_rfl) (by simp) ?_
  refine AllReadyH.cons rfl (fun K hK=>?_) (AllReadyH.cons rfl (fun K hK=>?_) (AllReadyH.cons rfl (fun K hK=>?_) AllReadyH.nil))
  focus (
  obtain ⟨⟨c0,c1,c2,c3⟩,d1,d2,bb0⟩:=FC
  go_simp
  refine hK.out _ _ trivial (fun _=>?_)
  clear hK K
  try simp only [pU0]
  have FC:=And.intro (And.intro c0 (And.intro c1 (And.intro c2 c3))) (And.intro d1 (And.intro d2 bb0))
  clear c0 c1 c2 c3 d1 d2 bb0
  refine lstH (l':=#[true,true,true,true,true,true,false,true,true,true,true,false,false,false,false]) (by kernel_rfl) ?_
  have F:=FC
  clear FC
  revert F
  revert y
  exact t1_4_9_.out
  )
  focus (
  obtain ⟨⟨c0,c1,c2,c3⟩,d1,d2,bb0⟩:=FC
  go_simp
  refine hK.out _ _ trivial (fun _=>?_)
  clear hK K
  try simp only [pU0]
  have FC:=And.intro (And.intro c0 (And.intro c1 (And.intro c2 c3))) (And.intro d1 (And.intro d2 bb0))
  clear c0 c1 c2 c3 d1 d2 bb0
  refine lstH (l':=#[true,false,true,true,true,true,true,true,true,true,true,false,false,false,false]) (by kernel_rfl) ?_
  have F:=FC
  clear FC
  revert F
  revert y
  exact t4_6_9_.out
  )
  focus (
  obtain ⟨⟨c0,c1,c2,c3⟩,d1,d2,bb0⟩:=FC
  go_simp
  refine hK.out _ _ trivial (fun _=>?_)
  clear hK K
  try simp only [pU0]
  have FC:=And.intro (And.intro c0 (And.intro c1 (And.intro c2 c3))) (And.intro d1 (And.intro d2 bb0))
  clear c0 c1 c2 c3 d1 d2 bb0
  refine lstH (l':=#[true,false,true,true,true,true,false,true,true,true,true,true,false,false,false]) (by kernel_rfl) ?_
  have F:=FC
  clear FC
  revert F
  revert y
  exact t4_9_11_.out
  )
  )
  focus (
  intro y F
  have FC:=F
  clear F
  refine wpAnyH_ready (rs:=[1,9]) (by kernel_rfl) (by simp) ?_
  refine AllReadyH.cons rfl (fun K hK=>?_) (AllReadyH.cons rfl (fun K hK=>?_) AllReadyH.nil)
  focus (
  obtain ⟨⟨c0,c1,c2,c3⟩,d1,d2,bb0⟩:=FC
  go_simp
  refine hK.out _ _ trivial (fun _=>?_)
  clear hK K
  try simp only [pU0]
  have FC:=And.intro (And.intro c0 (And.intro c1 (And.intro c2 c3))) (And.intro d1 (And.intro d2 bb0))
  clear c0 c1 c2 c3 d1 d2 bb0
  refine lstH (l':=#[true,true,true,true,true,true,true,true,true,false,false,false,false,false,false]) (by kernel_rfl) ?_
  have F:=FC
  clear FC
  revert F
  revert y
  exact t1_4_6_.out
  )
  focus (
  obtain ⟨⟨c0,c1,c2,c3⟩,d1,d2,bb0⟩:=FC
  go_simp
  refine hK.out _ _ trivial (fun _=>?_)
  clear hK K
  try simp only [pU0]
  have FC:=And.intro (And.intro c0 (And.intro c1 (And.intro c2 c3))) (And.intro d1 (And.intro d2 bb0))
  clear c0 c1 c2 c3 d1 d2 bb0
  refine tq0 (i:=10) (v:=?_) rfl ?_ trivial ?_
  rotate_left
  ·intro w hSw;(try dsimp only at hSw);go_simp;try with_reducible rfl
  try simp only [Act.put,pU0]
  refine lstH (l':=#[true,false,true,true,true,true,true,true,true,true,true,false,false,false,false]) (by kernel_rfl) ?_
  have F:=FC
  clear FC
  revert F
  revert y
  exact t4_6_9_.out
  )
  )
  focus (
  intro y F
  have FC:=F
  clear F
  refine wpAnyH_ready (rs:=[4,11]) (by kernel_rfl) (by simp) ?_
  refine AllReadyH.cons rfl (fun K hK=>?_) (AllReadyH.cons rfl (fun K hK=>?_) AllReadyH.nil)
  focus (
  obtain ⟨⟨c0,c1,c2,c3⟩,d1,d2,bb0⟩:=FC
  go_simp
  refine hK.out _ _ trivial (fun _=>?_)
  clear hK K
  try simp only [pU0]
  have FC:=And.intro (And.intro c0 (And.intro c1 (And.intro c2 c3))) (And.intro d1 (And.intro d2 bb0))
  clear c0 c1 c2 c3 d1 d2 bb0
  refine tq0 (i:=5) (v:=?_) rfl ?_ trivial ?_
  rotate_left
  ·intro w hSw;(try dsimp only at hSw);go_simp;try with_reducible rfl
  try simp only [Act.put,pU0]
  refine lstH (l':=#[true,true,true,true,true,true,false,true,true,true,true,false,false,false,false]) (by kernel_rfl) ?_
  have F:=FC
  clear FC
  revert F
  revert y
  exact t1_4_9_.out
  )
  focus (
  obtain ⟨⟨c0,c1,c2,c3⟩,d1,d2,bb0⟩:=FC
  go_simp
  refine hK.out _ _ trivial (fun _=>?_)
  clear hK K
  try simp only [pU0]
  have FC:=And.intro (And.intro c0 (And.intro c1 (And.intro c2 c3))) (And.intro d1 (And.intro d2 bb0))
  clear c0 c1 c2 c3 d1 d2 bb0
  refine lstH (l':=#[true,true,true,true,false,false,false,true,true,true,true,true,false,false,false]) (by kernel_rfl) ?_
  have F:=FC
  clear FC
  revert F
  revert y
  exact t1_9_11_.out
  )
  )
  focus (
  intro y F
  have FC:=F
  clear F
  refine wpAnyH_ready (rs:=[6,9]) (by kernel_rfl) (by simp) ?_
  refine AllReadyH.cons rfl (fun K hK=>?_) (AllReadyH.cons rfl (fun K hK=>?_) AllReadyH.nil)
  focus (
  obtain ⟨⟨c0,c1,c2,c3⟩,d1,d2,bb0⟩:=FC
  go_simp
  refine hK.out _ _ trivial (fun _=>?_)
  clear hK K
  try simp only [pU0]
  have FC:=And.intro (And.intro c0 (And.intro c1 (And.intro c2 c3))) (And.intro d1 (And.intro d2 bb0))
  clear c0 c1 c2 c3 d1 d2 bb0
  refine lstH (l':=#[true,true,true,true,true,true,true,true,true,false,false,false,false,false,false]) (by kernel_rfl) ?_
  have F:=FC
  clear FC
  revert F
  revert y
  exact t1_4_6_.out
  )
  focus (
  obtain ⟨⟨c0,c1,c2,c3⟩,d1,d2,bb0⟩:=FC
  go_simp
  refine hK.out _ _ trivial (fun _=>?_)
  clear hK K
  try simp only [pU0]
  have FC:=And.intro (And.intro c0 (And.intro c1 (And.intro c2 c3))) (And.intro d1 (And.intro d2 bb0))
  clear c0 c1 c2 c3 d1 d2 bb0
  refine tq0 (i:=10) (v:=?_) rfl ?_ trivial ?_
  rotate_left
  ·intro w hSw;(try dsimp only at hSw);go_simp;try with_reducible rfl
  try simp only [Act.put,pU0]
  refine lstH (l':=#[true,true,true,true,true,true,false,true,true,true,true,false,false,false,false]) (by kernel_rfl) ?_
  have F:=FC
  clear FC
  revert F
  revert y
  exact t1_4_9_.out
  )
  )
  focus (
  intro y F
  have FC:=F
  clear F
  refine wpAnyH_ready (rs:=[1,6]) (by kernel_rfl) (by simp) ?_
  refine AllReadyH.cons rfl (fun K hK=>?_) (AllReadyH.cons rfl (fun K hK=>?_) AllReadyH.nil)
  focus (
  obtain ⟨⟨c0,c1,c2,c3⟩,d1,d2,bb0⟩:=FC
  go_simp
  refine hK.out _ _ trivial (fun _=>?_)
  clear hK K
  try simp only [pU0]
  have FC:=And.intro (And.intro c0 (And.intro c1 (And.intro c2 c3))) (And.intro d1 (And.intro d2 bb0))
  clear c0 c1 c2 c3 d1 d2 bb0
  refine lstH (l':=#[true,true,true,true,true,true,false,true,true,true,true,true,false,false,false]) (by kernel_rfl) ?_
  have F:=FC
  clear FC
  revert F
  revert y
  exact t1_4_9_11_.out
  )
  focus (
  obtain ⟨⟨c0,c1,c2,c3⟩,d1,d2,bb0⟩:=FC
  go_simp
  refine hK.out _ _ trivial (fun _=>?_)
  clear hK K
  try simp only [pU0]
  have FC:=And.intro (And.intro c0 (And.intro c1 (And.intro c2 c3))) (And.intro d1 (And.intro d2 bb0))
  clear c0 c1 c2 c3 d1 d2 bb0
  refine lstH (l':=#[true,false,true,true,true,true,true,true,true,true,true,true,false,false,false]) (by kernel_rfl) ?_
  have F:=FC
  clear FC
  revert F
  revert y
  exact t4_6_9_11_.out
  )
  )
  focus (
  intro y F
  have FC:=F
  clear F
  refine wpAnyH_ready (rs:=[1,11]) (by kernel_rfl) (by simp) ?_
  refine AllReadyH.cons rfl (fun K hK=>?_) (AllReadyH.cons rfl (fun K hK=>?_) AllReadyH.nil)
  focus (
  obtain ⟨⟨c0,c1,c2,c3⟩,d1,d2,bb0⟩:=FC
  go_simp
  refine hK.out _ _ trivial (fun _=>?_)
  clear hK K
  try simp only [pU0]
  have FC:=And.intro (And.intro c0 (And.intro c1 (And.intro c2 c3))) (And.intro d1 (And.intro d2 bb0))
  clear c0 c1 c2 c3 d1 d2 bb0
  refine lstH (l':=#[true,true,true,true,true,true,true,true,true,true,true,false,false,false,false]) (by kernel_rfl) ?_
  have F:=FC
  clear FC
  revert F
  revert y
  exact t1_4_6_9_.out
  )
  focus (
  obtain ⟨⟨c0,c1,c2,c3⟩,d1,d2,bb0⟩:=FC
  go_simp
  refine hK.out _ _ trivial (fun _=>?_)
  clear hK K
  try simp only [pU0]
  have FC:=And.intro (And.intro c0 (And.intro c1 (And.intro c2 c3))) (And.intro d1 (And.intro d2 bb0))
  clear c0 c1 c2 c3 d1 d2 bb0
  refine lstH (l':=#[true,false,true,true,true,true,true,true,true,true,true,true,false,false,false]) (by kernel_rfl) ?_
  have F:=FC
  clear FC
  revert F
  revert y
  exact t4_6_9_11_.out
  )
  )
  focus (
  intro y F
  have FC:=F
  clear F
  refine wr0 (i:=4) rfl (fun K hK=>?_)
  focus (
  obtain ⟨⟨c0,c1,c2,c3⟩,d1,d2,bb0⟩:=FC
  go_simp
  refine hK.out _ _ trivial (fun _=>?_)
  clear hK K
  try simp only [pU0]
  have FC:=And.intro (And.intro c0 (And.intro c1 (And.intro c2 c3))) (And.intro d1 (And.intro d2 bb0))
  clear c0 c1 c2 c3 d1 d2 bb0
  refine tq0 (i:=5) (v:=?_) rfl ?_ trivial ?_
  rotate_left
  ·intro w hSw;(try dsimp only at hSw);go_simp;try with_reducible rfl
  try simp only [Act.put,pU0]
  refine lstH (l':=#[true,true,true,true,true,true,false,true,true,true,true,true,false,false,false]) (by kernel_rfl) ?_
  have F:=FC
  clear FC
  revert F
  revert y
  exact t1_4_9_11_.out
  )
  )
  focus (
  intro y F
  have FC:=F
  clear F
  refine wpAnyH_ready (rs:=[6,11]) (by kernel_rfl) (by simp) ?_
  refine AllReadyH.cons rfl (fun K hK=>?_) (AllReadyH.cons rfl (fun K hK=>?_) AllReadyH.nil)
  focus (
  obtain ⟨⟨c0,c1,c2,c3⟩,d1,d2,bb0⟩:=FC
  go_simp
  refine hK.out _ _ trivial (fun _=>?_)
  clear hK K
  try simp only [pU0]
  have FC:=And.intro (And.intro c0 (And.intro c1 (And.intro c2 c3))) (And.intro d1 (And.intro d2 bb0))
  clear c0 c1 c2 c3 d1 d2 bb0
  refine lstH (l':=#[true,true,true,true,true,true,true,true,true,true,true,false,false,false,false]) (by kernel_rfl) ?_
  have F:=FC
  clear FC
  revert F
  revert y
  exact t1_4_6_9_.out
  )
  focus (
  obtain ⟨⟨c0,c1,c2,c3⟩,d1,d2,bb0⟩:=FC
  go_simp
  refine hK.out _ _ trivial (fun _=>?_)
  clear hK K
  try simp only [pU0]
  have FC:=And.intro (And.intro c0 (And.intro c1 (And.intro c2 c3))) (And.intro d1 (And.intro d2 bb0))
  clear c0 c1 c2 c3 d1 d2 bb0
  refine lstH (l':=#[true,true,true,true,true,true,false,true,true,true,true,true,false,false,false]) (by kernel_rfl) ?_
  have F:=FC
  clear FC
  revert F
  revert y
  exact t1_4_9_11_.out
  )
  )
  focus (
  intro y F
  have FC:=F
  clear F
  refine wr0 (i:=9) rfl (fun K hK=>?_)
  focus (
  obtain ⟨⟨c0,c1,c2,c3⟩,d1,d2,bb0⟩:=FC
  go_simp
  refine hK.out _ _ trivial (fun _=>?_)
  clear hK K
  try simp only [pU0]
  have FC:=And.intro (And.intro c0 (And.intro c1 (And.intro c2 c3))) (And.intro d1 (And.intro d2 bb0))
  clear c0 c1 c2 c3 d1 d2 bb0
  refine tq0 (i:=10) (v:=?_) rfl ?_ trivial ?_
  rotate_left
  ·intro w hSw;(try dsimp only at hSw);go_simp;try with_reducible rfl
  try simp only [Act.put,pU0]
  refine lstH (l':=#[true,true,true,true,true,true,true,true,true,true,true,false,false,false,false]) (by kernel_rfl) ?_
  have F:=FC
  clear FC
  revert F
  revert y
  exact t1_4_6_9_.out
  )
  )
  focus (
  intro y F
  have FC:=F
  clear F
  refine wpAnyH_ready (rs:=[1,12]) (by kernel_rfl) (by simp) ?_
  refine AllReadyH.cons rfl (fun K hK=>?_) (AllReadyH.cons rfl (fun K hK=>?_) AllReadyH.nil)
  focus (
  obtain ⟨⟨c0,c1,c2,c3⟩,d1,d2,bb0⟩:=FC
  go_simp
  refine hK.out _ _ trivial (fun _=>?_)
  clear hK K
  try simp only [pU0]
  have FC:=And.intro (And.intro c0 (And.intro c1 (And.intro c2 c3))) (And.intro d1 (And.intro d2 bb0))
  clear c0 c1 c2 c3 d1 d2 bb0
  refine lstH (l':=#[true,true,true,true,true,true,true,true,true,true,true,true,false,false,false]) (by kernel_rfl) ?_
  have F:=FC
  clear FC
  revert F
  revert y
  exact t1_4_6_9_11_.out
  )
  focus (
  go_simp
  refine hK.out _ _ trivial (fun _=>?_)
  clear hK K
  try simp only [pU0]
  refine lstH (l':=#[true,false,true,true,true,true,true,true,true,true,true,true,true,false,false]) (by kernel_rfl) ?_
  have F:=FC
  clear FC
  revert F
  revert y
  exact t4_6_9_11_12_.out
  )
  )
  focus (
  intro y F
  have FC:=F
  clear F
  refine wr0 (i:=6) rfl (fun K hK=>?_)
  focus (
  obtain ⟨⟨c0,c1,c2,c3⟩,d1,d2,bb0⟩:=FC
  go_simp
  refine hK.out _ _ trivial (fun _=>?_)
  clear hK K
  try simp only [pU0]
  have FC:=And.intro (And.intro c0 (And.intro c1 (And.intro c2 c3))) (And.intro d1 (And.intro d2 bb0))
  clear c0 c1 c2 c3 d1 d2 bb0
  refine lstH (l':=#[true,true,true,true,true,true,true,true,true,true,true,true,false,false,false]) (by kernel_rfl) ?_
  have F:=FC
  clear FC
  revert F
  revert y
  exact t1_4_6_9_11_.out
  )
  )
  focus (
  intro y F
  have FC:=F
  clear F
  refine wr0 (i:=11) rfl (fun K hK=>?_)
  focus (
  obtain ⟨⟨c0,c1,c2,c3⟩,d1,d2,bb0⟩:=FC
  go_simp
  refine hK.out _ _ trivial (fun _=>?_)
  clear hK K
  try simp only [pU0]
  have FC:=And.intro (And.intro c0 (And.intro c1 (And.intro c2 c3))) (And.intro d1 (And.intro d2 bb0))
  clear c0 c1 c2 c3 d1 d2 bb0
  refine lstH (l':=#[true,true,true,true,true,true,true,true,true,true,true,true,false,false,false]) (by kernel_rfl) ?_
  have F:=FC
  clear FC
  revert F
  revert y
  exact t1_4_6_9_11_.out
  )
  )
  focus (
  intro y F
  have FC:=F
  clear F
  refine wr0 (i:=1) rfl (fun K hK=>?_)
  focus (
  obtain ⟨⟨c0,c1,c2,c3⟩,d1,d2,bb0⟩:=FC
  go_simp
  refine hK.out _ _ trivial (fun _=>?_)
  clear hK K
  try simp only [pU0]
  have FC:=And.intro (And.intro c0 (And.intro c1 (And.intro c2 c3))) (And.intro d1 (And.intro d2 bb0))
  clear c0 c1 c2 c3 d1 d2 bb0
  refine lstH (l':=#[true,true,true,true,true,true,true,true,true,true,true,true,true,false,false]) (by kernel_rfl) ?_
  have F:=FC
  clear FC
  revert F
  revert y
  exact t1_4_6_9_11_12_.out
  )
  )
  focus (
  intro y F
  have FC:=F
  clear F
  refine wr0 (i:=12) rfl (fun K hK=>?_)
  focus (
  go_simp
  refine hK.out _ _ trivial (fun _=>?_)
  clear hK K
  try simp only [pU0]
  refine lstH (l':=#[true,true,true,true,true,true,true,true,true,true,true,true,true,false,false]) (by kernel_rfl) ?_
  have F:=FC
  clear FC
  revert F
  revert y
  exact t1_4_6_9_11_12_.out
  )
  )
  focus (
  intro y F
  have FC:=F
  clear F
  refine wr0 (i:=13) rfl (fun K hK=>?_)
  rw [if_pos]
  rotate_left
  ·kernel_rfl
  have HCall:=hideIt (HSy.out _ FC.2.2.2)
  go_wp2_with (go_at_call 118;refine HCall.out.mono ?_;rintro e z ⟨rfl,hk,hb⟩;refine Hid.out ?_)
  refine hidp20 ?_
  refine hK.out _ _ trivial (fun _=>?_)
  clear hK K HCall
  try simp only [pU0]
  refine tq0 (i:=14) (v:=?_) rfl ?_ trivial ?_
  rotate_left
  ·intro w hSw;(try dsimp only at hSw);go_simp;try with_reducible rfl
  try simp only [Act.put,pU0]
  refine wpAnyH_done (by kernel_rfl) ?_ _
  go_wp2
  go_ret
  exact ⟨rfl,hk,hb⟩
  )
 )
set_option maxHeartbeats 4000000 in
theorem pAdd_any {lo G S:Nat} {h:Hd} {p:Hp} {R:List Rw} (i a b:Int) (u:World) (k:HX lo u G h p R) (hi:HInv S h) (hl:lo≤u.heap.size) (ha:0≤a∧a<h.N) (hb0:0≤b∧b<h.N) (hab:a≠b) :
  Calls Tryz.prog 112 #[.pointer (some ⟨G,0,none⟩),.agg #[.int .i64 i,.int .i64 1,.int .i64 a,.int .i64 b]] u fun e v=>MvA lo u G (chgH h i 1 a b) (chgC h a b) e v:=by
 have bW:=belA u (.cells #[.int .i64 i,.int .i64 1,.int .i64 a,.int .i64 b] 28)
 have HC:=hideIt ((pChgA i a b _ (k.up bW) hi (Nat.le_trans hl bW.size) ha hb0 hab).mono fun e v ⟨h1,h2,h3⟩=>(⟨h1,h2,(bW.mono hl).trans h3⟩:MvA lo u G (chgH h i 1 a b) (chgC h a b) e v))
 clear k bW
 go_enter Tryz.func112,Tryz.ntmps112
 go_wp2_with (go_at_call 134;refine HC.out.mono ?_;rintro e v ⟨rfl,hk,hb⟩)
 go_ret
 exact ⟨rfl,hk,hb⟩
set_option maxHeartbeats 4000000 in
theorem pTake_any {lo G S:Nat} {h:Hd} {p:Hp} {R:List Rw} (i a b:Int) (u:World) (k:HX lo u G h p R) (hi:HInv S h) (hl:lo≤u.heap.size) (ha:0≤a∧a<h.N) (hb0:0≤b∧b<h.N) (hab:a≠b) :
  Calls Tryz.prog 113 #[.pointer (some ⟨G,0,none⟩),.agg #[.int .i64 i,.int .i64 2,.int .i64 a,.int .i64 b]] u fun e v=>MvA lo u G (chgH h i 2 a b) (chgC h a b) e v:=by
 have bW:=belA u (.cells #[.int .i64 i,.int .i64 2,.int .i64 a,.int .i64 b] 28)
 have HC:=hideIt ((pChgT i a b _ (k.up bW) hi (Nat.le_trans hl bW.size) ha hb0 hab).mono fun e v ⟨h1,h2,h3⟩=>(⟨h1,h2,(bW.mono hl).trans h3⟩:MvA lo u G (chgH h i 2 a b) (chgC h a b) e v))
 clear k bW
 go_enter Tryz.func113,Tryz.ntmps113
 go_wp2_with (go_at_call 134;refine HC.out.mono ?_;rintro e v ⟨rfl,hk,hb⟩)
 go_ret
 exact ⟨rfl,hk,hb⟩
set_option maxRecDepth 100000 in
set_option maxHeartbeats 8000000 in
theorem ask120 {lo G:Nat} {h:Hd} {p:Hp} {R:List Rw} (g:Hd) (i a b:Int) (u:World) (k:HX lo u G h p R) (hl:lo≤u.heap.size) (hr:rgB h.N p.l.n 1 a b=true)
  (HF:∀ v,Below u.heap.size u v→Calls Tryz.prog 112 #[.pointer (some ⟨G,0,none⟩),.agg #[.int .i64 i,.int .i64 1,.int .i64 a,.int .i64 b]] v fun e x=>∃ c:Int,(c=1∨c=2)∧MvA lo v G g c e x) :
  Calls Tryz.prog 92 #[.pointer (some ⟨G,0,none⟩),.agg #[.int .i64 i,.int .i64 1,.int .i64 a,.int .i64 b]] u fun e v=>∃ c:Int,(c=1∨c=2)∧MvA lo u G g c e v:=by
 have bA:=belA u (.cells #[.int .i64 i,.int .i64 1,.int .i64 a,.int .i64 b] 28)
 have HM:=hideIt (makesSense_any (G:=G) (h:=h) (p:=p) i 1 a b (u.alloc (.cells #[.int .i64 i,.int .i64 1,.int .i64 a,.int .i64 b] 28)) (k.bx.up bA))
 rw [hr] at HM
 have XA:=hideIt (BxA.new u 28 #[.int .i64 i,.int .i64 1,.int .i64 a,.int .i64 b])
 have HCf:Hid (∀ V,Below u.heap.size u V→∀ v,Below V.heap.size V v→Calls Tryz.prog 112 #[.pointer (some ⟨G,0,none⟩),.agg #[.int .i64 i,.int .i64 1,.int .i64 a,.int .i64 b]] v fun e x=>∃ c:Int,(c=1∨c=2)∧e=.returned (.int .i64 c)∧(∃ p R,HX lo x G g p R)∧Below lo u x):=fun V hV v hv =>
  (HF v (hV.trans (hv.mono hV.size))).mono fun e x ⟨c,hc,h1,h2,h3⟩=>⟨c,hc,h1,h2,((hV.trans (hv.mono hV.size)).mono hl).trans h3⟩
 have HbA:=hideIt bA
 clear k hl hr HF bA
 go_enter Tryz.func92,Tryz.ntmps92
 go_wp2_with (go_at_call 110;refine HM.out.mono ?_;rintro e w1 ⟨rfl,c1⟩;refine Hid.out ?_)
 refine hidp20 ?_
 have HA1:=hideIt (XA.out.up c1)
 have Hb1:Hid (Below u.heap.size u w1):=HbA.out.trans (c1.mono HbA.out.size)
 clear HM XA c1 HbA
 go_upto_region 3 with fail
 refine wp_region_lit ?_
 go_step
 go_step
 go_step
 go_step
 go_step
 go_step
 go_step
 have T0:=BxA.new w1 144 #[.nilFunc,.nilFunc,.nilFunc,.nilFunc,.nilFunc]
 refine wp_store_mid 144 (.tmp 5) (.tmp 13) rfl w1.heap.size 0 #[.nilFunc,.func (.func 112) #[] #[],.func (.func 113) #[] #[],.func (.func 114) #[] #[],.func (.func 115) #[] #[]] rfl rfl (BxA.there (l:=[.nilFunc,.nilFunc,.nilFunc,.nilFunc,.nilFunc]) T0 (by show 5≤5;omega)) (by kernel_rfl) (by kernel_rfl) ?_
 rw [setCells_setA]
 have T1:=BxA.setA (l:=[.nilFunc,.nilFunc,.nilFunc,.nilFunc,.nilFunc]) T0 0 [.nilFunc,.func (.func 112) #[] #[],.func (.func 113) #[] #[],.func (.func 114) #[] #[],.func (.func 115) #[] #[]]
 rw [setV_all [.nilFunc,.nilFunc,.nilFunc,.nilFunc,.nilFunc] [.nilFunc,.func (.func 112) #[] #[],.func (.func 113) #[] #[],.func (.func 114) #[] #[],.func (.func 115) #[] #[]] rfl] at T1
 have bT:=below_setA (C:=w1.heap.size) (belA w1 (.cells #[.nilFunc,.nilFunc,.nilFunc,.nilFunc,.nilFunc] 144)) (Nat.le_refl _) 0 [.nilFunc,.func (.func 112) #[] #[],.func (.func 113) #[] #[],.func (.func 114) #[] #[],.func (.func 115) #[] #[]]
 obtain ⟨V,hV⟩:=ex0 (setA (w1.alloc (.cells #[.nilFunc,.nilFunc,.nilFunc,.nilFunc,.nilFunc] 144)) w1.heap.size 0 [.nilFunc,.func (.func 112) #[] #[],.func (.func 113) #[] #[],.func (.func 114) #[] #[],.func (.func 115) #[] #[]])
 obtain ⟨B,hB⟩:=ex0 (w1.heap.size)
 rw [← hV,← hB] at T1
 rw [← hV] at bT
 rw [show setA (w1.alloc (.cells #[.nilFunc,.nilFunc,.nilFunc,.nilFunc,.nilFunc] 144)) w1.heap.size 0 (#[.nilFunc,.func (.func 112) #[] #[],.func (.func 113) #[] #[],.func (.func 114) #[] #[],.func (.func 115) #[] #[]]:Array Value).toList=V from hV.symm,← hB]
 have YA:=HA1.out.up bT
 have w0:=YA.cell 0 rfl
 have y1:=YA.cell 1 rfl
 have y2:=YA.cell 2 rfl
 have y3:=YA.cell 3 rfl
 have f1:V.cell? ⟨B,1,none⟩=some (.func (.func 112) #[] #[]):=T1.at 1 rfl
 have HCf:=hideIt (HCf.out V (Hb1.out.trans (bT.mono Hb1.out.size)))
 have lBV:=T1.lt
 clear T0 T1 bT YA hV hB HA1 Hb1
 go_upto_region 4 with fail
 (
  apply viaT
  intro t1_3_5_
  apply viaT
  intro t1_3_
  apply viaT
  intro t1_5_
  apply viaT
  intro t1_
  apply viaT
  intro t5_
  focus (
  refine wp_region_held_drew (S:=fun _=>True) (by kernel_rfl) trivial (fun _=>?_)
  refine tq0 (i:=0) (v:=?_) rfl ?_ trivial ?_
  rotate_left
  ·intro w hSw;(try dsimp only at hSw);go_simp;try with_reducible rfl
  try simp only [Act.put,pU0]
  refine tq0 (i:=4) (v:=?_) rfl ?_ trivial ?_
  rotate_left
  ·intro w hSw;(try dsimp only at hSw);go_simp;try with_reducible rfl
  try simp only [Act.put,pU0]
  obtain ⟨y,hy⟩:=ex0 (V.drew)
  have FC:(y.cell? ⟨u.heap.size,0,none⟩=some (.int .i64 i)∧y.cell? ⟨u.heap.size,1,none⟩=some (.int .i64 1)∧y.cell? ⟨u.heap.size,2,none⟩=some (.int .i64 a)∧y.cell? ⟨u.heap.size,3,none⟩=some (.int .i64 b))∧y.cell? ⟨B,1,none⟩=some (.func (.func 112) #[] #[])∧Below V.heap.size V y:=by rw [hy];exact ⟨⟨w0,y1,y2,y3⟩,f1,(Below.refl _ _).drew⟩
  rw [← hy]
  clear hy
  refine wpAnyH_ready (rs:=[1,5]) (by kernel_rfl) (by simp) ?_
  refine AllReadyH.cons rfl (fun K hK=>?_) (AllReadyH.cons rfl (fun K hK=>?_) AllReadyH.nil)
  focus (
  obtain ⟨⟨c0,c1,c2,c3⟩,d1,bb0⟩:=FC
  go_simp
  refine hK.out _ _ trivial (fun _=>?_)
  clear hK K
  try simp only [Act.put,pU0]
  have FC:=And.intro (And.intro c0 (And.intro c1 (And.intro c2 c3))) (And.intro d1 bb0)
  clear c0 c1 c2 c3 d1 bb0
  refine tq0 (i:=2) (v:=?_) rfl ?_ trivial ?_
  rotate_left
  ·intro w hSw;(try dsimp only at hSw);go_simp;try with_reducible rfl
  try simp only [Act.put,pU0]
  refine lstH (l':=#[true,true,true,false,true,false,false,false]) (by kernel_rfl) ?_
  have F:=FC
  clear FC
  revert F
  revert y
  exact t1_.out
  )
  focus (
  obtain ⟨⟨c0,c1,c2,c3⟩,d1,bb0⟩:=FC
  go_simp
  refine hK.out _ _ trivial (fun _=>?_)
  clear hK K
  try simp only [Act.put,pU0]
  have FC:=And.intro (And.intro c0 (And.intro c1 (And.intro c2 c3))) (And.intro d1 bb0)
  clear c0 c1 c2 c3 d1 bb0
  refine lstH (l':=#[true,false,false,false,true,true,false,false]) (by kernel_rfl) ?_
  have F:=FC
  clear FC
  revert F
  revert y
  exact t5_.out
  )
  )
  focus (
  intro y F
  have FC:=F
  clear F
  refine wr0 (i:=1) rfl (fun K hK=>?_)
  focus (
  obtain ⟨⟨c0,c1,c2,c3⟩,d1,bb0⟩:=FC
  go_simp
  refine hK.out _ _ trivial (fun _=>?_)
  clear hK K
  try simp only [pU0]
  have FC:=And.intro (And.intro c0 (And.intro c1 (And.intro c2 c3))) (And.intro d1 bb0)
  clear c0 c1 c2 c3 d1 bb0
  refine tq0 (i:=2) (v:=?_) rfl ?_ trivial ?_
  rotate_left
  ·intro w hSw;(try dsimp only at hSw);go_simp;try with_reducible rfl
  try simp only [Act.put,pU0]
  refine lstH (l':=#[true,true,true,false,true,true,false,false]) (by kernel_rfl) ?_
  have F:=FC
  clear FC
  revert F
  revert y
  exact t1_5_.out
  )
  )
  focus (
  intro y F
  have FC:=F
  clear F
  refine wpAnyH_ready (rs:=[3,5]) (by kernel_rfl) (by simp) ?_
  refine AllReadyH.cons rfl (fun K hK=>?_) (AllReadyH.cons rfl (fun K hK=>?_) AllReadyH.nil)
  focus (
  obtain ⟨⟨c0,c1,c2,c3⟩,d1,bb0⟩:=FC
  go_simp
  refine hK.out _ _ trivial (fun _=>?_)
  clear hK K
  try simp only [pU0]
  have FC:=And.intro (And.intro c0 (And.intro c1 (And.intro c2 c3))) (And.intro d1 bb0)
  clear c0 c1 c2 c3 d1 bb0
  refine lstH (l':=#[true,true,true,true,true,false,false,false]) (by kernel_rfl) ?_
  have F:=FC
  clear FC
  revert F
  revert y
  exact t1_3_.out
  )
  focus (
  obtain ⟨⟨c0,c1,c2,c3⟩,d1,bb0⟩:=FC
  go_simp
  refine hK.out _ _ trivial (fun _=>?_)
  clear hK K
  try simp only [pU0]
  have FC:=And.intro (And.intro c0 (And.intro c1 (And.intro c2 c3))) (And.intro d1 bb0)
  clear c0 c1 c2 c3 d1 bb0
  refine lstH (l':=#[true,true,true,false,true,true,false,false]) (by kernel_rfl) ?_
  have F:=FC
  clear FC
  revert F
  revert y
  exact t1_5_.out
  )
  )
  focus (
  intro y F
  have FC:=F
  clear F
  refine wr0 (i:=3) rfl (fun K hK=>?_)
  focus (
  obtain ⟨⟨c0,c1,c2,c3⟩,d1,bb0⟩:=FC
  go_simp
  refine hK.out _ _ trivial (fun _=>?_)
  clear hK K
  try simp only [pU0]
  have FC:=And.intro (And.intro c0 (And.intro c1 (And.intro c2 c3))) (And.intro d1 bb0)
  clear c0 c1 c2 c3 d1 bb0
  refine lstH (l':=#[true,true,true,true,true,true,false,false]) (by kernel_rfl) ?_
  have F:=FC
  clear FC
  revert F
  revert y
  exact t1_3_5_.out
  )
  )
  focus (
  intro y F
  have FC:=F
  clear F
  refine wr0 (i:=5) rfl (fun K hK=>?_)
  focus (
  obtain ⟨⟨c0,c1,c2,c3⟩,d1,bb0⟩:=FC
  go_simp
  refine hK.out _ _ trivial (fun _=>?_)
  clear hK K
  try simp only [pU0]
  have FC:=And.intro (And.intro c0 (And.intro c1 (And.intro c2 c3))) (And.intro d1 bb0)
  clear c0 c1 c2 c3 d1 bb0
  refine lstH (l':=#[true,true,true,true,true,true,false,false]) (by kernel_rfl) ?_
  have F:=FC
  clear FC
  revert F
  revert y
  exact t1_3_5_.out
  )
  )
  focus (
  intro y F
  have FC:=F
  clear F
  refine wr0 (i:=6) rfl (fun K hK=>?_)
  rw [if_pos]
  rotate_left
  ·kernel_rfl
  have HCall:=hideIt (HCf.out _ FC.2.2)
  go_wp2_with (go_at_call 112;refine HCall.out.mono ?_;rintro e z ⟨cc,hcc,rfl,hk,hb⟩;refine Hid.out ?_)
  refine hidp20 ?_
  refine hK.out _ _ trivial (fun _=>?_)
  clear hK K HCall
  try simp only [pU0]
  refine tq0 (i:=7) (v:=?_) rfl ?_ trivial ?_
  rotate_left
  ·intro w hSw;(try dsimp only at hSw);go_simp;try with_reducible rfl
  try simp only [Act.put,pU0]
  refine wpAnyH_done (by kernel_rfl) ?_ _
  go_wp2
  go_ret
  exact ⟨cc,hcc,rfl,hk,hb⟩
  )
 )
set_option maxRecDepth 100000 in
set_option maxHeartbeats 8000000 in
theorem ask220 {lo G:Nat} {h:Hd} {p:Hp} {R:List Rw} (g:Hd) (i a b:Int) (u:World) (k:HX lo u G h p R) (hl:lo≤u.heap.size) (hr:rgB h.N p.l.n 2 a b=true)
  (HF:∀ v,Below u.heap.size u v→Calls Tryz.prog 113 #[.pointer (some ⟨G,0,none⟩),.agg #[.int .i64 i,.int .i64 2,.int .i64 a,.int .i64 b]] v fun e x=>∃ c:Int,(c=1∨c=2)∧MvA lo v G g c e x) :
  Calls Tryz.prog 92 #[.pointer (some ⟨G,0,none⟩),.agg #[.int .i64 i,.int .i64 2,.int .i64 a,.int .i64 b]] u fun e v=>∃ c:Int,(c=1∨c=2)∧MvA lo u G g c e v:=by
 have bA:=belA u (.cells #[.int .i64 i,.int .i64 2,.int .i64 a,.int .i64 b] 28)
 have HM:=hideIt (makesSense_any (G:=G) (h:=h) (p:=p) i 2 a b (u.alloc (.cells #[.int .i64 i,.int .i64 2,.int .i64 a,.int .i64 b] 28)) (k.bx.up bA))
 rw [hr] at HM
 have XA:=hideIt (BxA.new u 28 #[.int .i64 i,.int .i64 2,.int .i64 a,.int .i64 b])
 have HCf:Hid (∀ V,Below u.heap.size u V→∀ v,Below V.heap.size V v→Calls Tryz.prog 113 #[.pointer (some ⟨G,0,none⟩),.agg #[.int .i64 i,.int .i64 2,.int .i64 a,.int .i64 b]] v fun e x=>∃ c:Int,(c=1∨c=2)∧e=.returned (.int .i64 c)∧(∃ p R,HX lo x G g p R)∧Below lo u x):=fun V hV v hv =>
  (HF v (hV.trans (hv.mono hV.size))).mono fun e x ⟨c,hc,h1,h2,h3⟩=>⟨c,hc,h1,h2,((hV.trans (hv.mono hV.size)).mono hl).trans h3⟩
 have HbA:=hideIt bA
 clear k hl hr HF bA
 go_enter Tryz.func92,Tryz.ntmps92
 go_wp2_with (go_at_call 110;refine HM.out.mono ?_;rintro e w1 ⟨rfl,c1⟩;refine Hid.out ?_)
 refine hidp20 ?_
 have HA1:=hideIt (XA.out.up c1)
 have Hb1:Hid (Below u.heap.size u w1):=HbA.out.trans (c1.mono HbA.out.size)
 clear HM XA c1 HbA
 go_upto_region 3 with fail
 refine wp_region_lit ?_
 go_step
 go_step
 go_step
 go_step
 go_step
 go_step
 go_step
 have T0:=BxA.new w1 144 #[.nilFunc,.nilFunc,.nilFunc,.nilFunc,.nilFunc]
 refine wp_store_mid 144 (.tmp 5) (.tmp 13) rfl w1.heap.size 0 #[.nilFunc,.func (.func 112) #[] #[],.func (.func 113) #[] #[],.func (.func 114) #[] #[],.func (.func 115) #[] #[]] rfl rfl (BxA.there (l:=[.nilFunc,.nilFunc,.nilFunc,.nilFunc,.nilFunc]) T0 (by show 5≤5;omega)) (by kernel_rfl) (by kernel_rfl) ?_
 rw [setCells_setA]
 have T1:=BxA.setA (l:=[.nilFunc,.nilFunc,.nilFunc,.nilFunc,.nilFunc]) T0 0 [.nilFunc,.func (.func 112) #[] #[],.func (.func 113) #[] #[],.func (.func 114) #[] #[],.func (.func 115) #[] #[]]
 rw [setV_all [.nilFunc,.nilFunc,.nilFunc,.nilFunc,.nilFunc] [.nilFunc,.func (.func 112) #[] #[],.func (.func 113) #[] #[],.func (.func 114) #[] #[],.func (.func 115) #[] #[]] rfl] at T1
 have bT:=below_setA (C:=w1.heap.size) (belA w1 (.cells #[.nilFunc,.nilFunc,.nilFunc,.nilFunc,.nilFunc] 144)) (Nat.le_refl _) 0 [.nilFunc,.func (.func 112) #[] #[],.func (.func 113) #[] #[],.func (.func 114) #[] #[],.func (.func 115) #[] #[]]
 obtain ⟨V,hV⟩:=ex0 (setA (w1.alloc (.cells #[.nilFunc,.nilFunc,.nilFunc,.nilFunc,.nilFunc] 144)) w1.heap.size 0 [.nilFunc,.func (.func 112) #[] #[],.func (.func 113) #[] #[],.func (.func 114) #[] #[],.func (.func 115) #[] #[]])
 obtain ⟨B,hB⟩:=ex0 (w1.heap.size)
 rw [← hV,← hB] at T1
 rw [← hV] at bT
 rw [show setA (w1.alloc (.cells #[.nilFunc,.nilFunc,.nilFunc,.nilFunc,.nilFunc] 144)) w1.heap.size 0 (#[.nilFunc,.func (.func 112) #[] #[],.func (.func 113) #[] #[],.func (.func 114) #[] #[],.func (.func 115) #[] #[]]:Array Value).toList=V from hV.symm,← hB]
 have YA:=HA1.out.up bT
 have w0:=YA.cell 0 rfl
 have y1:=YA.cell 1 rfl
 have y2:=YA.cell 2 rfl
 have y3:=YA.cell 3 rfl
 have f2:V.cell? ⟨B,2,none⟩=some (.func (.func 113) #[] #[]):=T1.at 2 rfl
 have HCf:=hideIt (HCf.out V (Hb1.out.trans (bT.mono Hb1.out.size)))
 have lBV:=T1.lt
 clear T0 T1 bT YA hV hB HA1 Hb1
 go_upto_region 4 with fail
 (
  apply viaT
  intro t1_3_5_
  apply viaT
  intro t1_3_
  apply viaT
  intro t1_5_
  apply viaT
  intro t1_
  apply viaT
  intro t5_
  focus (
  refine wp_region_held_drew (S:=fun _=>True) (by kernel_rfl) trivial (fun _=>?_)
  refine tq0 (i:=0) (v:=?_) rfl ?_ trivial ?_
  rotate_left
  ·intro w hSw;(try dsimp only at hSw);go_simp;try with_reducible rfl
  try simp only [Act.put,pU0]
  refine tq0 (i:=4) (v:=?_) rfl ?_ trivial ?_
  rotate_left
  ·intro w hSw;(try dsimp only at hSw);go_simp;try with_reducible rfl
  try simp only [Act.put,pU0]
  obtain ⟨y,hy⟩:=ex0 (V.drew)
  have FC:(y.cell? ⟨u.heap.size,0,none⟩=some (.int .i64 i)∧y.cell? ⟨u.heap.size,1,none⟩=some (.int .i64 2)∧y.cell? ⟨u.heap.size,2,none⟩=some (.int .i64 a)∧y.cell? ⟨u.heap.size,3,none⟩=some (.int .i64 b))∧y.cell? ⟨B,2,none⟩=some (.func (.func 113) #[] #[])∧Below V.heap.size V y:=by rw [hy];exact ⟨⟨w0,y1,y2,y3⟩,f2,(Below.refl _ _).drew⟩
  rw [← hy]
  clear hy
  refine wpAnyH_ready (rs:=[1,5]) (by kernel_rfl) (by simp) ?_
  refine AllReadyH.cons rfl (fun K hK=>?_) (AllReadyH.cons rfl (fun K hK=>?_) AllReadyH.nil)
  focus (
  obtain ⟨⟨c0,c1,c2,c3⟩,d1,bb0⟩:=FC
  go_simp
  refine hK.out _ _ trivial (fun _=>?_)
  clear hK K
  try simp only [Act.put,pU0]
  have FC:=And.intro (And.intro c0 (And.intro c1 (And.intro c2 c3))) (And.intro d1 bb0)
  clear c0 c1 c2 c3 d1 bb0
  refine tq0 (i:=2) (v:=?_) rfl ?_ trivial ?_
  rotate_left
  ·intro w hSw;(try dsimp only at hSw);go_simp;try with_reducible rfl
  try simp only [Act.put,pU0]
  refine lstH (l':=#[true,true,true,false,true,false,false,false]) (by kernel_rfl) ?_
  have F:=FC
  clear FC
  revert F
  revert y
  exact t1_.out
  )
  focus (
  obtain ⟨⟨c0,c1,c2,c3⟩,d1,bb0⟩:=FC
  go_simp
  refine hK.out _ _ trivial (fun _=>?_)
  clear hK K
  try simp only [Act.put,pU0]
  have FC:=And.intro (And.intro c0 (And.intro c1 (And.intro c2 c3))) (And.intro d1 bb0)
  clear c0 c1 c2 c3 d1 bb0
  refine lstH (l':=#[true,false,false,false,true,true,false,false]) (by kernel_rfl) ?_
  have F:=FC
  clear FC
  revert F
  revert y
  exact t5_.out
  )
  )
  focus (
  intro y F
  have FC:=F
  clear F
  refine wr0 (i:=1) rfl (fun K hK=>?_)
  focus (
  obtain ⟨⟨c0,c1,c2,c3⟩,d1,bb0⟩:=FC
  go_simp
  refine hK.out _ _ trivial (fun _=>?_)
  clear hK K
  try simp only [pU0]
  have FC:=And.intro (And.intro c0 (And.intro c1 (And.intro c2 c3))) (And.intro d1 bb0)
  clear c0 c1 c2 c3 d1 bb0
  refine tq0 (i:=2) (v:=?_) rfl ?_ trivial ?_
  rotate_left
  ·intro w hSw;(try dsimp only at hSw);go_simp;try with_reducible rfl
  try simp only [Act.put,pU0]
  refine lstH (l':=#[true,true,true,false,true,true,false,false]) (by kernel_rfl) ?_
  have F:=FC
  clear FC
  revert F
  revert y
  exact t1_5_.out
  )
  )
  focus (
  intro y F
  have FC:=F
  clear F
  refine wpAnyH_ready (rs:=[3,5]) (by kernel_rfl) (by simp) ?_
  refine AllReadyH.cons rfl (fun K hK=>?_) (AllReadyH.cons rfl (fun K hK=>?_) AllReadyH.nil)
  focus (
  obtain ⟨⟨c0,c1,c2,c3⟩,d1,bb0⟩:=FC
  go_simp
  refine hK.out _ _ trivial (fun _=>?_)
  clear hK K
  try simp only [pU0]
  have FC:=And.intro (And.intro c0 (And.intro c1 (And.intro c2 c3))) (And.intro d1 bb0)
  clear c0 c1 c2 c3 d1 bb0
  refine lstH (l':=#[true,true,true,true,true,false,false,false]) (by kernel_rfl) ?_
  have F:=FC
  clear FC
  revert F
  revert y
  exact t1_3_.out
  )
  focus (
  obtain ⟨⟨c0,c1,c2,c3⟩,d1,bb0⟩:=FC
  go_simp
  refine hK.out _ _ trivial (fun _=>?_)
  clear hK K
  try simp only [pU0]
  have FC:=And.intro (And.intro c0 (And.intro c1 (And.intro c2 c3))) (And.intro d1 bb0)
  clear c0 c1 c2 c3 d1 bb0
  refine lstH (l':=#[true,true,true,false,true,true,false,false]) (by kernel_rfl) ?_
  have F:=FC
  clear FC
  revert F
  revert y
  exact t1_5_.out
  )
  )
  focus (
  intro y F
  have FC:=F
  clear F
  refine wr0 (i:=3) rfl (fun K hK=>?_)
  focus (
  obtain ⟨⟨c0,c1,c2,c3⟩,d1,bb0⟩:=FC
  go_simp
  refine hK.out _ _ trivial (fun _=>?_)
  clear hK K
  try simp only [pU0]
  have FC:=And.intro (And.intro c0 (And.intro c1 (And.intro c2 c3))) (And.intro d1 bb0)
  clear c0 c1 c2 c3 d1 bb0
  refine lstH (l':=#[true,true,true,true,true,true,false,false]) (by kernel_rfl) ?_
  have F:=FC
  clear FC
  revert F
  revert y
  exact t1_3_5_.out
  )
  )
  focus (
  intro y F
  have FC:=F
  clear F
  refine wr0 (i:=5) rfl (fun K hK=>?_)
  focus (
  obtain ⟨⟨c0,c1,c2,c3⟩,d1,bb0⟩:=FC
  go_simp
  refine hK.out _ _ trivial (fun _=>?_)
  clear hK K
  try simp only [pU0]
  have FC:=And.intro (And.intro c0 (And.intro c1 (And.intro c2 c3))) (And.intro d1 bb0)
  clear c0 c1 c2 c3 d1 bb0
  refine lstH (l':=#[true,true,true,true,true,true,false,false]) (by kernel_rfl) ?_
  have F:=FC
  clear FC
  revert F
  revert y
  exact t1_3_5_.out
  )
  )
  focus (
  intro y F
  have FC:=F
  clear F
  refine wr0 (i:=6) rfl (fun K hK=>?_)
  rw [if_pos]
  rotate_left
  ·kernel_rfl
  have HCall:=hideIt (HCf.out _ FC.2.2)
  go_wp2_with (go_at_call 113;refine HCall.out.mono ?_;rintro e z ⟨cc,hcc,rfl,hk,hb⟩;refine Hid.out ?_)
  refine hidp20 ?_
  refine hK.out _ _ trivial (fun _=>?_)
  clear hK K HCall
  try simp only [pU0]
  refine tq0 (i:=7) (v:=?_) rfl ?_ trivial ?_
  rotate_left
  ·intro w hSw;(try dsimp only at hSw);go_simp;try with_reducible rfl
  try simp only [Act.put,pU0]
  refine wpAnyH_done (by kernel_rfl) ?_ _
  go_wp2
  go_ret
  exact ⟨cc,hcc,rfl,hk,hb⟩
  )
 )
set_option maxRecDepth 100000 in
set_option maxHeartbeats 8000000 in
theorem ask320 {lo G:Nat} {h:Hd} {p:Hp} {R:List Rw} (g:Hd) (i a b:Int) (u:World) (k:HX lo u G h p R) (hl:lo≤u.heap.size) (hr:rgB h.N p.l.n 3 a b=true)
  (HF:∀ v,Below u.heap.size u v→Calls Tryz.prog 114 #[.pointer (some ⟨G,0,none⟩),.agg #[.int .i64 i,.int .i64 3,.int .i64 a,.int .i64 b]] v fun e x=>∃ c:Int,(c=1∨c=2)∧MvA lo v G g c e x) :
  Calls Tryz.prog 92 #[.pointer (some ⟨G,0,none⟩),.agg #[.int .i64 i,.int .i64 3,.int .i64 a,.int .i64 b]] u fun e v=>∃ c:Int,(c=1∨c=2)∧MvA lo u G g c e v:=by
 have bA:=belA u (.cells #[.int .i64 i,.int .i64 3,.int .i64 a,.int .i64 b] 28)
 have HM:=hideIt (makesSense_any (G:=G) (h:=h) (p:=p) i 3 a b (u.alloc (.cells #[.int .i64 i,.int .i64 3,.int .i64 a,.int .i64 b] 28)) (k.bx.up bA))
 rw [hr] at HM
 have XA:=hideIt (BxA.new u 28 #[.int .i64 i,.int .i64 3,.int .i64 a,.int .i64 b])
 have HCf:Hid (∀ V,Below u.heap.size u V→∀ v,Below V.heap.size V v→Calls Tryz.prog 114 #[.pointer (some ⟨G,0,none⟩),.agg #[.int .i64 i,.int .i64 3,.int .i64 a,.int .i64 b]] v fun e x=>∃ c:Int,(c=1∨c=2)∧e=.returned (.int .i64 c)∧(∃ p R,HX lo x G g p R)∧Below lo u x):=fun V hV v hv =>
  (HF v (hV.trans (hv.mono hV.size))).mono fun e x ⟨c,hc,h1,h2,h3⟩=>⟨c,hc,h1,h2,((hV.trans (hv.mono hV.size)).mono hl).trans h3⟩
 have HbA:=hideIt bA
 clear k hl hr HF bA
 go_enter Tryz.func92,Tryz.ntmps92
 go_wp2_with (go_at_call 110;refine HM.out.mono ?_;rintro e w1 ⟨rfl,c1⟩;refine Hid.out ?_)
 refine hidp20 ?_
 have HA1:=hideIt (XA.out.up c1)
 have Hb1:Hid (Below u.heap.size u w1):=HbA.out.trans (c1.mono HbA.out.size)
 clear HM XA c1 HbA
 go_upto_region 3 with fail
 refine wp_region_lit ?_
 go_step
 go_step
 go_step
 go_step
 go_step
 go_step
 go_step
 have T0:=BxA.new w1 144 #[.nilFunc,.nilFunc,.nilFunc,.nilFunc,.nilFunc]
 refine wp_store_mid 144 (.tmp 5) (.tmp 13) rfl w1.heap.size 0 #[.nilFunc,.func (.func 112) #[] #[],.func (.func 113) #[] #[],.func (.func 114) #[] #[],.func (.func 115) #[] #[]] rfl rfl (BxA.there (l:=[.nilFunc,.nilFunc,.nilFunc,.nilFunc,.nilFunc]) T0 (by show 5≤5;omega)) (by kernel_rfl) (by kernel_rfl) ?_
 rw [setCells_setA]
 have T1:=BxA.setA (l:=[.nilFunc,.nilFunc,.nilFunc,.nilFunc,.nilFunc]) T0 0 [.nilFunc,.func (.func 112) #[] #[],.func (.func 113) #[] #[],.func (.func 114) #[] #[],.func (.func 115) #[] #[]]
 rw [setV_all [.nilFunc,.nilFunc,.nilFunc,.nilFunc,.nilFunc] [.nilFunc,.func (.func 112) #[] #[],.func (.func 113) #[] #[],.func (.func 114) #[] #[],.func (.func 115) #[] #[]] rfl] at T1
 have bT:=below_setA (C:=w1.heap.size) (belA w1 (.cells #[.nilFunc,.nilFunc,.nilFunc,.nilFunc,.nilFunc] 144)) (Nat.le_refl _) 0 [.nilFunc,.func (.func 112) #[] #[],.func (.func 113) #[] #[],.func (.func 114) #[] #[],.func (.func 115) #[] #[]]
 obtain ⟨V,hV⟩:=ex0 (setA (w1.alloc (.cells #[.nilFunc,.nilFunc,.nilFunc,.nilFunc,.nilFunc] 144)) w1.heap.size 0 [.nilFunc,.func (.func 112) #[] #[],.func (.func 113) #[] #[],.func (.func 114) #[] #[],.func (.func 115) #[] #[]])
 obtain ⟨B,hB⟩:=ex0 (w1.heap.size)
 rw [← hV,← hB] at T1
 rw [← hV] at bT
 rw [show setA (w1.alloc (.cells #[.nilFunc,.nilFunc,.nilFunc,.nilFunc,.nilFunc] 144)) w1.heap.size 0 (#[.nilFunc,.func (.func 112) #[] #[],.func (.func 113) #[] #[],.func (.func 114) #[] #[],.func (.func 115) #[] #[]]:Array Value).toList=V from hV.symm,← hB]
 have YA:=HA1.out.up bT
 have w0:=YA.cell 0 rfl
 have y1:=YA.cell 1 rfl
 have y2:=YA.cell 2 rfl
 have y3:=YA.cell 3 rfl
 have f3:V.cell? ⟨B,3,none⟩=some (.func (.func 114) #[] #[]):=T1.at 3 rfl
 have HCf:=hideIt (HCf.out V (Hb1.out.trans (bT.mono Hb1.out.size)))
 have lBV:=T1.lt
 clear T0 T1 bT YA hV hB HA1 Hb1
 go_upto_region 4 with fail
 (
  apply viaT
  intro t1_3_5_
  apply viaT
  intro t1_3_
  apply viaT
  intro t1_5_
  apply viaT
  intro t1_
  apply viaT
  intro t5_
  focus (
  refine wp_region_held_drew (S:=fun _=>True) (by kernel_rfl) trivial (fun _=>?_)
  refine tq0 (i:=0) (v:=?_) rfl ?_ trivial ?_
  rotate_left
  ·intro w hSw;(try dsimp only at hSw);go_simp;try with_reducible rfl
  try simp only [Act.put,pU0]
  refine tq0 (i:=4) (v:=?_) rfl ?_ trivial ?_
  rotate_left
  ·intro w hSw;(try dsimp only at hSw);go_simp;try with_reducible rfl
  try simp only [Act.put,pU0]
  obtain ⟨y,hy⟩:=ex0 (V.drew)
  have FC:(y.cell? ⟨u.heap.size,0,none⟩=some (.int .i64 i)∧y.cell? ⟨u.heap.size,1,none⟩=some (.int .i64 3)∧y.cell? ⟨u.heap.size,2,none⟩=some (.int .i64 a)∧y.cell? ⟨u.heap.size,3,none⟩=some (.int .i64 b))∧y.cell? ⟨B,3,none⟩=some (.func (.func 114) #[] #[])∧Below V.heap.size V y:=by rw [hy];exact ⟨⟨w0,y1,y2,y3⟩,f3,(Below.refl _ _).drew⟩
  rw [← hy]
  clear hy
  refine wpAnyH_ready (rs:=[1,5]) (by kernel_rfl) (by simp) ?_
  refine AllReadyH.cons rfl (fun K hK=>?_) (AllReadyH.cons rfl (fun K hK=>?_) AllReadyH.nil)
  focus (
  obtain ⟨⟨c0,c1,c2,c3⟩,d1,bb0⟩:=FC
  go_simp
  refine hK.out _ _ trivial (fun _=>?_)
  clear hK K
  try simp only [Act.put,pU0]
  have FC:=And.intro (And.intro c0 (And.intro c1 (And.intro c2 c3))) (And.intro d1 bb0)
  clear c0 c1 c2 c3 d1 bb0
  refine tq0 (i:=2) (v:=?_) rfl ?_ trivial ?_
  rotate_left
  ·intro w hSw;(try dsimp only at hSw);go_simp;try with_reducible rfl
  try simp only [Act.put,pU0]
  refine lstH (l':=#[true,true,true,false,true,false,false,false]) (by kernel_rfl) ?_
  have F:=FC
  clear FC
  revert F
  revert y
  exact t1_.out
  )
  focus (
  obtain ⟨⟨c0,c1,c2,c3⟩,d1,bb0⟩:=FC
  go_simp
  refine hK.out _ _ trivial (fun _=>?_)
  clear hK K
  try simp only [Act.put,pU0]
  have FC:=And.intro (And.intro c0 (And.intro c1 (And.intro c2 c3))) (And.intro d1 bb0)
  clear c0 c1 c2 c3 d1 bb0
  refine lstH (l':=#[true,false,false,false,true,true,false,false]) (by kernel_rfl) ?_
  have F:=FC
  clear FC
  revert F
  revert y
  exact t5_.out
  )
  )
  focus (
  intro y F
  have FC:=F
  clear F
  refine wr0 (i:=1) rfl (fun K hK=>?_)
  focus (
  obtain ⟨⟨c0,c1,c2,c3⟩,d1,bb0⟩:=FC
  go_simp
  refine hK.out _ _ trivial (fun _=>?_)
  clear hK K
  try simp only [pU0]
  have FC:=And.intro (And.intro c0 (And.intro c1 (And.intro c2 c3))) (And.intro d1 bb0)
  clear c0 c1 c2 c3 d1 bb0
  refine tq0 (i:=2) (v:=?_) rfl ?_ trivial ?_
  rotate_left
  ·intro w hSw;(try dsimp only at hSw);go_simp;try with_reducible rfl
  try simp only [Act.put,pU0]
  refine lstH (l':=#[true,true,true,false,true,true,false,false]) (by kernel_rfl) ?_
  have F:=FC
  clear FC
  revert F
  revert y
  exact t1_5_.out
  )
  )
  focus (
  intro y F
  have FC:=F
  clear F
  refine wpAnyH_ready (rs:=[3,5]) (by kernel_rfl) (by simp) ?_
  refine AllReadyH.cons rfl (fun K hK=>?_) (AllReadyH.cons rfl (fun K hK=>?_) AllReadyH.nil)
  focus (
  obtain ⟨⟨c0,c1,c2,c3⟩,d1,bb0⟩:=FC
  go_simp
  refine hK.out _ _ trivial (fun _=>?_)
  clear hK K
  try simp only [pU0]
  have FC:=And.intro (And.intro c0 (And.intro c1 (And.intro c2 c3))) (And.intro d1 bb0)
  clear c0 c1 c2 c3 d1 bb0
  refine lstH (l':=#[true,true,true,true,true,false,false,false]) (by kernel_rfl) ?_
  have F:=FC
  clear FC
  revert F
  revert y
  exact t1_3_.out
  )
  focus (
  obtain ⟨⟨c0,c1,c2,c3⟩,d1,bb0⟩:=FC
  go_simp
  refine hK.out _ _ trivial (fun _=>?_)
  clear hK K
  try simp only [pU0]
  have FC:=And.intro (And.intro c0 (And.intro c1 (And.intro c2 c3))) (And.intro d1 bb0)
  clear c0 c1 c2 c3 d1 bb0
  refine lstH (l':=#[true,true,true,false,true,true,false,false]) (by kernel_rfl) ?_
  have F:=FC
  clear FC
  revert F
  revert y
  exact t1_5_.out
  )
  )
  focus (
  intro y F
  have FC:=F
  clear F
  refine wr0 (i:=3) rfl (fun K hK=>?_)
  focus (
  obtain ⟨⟨c0,c1,c2,c3⟩,d1,bb0⟩:=FC
  go_simp
  refine hK.out _ _ trivial (fun _=>?_)
  clear hK K
  try simp only [pU0]
  have FC:=And.intro (And.intro c0 (And.intro c1 (And.intro c2 c3))) (And.intro d1 bb0)
  clear c0 c1 c2 c3 d1 bb0
  refine lstH (l':=#[true,true,true,true,true,true,false,false]) (by kernel_rfl) ?_
  have F:=FC
  clear FC
  revert F
  revert y
  exact t1_3_5_.out
  )
  )
  focus (
  intro y F
  have FC:=F
  clear F
  refine wr0 (i:=5) rfl (fun K hK=>?_)
  focus (
  obtain ⟨⟨c0,c1,c2,c3⟩,d1,bb0⟩:=FC
  go_simp
  refine hK.out _ _ trivial (fun _=>?_)
  clear hK K
  try simp only [pU0]
  have FC:=And.intro (And.intro c0 (And.intro c1 (And.intro c2 c3))) (And.intro d1 bb0)
  clear c0 c1 c2 c3 d1 bb0
  refine lstH (l':=#[true,true,true,true,true,true,false,false]) (by kernel_rfl) ?_
  have F:=FC
  clear FC
  revert F
  revert y
  exact t1_3_5_.out
  )
  )
  focus (
  intro y F
  have FC:=F
  clear F
  refine wr0 (i:=6) rfl (fun K hK=>?_)
  rw [if_pos]
  rotate_left
  ·kernel_rfl
  have HCall:=hideIt (HCf.out _ FC.2.2)
  go_wp2_with (go_at_call 114;refine HCall.out.mono ?_;rintro e z ⟨cc,hcc,rfl,hk,hb⟩;refine Hid.out ?_)
  refine hidp20 ?_
  refine hK.out _ _ trivial (fun _=>?_)
  clear hK K HCall
  try simp only [pU0]
  refine tq0 (i:=7) (v:=?_) rfl ?_ trivial ?_
  rotate_left
  ·intro w hSw;(try dsimp only at hSw);go_simp;try with_reducible rfl
  try simp only [Act.put,pU0]
  refine wpAnyH_done (by kernel_rfl) ?_ _
  go_wp2
  go_ret
  exact ⟨cc,hcc,rfl,hk,hb⟩
  )
 )
set_option maxRecDepth 100000 in
set_option maxHeartbeats 8000000 in
theorem ask420 {lo G:Nat} {h:Hd} {p:Hp} {R:List Rw} (g:Hd) (i a b:Int) (u:World) (k:HX lo u G h p R) (hl:lo≤u.heap.size) (hr:rgB h.N p.l.n 4 a b=true)
  (HF:∀ v,Below u.heap.size u v→Calls Tryz.prog 115 #[.pointer (some ⟨G,0,none⟩),.agg #[.int .i64 i,.int .i64 4,.int .i64 a,.int .i64 b]] v fun e x=>∃ c:Int,(c=1∨c=2)∧MvA lo v G g c e x) :
  Calls Tryz.prog 92 #[.pointer (some ⟨G,0,none⟩),.agg #[.int .i64 i,.int .i64 4,.int .i64 a,.int .i64 b]] u fun e v=>∃ c:Int,(c=1∨c=2)∧MvA lo u G g c e v:=by
 have bA:=belA u (.cells #[.int .i64 i,.int .i64 4,.int .i64 a,.int .i64 b] 28)
 have HM:=hideIt (makesSense_any (G:=G) (h:=h) (p:=p) i 4 a b (u.alloc (.cells #[.int .i64 i,.int .i64 4,.int .i64 a,.int .i64 b] 28)) (k.bx.up bA))
 rw [hr] at HM
 have XA:=hideIt (BxA.new u 28 #[.int .i64 i,.int .i64 4,.int .i64 a,.int .i64 b])
 have HCf:Hid (∀ V,Below u.heap.size u V→∀ v,Below V.heap.size V v→Calls Tryz.prog 115 #[.pointer (some ⟨G,0,none⟩),.agg #[.int .i64 i,.int .i64 4,.int .i64 a,.int .i64 b]] v fun e x=>∃ c:Int,(c=1∨c=2)∧e=.returned (.int .i64 c)∧(∃ p R,HX lo x G g p R)∧Below lo u x):=fun V hV v hv =>
  (HF v (hV.trans (hv.mono hV.size))).mono fun e x ⟨c,hc,h1,h2,h3⟩=>⟨c,hc,h1,h2,((hV.trans (hv.mono hV.size)).mono hl).trans h3⟩
 have HbA:=hideIt bA
 clear k hl hr HF bA
 go_enter Tryz.func92,Tryz.ntmps92
 go_wp2_with (go_at_call 110;refine HM.out.mono ?_;rintro e w1 ⟨rfl,c1⟩;refine Hid.out ?_)
 refine hidp20 ?_
 have HA1:=hideIt (XA.out.up c1)
 have Hb1:Hid (Below u.heap.size u w1):=HbA.out.trans (c1.mono HbA.out.size)
 clear HM XA c1 HbA
 go_upto_region 3 with fail
 refine wp_region_lit ?_
 go_step
 go_step
 go_step
 go_step
 go_step
 go_step
 go_step
 have T0:=BxA.new w1 144 #[.nilFunc,.nilFunc,.nilFunc,.nilFunc,.nilFunc]
 refine wp_store_mid 144 (.tmp 5) (.tmp 13) rfl w1.heap.size 0 #[.nilFunc,.func (.func 112) #[] #[],.func (.func 113) #[] #[],.func (.func 114) #[] #[],.func (.func 115) #[] #[]] rfl rfl (BxA.there (l:=[.nilFunc,.nilFunc,.nilFunc,.nilFunc,.nilFunc]) T0 (by show 5≤5;omega)) (by kernel_rfl) (by kernel_rfl) ?_
 rw [setCells_setA]
 have T1:=BxA.setA (l:=[.nilFunc,.nilFunc,.nilFunc,.nilFunc,.nilFunc]) T0 0 [.nilFunc,.func (.func 112) #[] #[],.func (.func 113) #[] #[],.func (.func 114) #[] #[],.func (.func 115) #[] #[]]
 rw [setV_all [.nilFunc,.nilFunc,.nilFunc,.nilFunc,.nilFunc] [.nilFunc,.func (.func 112) #[] #[],.func (.func 113) #[] #[],.func (.func 114) #[] #[],.func (.func 115) #[] #[]] rfl] at T1
 have bT:=below_setA (C:=w1.heap.size) (belA w1 (.cells #[.nilFunc,.nilFunc,.nilFunc,.nilFunc,.nilFunc] 144)) (Nat.le_refl _) 0 [.nilFunc,.func (.func 112) #[] #[],.func (.func 113) #[] #[],.func (.func 114) #[] #[],.func (.func 115) #[] #[]]
 obtain ⟨V,hV⟩:=ex0 (setA (w1.alloc (.cells #[.nilFunc,.nilFunc,.nilFunc,.nilFunc,.nilFunc] 144)) w1.heap.size 0 [.nilFunc,.func (.func 112) #[] #[],.func (.func 113) #[] #[],.func (.func 114) #[] #[],.func (.func 115) #[] #[]])
 obtain ⟨B,hB⟩:=ex0 (w1.heap.size)
 rw [← hV,← hB] at T1
 rw [← hV] at bT
 rw [show setA (w1.alloc (.cells #[.nilFunc,.nilFunc,.nilFunc,.nilFunc,.nilFunc] 144)) w1.heap.size 0 (#[.nilFunc,.func (.func 112) #[] #[],.func (.func 113) #[] #[],.func (.func 114) #[] #[],.func (.func 115) #[] #[]]:Array Value).toList=V from hV.symm,← hB]
 have YA:=HA1.out.up bT
 have w0:=YA.cell 0 rfl
 have y1:=YA.cell 1 rfl
 have y2:=YA.cell 2 rfl
 have y3:=YA.cell 3 rfl
 have f4:V.cell? ⟨B,4,none⟩=some (.func (.func 115) #[] #[]):=T1.at 4 rfl
 have HCf:=hideIt (HCf.out V (Hb1.out.trans (bT.mono Hb1.out.size)))
 have lBV:=T1.lt
 clear T0 T1 bT YA hV hB HA1 Hb1
 go_upto_region 4 with fail
 (
  apply viaT
  intro t1_3_5_
  apply viaT
  intro t1_3_
  apply viaT
  intro t1_5_
  apply viaT
  intro t1_
  apply viaT
  intro t5_
  focus (
  refine wp_region_held_drew (S:=fun _=>True) (by kernel_rfl) trivial (fun _=>?_)
  refine tq0 (i:=0) (v:=?_) rfl ?_ trivial ?_
  rotate_left
  ·intro w hSw;(try dsimp only at hSw);go_simp;try with_reducible rfl
  try simp only [Act.put,pU0]
  refine tq0 (i:=4) (v:=?_) rfl ?_ trivial ?_
  rotate_left
  ·intro w hSw;(try dsimp only at hSw);go_simp;try with_reducible rfl
  try simp only [Act.put,pU0]
  obtain ⟨y,hy⟩:=ex0 (V.drew)
  have FC:(y.cell? ⟨u.heap.size,0,none⟩=some (.int .i64 i)∧y.cell? ⟨u.heap.size,1,none⟩=some (.int .i64 4)∧y.cell? ⟨u.heap.size,2,none⟩=some (.int .i64 a)∧y.cell? ⟨u.heap.size,3,none⟩=some (.int .i64 b))∧y.cell? ⟨B,4,none⟩=some (.func (.func 115) #[] #[])∧Below V.heap.size V y:=by rw [hy];exact ⟨⟨w0,y1,y2,y3⟩,f4,(Below.refl _ _).drew⟩
  rw [← hy]
  clear hy
  refine wpAnyH_ready (rs:=[1,5]) (by kernel_rfl) (by simp) ?_
  refine AllReadyH.cons rfl (fun K hK=>?_) (AllReadyH.cons rfl (fun K hK=>?_) AllReadyH.nil)
  focus (
  obtain ⟨⟨c0,c1,c2,c3⟩,d1,bb0⟩:=FC
  go_simp
  refine hK.out _ _ trivial (fun _=>?_)
  clear hK K
  try simp only [Act.put,pU0]
  have FC:=And.intro (And.intro c0 (And.intro c1 (And.intro c2 c3))) (And.intro d1 bb0)
  clear c0 c1 c2 c3 d1 bb0
  refine tq0 (i:=2) (v:=?_) rfl ?_ trivial ?_
  rotate_left
  ·intro w hSw;(try dsimp only at hSw);go_simp;try with_reducible rfl
  try simp only [Act.put,pU0]
  refine lstH (l':=#[true,true,true,false,true,false,false,false]) (by kernel_rfl) ?_
  have F:=FC
  clear FC
  revert F
  revert y
  exact t1_.out
  )
  focus (
  obtain ⟨⟨c0,c1,c2,c3⟩,d1,bb0⟩:=FC
  go_simp
  refine hK.out _ _ trivial (fun _=>?_)
  clear hK K
  try simp only [Act.put,pU0]
  have FC:=And.intro (And.intro c0 (And.intro c1 (And.intro c2 c3))) (And.intro d1 bb0)
  clear c0 c1 c2 c3 d1 bb0
  refine lstH (l':=#[true,false,false,false,true,true,false,false]) (by kernel_rfl) ?_
  have F:=FC
  clear FC
  revert F
  revert y
  exact t5_.out
  )
  )
  focus (
  intro y F
  have FC:=F
  clear F
  refine wr0 (i:=1) rfl (fun K hK=>?_)
  focus (
  obtain ⟨⟨c0,c1,c2,c3⟩,d1,bb0⟩:=FC
  go_simp
  refine hK.out _ _ trivial (fun _=>?_)
  clear hK K
  try simp only [pU0]
  have FC:=And.intro (And.intro c0 (And.intro c1 (And.intro c2 c3))) (And.intro d1 bb0)
  clear c0 c1 c2 c3 d1 bb0
  refine tq0 (i:=2) (v:=?_) rfl ?_ trivial ?_
  rotate_left
  ·intro w hSw;(try dsimp only at hSw);go_simp;try with_reducible rfl
  try simp only [Act.put,pU0]
  refine lstH (l':=#[true,true,true,false,true,true,false,false]) (by kernel_rfl) ?_
  have F:=FC
  clear FC
  revert F
  revert y
  exact t1_5_.out
  )
  )
  focus (
  intro y F
  have FC:=F
  clear F
  refine wpAnyH_ready (rs:=[3,5]) (by kernel_rfl) (by simp) ?_
  refine AllReadyH.cons rfl (fun K hK=>?_) (AllReadyH.cons rfl (fun K hK=>?_) AllReadyH.nil)
  focus (
  obtain ⟨⟨c0,c1,c2,c3⟩,d1,bb0⟩:=FC
  go_simp
  refine hK.out _ _ trivial (fun _=>?_)
  clear hK K
  try simp only [pU0]
  have FC:=And.intro (And.intro c0 (And.intro c1 (And.intro c2 c3))) (And.intro d1 bb0)
  clear c0 c1 c2 c3 d1 bb0
  refine lstH (l':=#[true,true,true,true,true,false,false,false]) (by kernel_rfl) ?_
  have F:=FC
  clear FC
  revert F
  revert y
  exact t1_3_.out
  )
  focus (
  obtain ⟨⟨c0,c1,c2,c3⟩,d1,bb0⟩:=FC
  go_simp
  refine hK.out _ _ trivial (fun _=>?_)
  clear hK K
  try simp only [pU0]
  have FC:=And.intro (And.intro c0 (And.intro c1 (And.intro c2 c3))) (And.intro d1 bb0)
  clear c0 c1 c2 c3 d1 bb0
  refine lstH (l':=#[true,true,true,false,true,true,false,false]) (by kernel_rfl) ?_
  have F:=FC
  clear FC
  revert F
  revert y
  exact t1_5_.out
  )
  )
  focus (
  intro y F
  have FC:=F
  clear F
  refine wr0 (i:=3) rfl (fun K hK=>?_)
  focus (
  obtain ⟨⟨c0,c1,c2,c3⟩,d1,bb0⟩:=FC
  go_simp
  refine hK.out _ _ trivial (fun _=>?_)
  clear hK K
  try simp only [pU0]
  have FC:=And.intro (And.intro c0 (And.intro c1 (And.intro c2 c3))) (And.intro d1 bb0)
  clear c0 c1 c2 c3 d1 bb0
  refine lstH (l':=#[true,true,true,true,true,true,false,false]) (by kernel_rfl) ?_
  have F:=FC
  clear FC
  revert F
  revert y
  exact t1_3_5_.out
  )
  )
  focus (
  intro y F
  have FC:=F
  clear F
  refine wr0 (i:=5) rfl (fun K hK=>?_)
  focus (
  obtain ⟨⟨c0,c1,c2,c3⟩,d1,bb0⟩:=FC
  go_simp
  refine hK.out _ _ trivial (fun _=>?_)
  clear hK K
  try simp only [pU0]
  have FC:=And.intro (And.intro c0 (And.intro c1 (And.intro c2 c3))) (And.intro d1 bb0)
  clear c0 c1 c2 c3 d1 bb0
  refine lstH (l':=#[true,true,true,true,true,true,false,false]) (by kernel_rfl) ?_
  have F:=FC
  clear FC
  revert F
  revert y
  exact t1_3_5_.out
  )
  )
  focus (
  intro y F
  have FC:=F
  clear F
  refine wr0 (i:=6) rfl (fun K hK=>?_)
  rw [if_pos]
  rotate_left
  ·kernel_rfl
  have HCall:=hideIt (HCf.out _ FC.2.2)
  go_wp2_with (go_at_call 115;refine HCall.out.mono ?_;rintro e z ⟨cc,hcc,rfl,hk,hb⟩;refine Hid.out ?_)
  refine hidp20 ?_
  refine hK.out _ _ trivial (fun _=>?_)
  clear hK K HCall
  try simp only [pU0]
  refine tq0 (i:=7) (v:=?_) rfl ?_ trivial ?_
  rotate_left
  ·intro w hSw;(try dsimp only at hSw);go_simp;try with_reducible rfl
  try simp only [Act.put,pU0]
  refine wpAnyH_done (by kernel_rfl) ?_ _
  go_wp2
  go_ret
  exact ⟨cc,hcc,rfl,hk,hb⟩
  )
 )
set_option maxHeartbeats 4000000 in
theorem askBad20 {lo G:Nat} {h:Hd} {p:Hp} {R:List Rw} (i o a b:Int) (u:World) (k:HX lo u G h p R) (hl:lo≤u.heap.size) (hn:p.s.n≤1000) (hr:rgB h.N p.l.n o a b=false) :
  Calls Tryz.prog 92 #[.pointer (some ⟨G,0,none⟩),.agg #[.int .i64 i,.int .i64 o,.int .i64 a,.int .i64 b]] u fun e v=>∃ c:Int,(c=1∨c=2)∧MvA lo u G (sayH h i o a b 3) c e v:=by
 have bA:=belA u (.cells #[.int .i64 i,.int .i64 o,.int .i64 a,.int .i64 b] 28)
 have HM:=hideIt (makesSense_any (G:=G) (h:=h) (p:=p) i o a b (u.alloc (.cells #[.int .i64 i,.int .i64 o,.int .i64 a,.int .i64 b] 28)) (k.bx.up bA))
 rw [hr] at HM
 have XA:=hideIt (BxA.new u 28 #[.int .i64 i,.int .i64 o,.int .i64 a,.int .i64 b])
 have HK:=hideIt (k.up bA)
 have HL:=hideIt hl
 have HbA:=hideIt bA
 have HSy:Hid (∀ v,Below (u.alloc (.cells #[.int .i64 i,.int .i64 o,.int .i64 a,.int .i64 b] 28)).heap.size (u.alloc (.cells #[.int .i64 i,.int .i64 o,.int .i64 a,.int .i64 b] 28)) v→Calls Tryz.prog 111 #[.pointer (some ⟨G,0,none⟩),.agg #[.int .i64 i,.int .i64 o,.int .i64 a,.int .i64 b],.int .i64 3] v fun e x=>e=.returned (.int .i64 1)∧(∃ p R,HX lo x G (sayH h i o a b 3) p R)∧Below lo u x):=fun v hv =>
  (pSay_any i o a b 3 v (HK.out.up hv) (Nat.le_trans HL.out (Nat.le_trans HbA.out.size hv.size)) hn).mono fun e x ⟨h1,⟨g,c,h2⟩,h3⟩=>⟨h1,⟨_,_,h2⟩,((HbA.out.trans (hv.mono HbA.out.size)).mono HL.out).trans h3⟩
 clear k hl hr bA HK
 go_enter Tryz.func92,Tryz.ntmps92
 go_wp2_with (first
  | (go_at_call 110;refine HM.out.mono ?_;rintro e w1 ⟨rfl,c1⟩;have YA:=XA.out.up c1;have z0:=YA.cell 0 rfl;have z1:=YA.cell 1 rfl;have z2:=YA.cell 2 rfl;have z3:=YA.cell 3 rfl)
  | (go_at_call 111;refine (HSy.out _ c1).mono ?_;rintro e w2 ⟨rfl,hk,hb⟩))
 go_ret
 exact ⟨1,.inl rfl,rfl,hk,hb⟩
theorem pAsk_any {lo G S:Nat} {h:Hd} {p:Hp} {R:List Rw} (i o a b:Int) (u:World) (k:HX lo u G h p R) (hi:HInv S h) (hl:lo≤u.heap.size) :
  Calls Tryz.prog 92 #[.pointer (some ⟨G,0,none⟩),.agg #[.int .i64 i,.int .i64 o,.int .i64 a,.int .i64 b]] u fun e v=>∃ c:Int,(c=1∨c=2)∧MvA lo u G (tkH h i o a b) c e v:=by
 have hln:=hi.lens k.hw.ow.inn
 have hle:p.l.n=h.lab.length:=by omega
 cases hr:rgB h.N p.l.n o a b with
 | false =>
  have e:tkH h i o a b=sayH h i o a b 3:=by unfold tkH;rw [← hle,if_pos hr]
  rw [e]
  exact askBad20 i o a b u k hl (by omega) hr
 | true =>
  obtain ⟨a0,a1,hr'⟩:=rgB_parts hr
  have hS:p.l.n=S:=hln.2.2.1
  by_cases o3:o=3
  ·subst o3
   have e:tkH h i 3 a b=sayH h i 3 a b (if O.atI (wlL h) a=O.atI (wlL h) b then 1 else 2):=by unfold tkH;rw [← hle,if_neg (by rw [hr];simp),if_pos rfl]
   rw [e]
   exact ask320 _ i a b u k hl hr fun v hv=>(pTog_any i a b v (k.up hv) hi (Nat.le_trans hl hv.size) ⟨a0,a1⟩ (by omega)).mono fun e x hx=>⟨1,.inl rfl,hx⟩
  ·by_cases o4:o=4
   ·subst o4
    have e:tkH h i 4 a b=(if O.atI h.own a=b then sayH h i 4 a b 2 else ordH h i 4 a b (O.atI h.own a) 3 [] a):=by unfold tkH;rw [← hle,if_neg (by rw [hr];simp),if_neg (by omega),if_pos rfl]
    rw [e]
    exact ask420 _ i a b u k hl hr fun v hv=>(pMove_any i a b v (k.up hv) hi (Nat.le_trans hl hv.size) ⟨a0,a1⟩).mono fun e x hx=>⟨_,by split <;> simp,hx⟩
   ·have ho:o=1∨o=2:=by omega
    have hb:0≤b∧b<h.N∧a≠b:=by omega
    have e:tkH h i o a b=chgH h i o a b:=by unfold tkH;rw [← hle,if_neg (by rw [hr];simp),if_neg o3,if_neg o4]
    have hc:chgC h a b=1∨chgC h a b=2:=by unfold chgC;split <;> simp
    rw [e]
    rcases ho with rfl | rfl
    ·exact ask120 _ i a b u k hl hr fun v hv=>(pAdd_any i a b v (k.up hv) hi (Nat.le_trans hl hv.size) ⟨a0,a1⟩ ⟨hb.1,hb.2.1⟩ hb.2.2).mono fun e x hx=>⟨_,hc,hx⟩
    ·exact ask220 _ i a b u k hl hr fun v hv=>(pTake_any i a b v (k.up hv) hi (Nat.le_trans hl hv.size) ⟨a0,a1⟩ ⟨hb.1,hb.2.1⟩ hb.2.2).mono fun e x hx=>⟨_,hc,hx⟩
def TkA (w:World) (o:Option Hd) (e:Ending) (w':World):Prop :=
 ∃ (g:Hd) (p:Hp) (c:Int),e=.returned (.tuple #[.agg (hC g p),.int .i64 c])∧Below w.heap.size w w'∧match o with
  | some h'=>(c=1∨c=2)∧g=h'∧∃ R,HW w' w.heap.size g p R
  | none=>c=0
theorem takeR_none {h:Hd} {i o a b:Int} (hb:tkB h i=false):takeR h i o a b=none:=by unfold takeR;rw [hb];rfl
theorem takeR_some {h:Hd} {i o a b:Int} (hb:tkB h i=true):takeR h i o a b=some (tkH h i o a b):=by unfold takeR;rw [if_pos hb]
set_option maxRecDepth 100000 in
set_option maxHeartbeats 8000000 in
theorem iTake_inv {S:Nat} {h:Hd} {p:Hp} (i o a b:Int) (w:World) (R0:HR S w h p) :
  Calls Tryz.prog 63 #[.agg (hC h p),.agg #[.int .i64 i,.int .i64 o,.int .i64 a,.int .i64 b]] w fun e w'=>TkA w (takeR h i o a b) e w':=by
 have hln:=R0.inv.lens R0.inn
 obtain ⟨T,hT⟩:∃ T,T=takeR h i o a b:=⟨_,rfl⟩
 rw [← hT]
 obtain ⟨W,hW⟩:∃ W,W=((w.alloc (.cells (hC h p) 35)).alloc (.cells #[.int .i64 i,.int .i64 o,.int .i64 a,.int .i64 b] 28)).alloc (.cells #[.int .i64 0,.slice none 0 0,.slice none 0 0,.slice none 0 0,.slice none 0 0,.int .i64 0,.int .i64 0,.int .i64 0,.int .i64 0,.int .i64 0,.int .i64 0,.int .i64 0,.slice none 0 0,.int .i64 0,.slice none 0 0] 35):=⟨_,rfl⟩
 have bW:Below w.heap.size w W:=by rw [hW];exact ((belA _ _).alloc (by simp) _).alloc (by simp;omega) _
 have X0:BxA W w.heap.size 35 (hC h p):=by rw [hW];exact ((BxA.new w _ _).up (belA _ _)).up (belA _ _)
 have X1:BxA W (w.heap.size+1) 28 #[.int .i64 i,.int .i64 o,.int .i64 a,.int .i64 b]:=by
  have q:=(BxA.new (w.alloc (.cells (hC h p) 35)) 28 #[.int .i64 i,.int .i64 o,.int .i64 a,.int .i64 b]).up (belA _ (.cells #[.int .i64 0,.slice none 0 0,.slice none 0 0,.slice none 0 0,.slice none 0 0,.int .i64 0,.int .i64 0,.int .i64 0,.int .i64 0,.int .i64 0,.int .i64 0,.int .i64 0,.slice none 0 0,.int .i64 0,.slice none 0 0] 35))
  rw [show (w.alloc (.cells (hC h p) 35)).heap.size=w.heap.size+1 by simp] at q
  rw [hW];exact q
 have X2:BxA W (w.heap.size+1+1) 35 (hC zeroH zeroP):=by
  have q:=BxA.new ((w.alloc (.cells (hC h p) 35)).alloc (.cells #[.int .i64 i,.int .i64 o,.int .i64 a,.int .i64 b] 28)) 35 #[.int .i64 0,.slice none 0 0,.slice none 0 0,.slice none 0 0,.slice none 0 0,.int .i64 0,.int .i64 0,.int .i64 0,.int .i64 0,.int .i64 0,.int .i64 0,.int .i64 0,.slice none 0 0,.int .i64 0,.slice none 0 0]
  rw [show ((w.alloc (.cells (hC h p) 35)).alloc (.cells #[.int .i64 i,.int .i64 o,.int .i64 a,.int .i64 b] 28)).heap.size=w.heap.size+1+1 by simp] at q
  rw [hW];exact q
 have HXs:=hideIt (And.intro X0 (And.intro X1 X2))
 have HB:=hideIt bW
 have HR:=hideIt (R0.up bW)
 have HL3:Hid (w.heap.size+3≤W.heap.size):=X2.lt
 have HOk:=hideIt (iHeadOk_inv W HR.out)
 have HNo:=hideIt (fun u=>O.numOk_any i u)
 have hsn:p.s.n≤80:=by omega
 have HT:=hideIt hT
 clear bW R0 hln X1 X2 hT
 cases hct:ctB h with
 | false =>
  have HN:Hid (T=none):=by show T=none;rw [HT.out];exact takeR_none (by unfold tkB;rw [hct];rfl)
  rw [hct] at HOk
  clear HT hct
  go_enter Tryz.func63,Tryz.ntmps63
  go_upto_region 1 with fail
  rw [← hW]
  clear hW
  refine wp_region_lit ?_
  go_step
  refine wp_loadH X0 rfl rfl ?_
  clear X0
  go_wp2_with (go_at_call 87;refine HOk.out.mono ?_;rintro e w1 ⟨rfl,b1⟩;refine Hid.out ?_)
  refine hidp20 ?_
  go_upto_region 2 with fail
  refine wp_region_lit ?_
  go_step
  go_step
  go_step
  go_step
  refine wp_storeH (h:=zeroH) (p:=zeroP) (HXs.out.2.2.up b1) rfl rfl rfl ?_
  intro v XV gv zv
  have HXV:=hideIt XV
  have HBv:=hideIt (below_grB (HB.out.trans (b1.mono HB.out.size)) gv (show w.heap.size≤w.heap.size+1+1 by omega) (Nat.le_refl _))
  clear XV gv zv b1
  go_wp2
  exact bodyPost_ret (results_H2 Tryz.results63 rfl rfl HXV.out) rfl ⟨zeroH,zeroP,0,rfl,HBv.out,by rw [HN.out]⟩
 | true =>
  by_cases hi:1≤i∧i≤100000
  case neg =>
   have HN:Hid (T=none):=by show T=none;rw [HT.out];exact takeR_none (by unfold tkB;rw [decide_eq_false (fun hh=>hi hh.1),Bool.and_false])
   have HNo2:Hid (∀ u,Calls Tryz.prog 88 #[.int .i64 i] u fun e v=>e=.returned (.bool false)∧v=u):=fun u=>(HNo.out u).mono fun e v ⟨h1,h2⟩=>⟨by rw [h1,decide_eq_false hi],h2⟩
   rw [hct] at HOk
   clear HT hct HNo hi
   go_enter Tryz.func63,Tryz.ntmps63
   go_upto_region 1 with fail
   rw [← hW]
   clear hW
   refine wp_region_lit ?_
   go_step
   refine wp_loadH X0 rfl rfl ?_
   clear X0
   go_wp2_with (first
    | (go_at_call 87;refine HOk.out.mono ?_;rintro e w1 ⟨rfl,b1⟩;have a0:=(HXs.out.2.1.up b1).cell 0 rfl)
    | (go_at_call 88;refine (HNo2.out _).mono ?_;rintro e w9 ⟨rfl,e9⟩;have e8:=e9.symm;subst e8;refine Hid.out ?_))
   refine hidp20 ?_
   go_upto_region 2 with fail
   refine wp_region_lit ?_
   go_step
   go_step
   go_step
   go_step
   refine wp_storeH (h:=zeroH) (p:=zeroP) (HXs.out.2.2.up b1) rfl rfl rfl ?_
   intro v XV gv zv
   have HXV:=hideIt XV
   have HBv:=hideIt (below_grB (HB.out.trans (b1.mono HB.out.size)) gv (show w.heap.size≤w.heap.size+1+1 by omega) (Nat.le_refl _))
   clear XV gv zv b1 a0
   go_wp2
   exact bodyPost_ret (results_H2 Tryz.results63 rfl rfl HXV.out) rfl ⟨zeroH,zeroP,0,rfl,HBv.out,by rw [HN.out]⟩
  case pos =>
   have HNo2:Hid (∀ u,Calls Tryz.prog 88 #[.int .i64 i] u fun e v=>e=.returned (.bool true)∧v=u):=fun u=>(HNo.out u).mono fun e v ⟨h1,h2⟩=>⟨by rw [h1,decide_eq_true hi],h2⟩
   have Hct:=hideIt (And.intro hct hi)
   have HCp:Hid (∀ u,Below W.heap.size W u→Calls Tryz.prog 89 #[.agg (hC h p)] u fun e v=>∃ p' R,e=.returned (.agg (hC h p'))∧HW v u.heap.size h p' R∧Below u.heap.size u v):=fun u hu=>headCopy_inv u (HR.out.up hu)
   rw [hct] at HOk
   clear hct HNo hi
   go_enter Tryz.func63,Tryz.ntmps63
   go_upto_region 1 with fail
   rw [← hW]
   clear hW
   refine wp_region_lit ?_
   go_step
   refine wp_loadH X0 rfl rfl ?_
   clear X0
   go_wp2_with (first
    | (go_at_call 87;refine HOk.out.mono ?_;rintro e w1 ⟨rfl,b1⟩;have a0:=(HXs.out.2.1.up b1).cell 0 rfl)
    | (go_at_call 88;refine (HNo2.out _).mono ?_;rintro e w9 ⟨rfl,e9⟩;have e8:=e9.symm;subst e8;refine Hid.out ?_))
   refine hidp20 ?_
   clear a0 HNo2 HOk
   go_upto_region 3 with fail
   refine wp_region_lit ?_
   go_step
   refine wp_loadH (HXs.out.1.up b1) rfl rfl ?_
   have HCq:=hideIt (HCp.out _ b1)
   clear HCp
   go_wp2_with (go_at_call 89;refine HCq.out.mono ?_;rintro e w2 ⟨p',R,rfl,hw,b2⟩;refine Hid.out ?_)
   refine hidp20 ?_
   go_step
   go_step
   go_step
   go_step
   go_step
   have T0:BxA (w2.alloc (.cells #[.int .i64 0,.slice none 0 0,.slice none 0 0,.slice none 0 0,.slice none 0 0,.int .i64 0,.int .i64 0,.int .i64 0,.int .i64 0,.int .i64 0,.int .i64 0,.int .i64 0,.slice none 0 0,.int .i64 0,.slice none 0 0] 35)) w2.heap.size 35 (hC zeroH zeroP):=BxA.new w2 _ _
   refine wp_storeH T0 rfl rfl rfl ?_
   intro v XV gv zv
   obtain ⟨G,hG⟩:∃ G,G=w2.heap.size:=⟨_,rfl⟩
   have bv:Below w2.heap.size w2 v:=below_grB (belA w2 _) gv (Nat.le_refl _) (Nat.le_refl _)
   have b12:Below W.heap.size W v:=b1.trans ((b2.trans (bv.mono b2.size)).mono b1.size)
   have KX:HX W.heap.size v G h p' R:=⟨by rw [hG];exact XV,by rw [hG];exact Nat.le_trans b1.size b2.size,(hw.up bv).low b1.size⟩
   rw [← hG]
   have HK:=hideIt KX
   have HBv:=hideIt b12
   have HRv:=hideIt (HR.out.up b12)
   clear T0 XV gv zv hG bv hw b1 b2 KX b12 HCq
   have HXv:=hideIt (And.intro (HXs.out.1.up HBv.out) (And.intro (HXs.out.2.1.up HBv.out) (HXs.out.2.2.up HBv.out)))
   have HSd:=hideIt (isSaid_any h.said i p.s.n p.s.a p.s.c (by omega) v HRv.out.inn.s)
   have a0:=HXv.out.2.1.cell 0 rfl
   have y14:v.cell? ⟨w.heap.size,14,none⟩=some (.slice p.s.a p.s.n p.s.c):=HXv.out.1.cell 14 rfl
   have HBvw:Hid (Below w.heap.size w v):=HB.out.trans (HBv.out.mono HB.out.size)
   rcases plc_cases h.said i with hp | ⟨kq,hkq,hp⟩
   case inr =>
    have HN:Hid (T=none):=by show T=none;rw [HT.out];exact takeR_none (by unfold tkB;rw [decide_eq_false (fun hh=>by have:=hh.2.1;omega),Bool.and_false])
    rw [hp,decide_eq_true (show (0:Int)≤(kq:Int) by omega)] at HSd
    clear HT Hct hp hkq
    go_upto_region 4 with fail
    go_wp2_with (go_at_call 90;refine HSd.out.mono ?_;rintro e w4 ⟨rfl,b4⟩;refine Hid.out ?_)
    refine hidp20 ?_
    have HXz:=hideIt (HK.out.up b4).bx
    have HRz:=hideIt (HXv.out.2.2.up b4)
    have HBw:=hideIt (HBvw.out.trans (b4.mono HBvw.out.size))
    clear b4 a0 y14
    go_upto_region 5 with fail
    refine wp_region_lit ?_
    go_step
    refine wp_loadH HXz.out rfl rfl ?_
    go_step
    go_step
    refine wp_storeH HRz.out rfl rfl rfl ?_
    intro vz XZ gz zz
    have HXZ:=hideIt XZ
    have HBz:=hideIt (below_grB HBw.out gz (show w.heap.size≤w.heap.size+1+1 by omega) (Nat.le_refl _))
    clear XZ gz zz
    go_wp2
    exact bodyPost_ret (results_H2 Tryz.results63 rfl rfl HXZ.out) rfl ⟨h,p',0,rfl,HBz.out,by rw [HN.out]⟩
   case inl =>
    rw [hp] at HSd
    have HSd2:Hid (Calls Tryz.prog 90 #[.slice p.s.a p.s.n p.s.c,.int .i64 i] v fun e w'=>e=.returned (.bool false)∧Below v.heap.size v w'):=HSd.out
    clear HSd
    by_cases hsh:h.sh=0
    case neg =>
     have HN:Hid (T=none):=by show T=none;rw [HT.out];exact takeR_none (by unfold tkB;rw [decide_eq_false (fun hh=>hsh hh.2.2.1),Bool.and_false])
     have HBu:Hid (∀ u,Calls Tryz.prog 91 #[.agg (hC h p)] u fun e w'=>e=.returned (.bool true)∧Below u.heap.size u w'):=fun u=>(iBusy_any h p u).mono fun e w' ⟨h1,h2⟩=>⟨by rw [h1,show (h.sh != 0)=true by simpa using hsh],h2⟩
     clear HT Hct hp hsh
     go_upto_region 4 with fail
     go_wp2_with (first
      | (go_at_call 90;refine HSd2.out.mono ?_;rintro e w4 ⟨rfl,b4⟩;obtain ⟨y0,y1,y2,y3,y4,y5,y6,y7,y8,y9,y10,y11,y12,y13,y14⟩:=(HXv.out.1.up b4).all15p)
      | (go_at_call 91;refine (HBu.out _).mono ?_;rintro e w5 ⟨rfl,b5⟩;refine Hid.out ?_))
     refine hidp20 ?_
     have b45:=b4.trans (b5.mono b4.size)
     have HXz:=hideIt (HK.out.up b45).bx
     have HRz:=hideIt (HXv.out.2.2.up b45)
     have HBw:=hideIt (HBvw.out.trans (b45.mono HBvw.out.size))
     clear b4 b5 b45 a0 y0 y1 y2 y3 y4 y5 y6 y7 y8 y9 y10 y11 y12 y13 y14
     go_upto_region 5 with fail
     refine wp_region_lit ?_
     go_step
     refine wp_loadH HXz.out rfl rfl ?_
     go_step
     go_step
     refine wp_storeH HRz.out rfl rfl rfl ?_
     intro vz XZ gz zz
     have HXZ:=hideIt XZ
     have HBz:=hideIt (below_grB HBw.out gz (show w.heap.size≤w.heap.size+1+1 by omega) (Nat.le_refl _))
     clear XZ gz zz
     go_wp2
     exact bodyPost_ret (results_H2 Tryz.results63 rfl rfl HXZ.out) rfl ⟨h,p',0,rfl,HBz.out,by rw [HN.out]⟩
    case pos =>
     have HBu:Hid (∀ u,Calls Tryz.prog 91 #[.agg (hC h p)] u fun e w'=>e=.returned (.bool false)∧Below u.heap.size u w'):=fun u=>(iBusy_any h p u).mono fun e w' ⟨h1,h2⟩=>⟨by rw [h1,show (h.sh != 0)=false by simpa using hsh],h2⟩
     by_cases h80:p.s.n=80
     case pos =>
      have HN:Hid (T=none):=by show T=none;rw [HT.out];exact takeR_none (by unfold tkB;rw [decide_eq_false (fun hh=>by have:=hh.2.2.2;have:=HRv.out.inn.s.1;omega),Bool.and_false])
      have e80:((p.s.n:Int) == 80)=true:=by rw [h80];rfl
      clear HT Hct hp hsh h80
      go_upto_region 4 with fail
      go_wp2_with (first
       | (go_at_call 90;refine HSd2.out.mono ?_;rintro e w4 ⟨rfl,b4⟩;obtain ⟨y0,y1,y2,y3,y4,y5,y6,y7,y8,y9,y10,y11,y12,y13,y14⟩:=(HXv.out.1.up b4).all15p)
       | (go_at_call 91;refine (HBu.out _).mono ?_;rintro e w5 ⟨rfl,b5⟩;have z14:w5.cell? ⟨w.heap.size,14,none⟩=some (.slice p.s.a p.s.n p.s.c):=((HXv.out.1.up b4).up b5).cell 14 rfl;refine Hid.out ?_))
      refine hidp20 ?_
      have b45:=b4.trans (b5.mono b4.size)
      have HXz:=hideIt (HK.out.up b45).bx
      have HRz:=hideIt (HXv.out.2.2.up b45)
      have HBw:=hideIt (HBvw.out.trans (b45.mono HBvw.out.size))
      clear b4 b5 b45 a0 y0 y1 y2 y3 y4 y5 y6 y7 y8 y9 y10 y11 y12 y13 y14
      go_upto_region 5 with fail
      refine wp_region_lit ?_
      go_step
      refine wp_loadH HXz.out rfl rfl ?_
      go_step
      go_step
      refine wp_storeH HRz.out rfl rfl rfl ?_
      intro vz XZ gz zz
      have HXZ:=hideIt XZ
      have HBz:=hideIt (below_grB HBw.out gz (show w.heap.size≤w.heap.size+1+1 by omega) (Nat.le_refl _))
      clear XZ gz zz
      go_wp2
      exact bodyPost_ret (results_H2 Tryz.results63 rfl rfl HXZ.out) rfl ⟨h,p',0,rfl,HBz.out,by rw [HN.out]⟩
     case neg =>
      have HY:Hid (T=some (tkH h i o a b)):=by
       show T=_
       rw [HT.out]
       refine takeR_some ?_
       unfold tkB
       rw [Hct.out.1,decide_eq_true ⟨Hct.out.2,by omega,hsh,by have:=HRv.out.inn.s.1;omega⟩]
       rfl
      have e80:((p.s.n:Int) == 80)=false:=by simp;omega
      have HIv:=hideIt HRv.out.inv
      clear HT Hct hp hsh h80
      go_upto_region 4 with fail
      go_wp2_with (first
       | (go_at_call 90;refine HSd2.out.mono ?_;rintro e w4 ⟨rfl,b4⟩;obtain ⟨y0,y1,y2,y3,y4,y5,y6,y7,y8,y9,y10,y11,y12,y13,y14⟩:=(HXv.out.1.up b4).all15p)
       | (go_at_call 91;refine (HBu.out _).mono ?_;rintro e w5 ⟨rfl,b5⟩;have z14:w5.cell? ⟨w.heap.size,14,none⟩=some (.slice p.s.a p.s.n p.s.c):=((HXv.out.1.up b4).up b5).cell 14 rfl;refine Hid.out ?_))
      refine hidp20 ?_
      have b45:=b4.trans (b5.mono b4.size)
      have HA5:=hideIt (HXv.out.2.1.up b45)
      have HBw5:=hideIt (HBv.out.trans (b45.mono HBv.out.size))
      have HAs:=hideIt (pAsk_any i o a b w5 (HK.out.up b45) HIv.out (Nat.le_trans HBv.out.size b45.size))
      have c0:=HA5.out.cell 0 rfl
      have c1:=HA5.out.cell 1 rfl
      have c2:=HA5.out.cell 2 rfl
      have c3:=HA5.out.cell 3 rfl
      clear b4 b5 b45 a0 y0 y1 y2 y3 y4 y5 y6 y7 y8 y9 y10 y11 y12 y13 y14
      go_upto_region 6 with fail
      go_wp2_with (go_at_call 92;refine HAs.out.mono ?_;rintro e w6 ⟨cc,hcc,rfl,⟨p6,R6,k6⟩,b6⟩;refine Hid.out ?_)
      refine hidp20 ?_
      have HK6:=hideIt k6
      have b56:Below W.heap.size W w6:=HBw5.out.trans b6
      have HX6:Hid (BxA w6 (w.heap.size+1+1) 35 (hC zeroH zeroP)):=HXs.out.2.2.up b56
      have HB6:=hideIt (HB.out.trans (b56.mono HB.out.size))
      clear k6 b6 b56 c0 c1 c2 c3 z14
      go_upto_region 7 with fail
      refine wp_region_lit ?_
      go_step
      refine wp_loadH HK6.out.bx rfl rfl ?_
      go_step
      go_step
      go_step
      go_step
      go_step
      refine wp_storeH HX6.out rfl rfl rfl ?_
      intro vz XZ gz zz
      have HXZ:=hideIt XZ
      have HBz:=hideIt (below_grB HB6.out gz (show w.heap.size≤w.heap.size+1+1 by omega) (Nat.le_refl _))
      have HWz:=hideIt ((HK6.out.hw.grB gz (show w.heap.size+1+1<W.heap.size by have:=HL3.out;omega)).low HB.out.size)
      clear XZ gz zz
      go_wp2
      exact bodyPost_ret (results_H2 Tryz.results63 rfl rfl HXZ.out) rfl ⟨tkH h i o a b,p6,cc,rfl,HBz.out,by rw [HY.out];exact ⟨hcc,rfl,R6,HWz.out⟩⟩
set_option maxRecDepth 100000 in
set_option maxHeartbeats 16000000 in
theorem iHear_no {S:Nat} {h:Hd} {p:Hp} (sh num:Int) (ok:Bool) (es:List O.EdgeV) (ls:List Int) (aE:Option Addr) (nE cE:Nat) (aL:Option Addr) (nL cL:Nat) (w:World) (R0:HR S w h p) (hE:O.Es w w.heap.size aE nE es) (hI:Is w w.heap.size aL nL ls) (hz:aE=none→nE=0∧cE=0) (hzL:aL=none→nL=0∧cL=0) (hnE:nE≤1048576) (hnL:nL≤1048576) (hb:hearB h sh ⟨num,ok,es,ls⟩=false) :
  Calls Tryz.prog 64 #[.agg (hC h p),.int .i64 sh,.agg #[.int .i64 num,.bool ok,.slice aE nE cE,.slice aL nL cL]] w fun e w'=>TkA w (hearR h sh ⟨num,ok,es,ls⟩) e w':=by
 obtain ⟨T,hT⟩:=ex0 (hearR h sh ⟨num,ok,es,ls⟩)
 rw [← hT]
 have hln:=R0.inv.lens R0.inn
 obtain ⟨W,hW⟩:=ex0 (((w.alloc (.cells (hC h p) 35)).alloc (.cells #[.int .i64 num,.bool ok,.slice aE nE cE,.slice aL nL cL] 60)).alloc (.cells #[.int .i64 0,.slice none 0 0,.slice none 0 0,.slice none 0 0,.slice none 0 0,.int .i64 0,.int .i64 0,.int .i64 0,.int .i64 0,.int .i64 0,.int .i64 0,.int .i64 0,.slice none 0 0,.int .i64 0,.slice none 0 0] 35))
 have bW:Below w.heap.size w W:=by rw [hW];exact ((belA _ _).alloc (by simp) _).alloc (by simp;omega) _
 have X0:BxA W w.heap.size 35 (hC h p):=by rw [hW];exact ((BxA.new w _ _).up (belA _ _)).up (belA _ _)
 have X1:BxA W (w.heap.size+1) 60 #[.int .i64 num,.bool ok,.slice aE nE cE,.slice aL nL cL]:=by
  have q:=(BxA.new (w.alloc (.cells (hC h p) 35)) 60 #[.int .i64 num,.bool ok,.slice aE nE cE,.slice aL nL cL]).up (belA _ (.cells #[.int .i64 0,.slice none 0 0,.slice none 0 0,.slice none 0 0,.slice none 0 0,.int .i64 0,.int .i64 0,.int .i64 0,.int .i64 0,.int .i64 0,.int .i64 0,.int .i64 0,.slice none 0 0,.int .i64 0,.slice none 0 0] 35))
  rw [show (w.alloc (.cells (hC h p) 35)).heap.size=w.heap.size+1 by simp] at q
  rw [hW];exact q
 have X2:BxA W (w.heap.size+1+1) 35 (hC zeroH zeroP):=by
  have q:=BxA.new ((w.alloc (.cells (hC h p) 35)).alloc (.cells #[.int .i64 num,.bool ok,.slice aE nE cE,.slice aL nL cL] 60)) 35 #[.int .i64 0,.slice none 0 0,.slice none 0 0,.slice none 0 0,.slice none 0 0,.int .i64 0,.int .i64 0,.int .i64 0,.int .i64 0,.int .i64 0,.int .i64 0,.int .i64 0,.slice none 0 0,.int .i64 0,.slice none 0 0]
  rw [show ((w.alloc (.cells (hC h p) 35)).alloc (.cells #[.int .i64 num,.bool ok,.slice aE nE cE,.slice aL nL cL] 60)).heap.size=w.heap.size+1+1 by simp] at q
  rw [hW];exact q
 have HXs:=hideIt (And.intro X0 (And.intro X1 X2))
 have HB:=hideIt bW
 have HR:=hideIt (R0.up bW)
 have HL3:Hid (w.heap.size+3≤W.heap.size):=X2.lt
 have HCp:=hideIt (headCopy_inv W HR.out)
 have HSh:Hid (h.said.length=p.s.n∧p.s.n≤80):=⟨hln.2.2.2.2.2.1,hln.2.2.2.2.1⟩
 have HT:=hideIt hT
 have HE0:=hideIt hE
 have HI0:=hideIt hI
 have Hz:=hideIt (And.intro hz (And.intro hzL (And.intro hnE hnL)))
 clear bW R0 hln X1 X2 hT hE hI hz hzL hnE hnL
 go_enter Tryz.func64,Tryz.ntmps64
 go_upto_region 1 with fail
 rw [← hW]
 clear hW
 refine wp_region_lit ?_
 go_step
 refine wp_loadH X0 rfl rfl ?_
 clear X0
 go_wp2_with (go_at_call 89;refine HCp.out.mono ?_;rintro e w2 ⟨p',R,rfl,hw,b2⟩;refine Hid.out ?_)
 refine hidp20 ?_
 go_step
 go_step
 go_step
 go_step
 go_step
 have T0:BxA (w2.alloc (.cells #[.int .i64 0,.slice none 0 0,.slice none 0 0,.slice none 0 0,.slice none 0 0,.int .i64 0,.int .i64 0,.int .i64 0,.int .i64 0,.int .i64 0,.int .i64 0,.int .i64 0,.slice none 0 0,.int .i64 0,.slice none 0 0] 35)) w2.heap.size 35 (hC zeroH zeroP):=BxA.new w2 _ _
 refine wp_storeH T0 rfl rfl rfl ?_
 intro v XV gv zv
 obtain ⟨G,hG⟩:=ex0 (w2.heap.size)
 have bv:Below w2.heap.size w2 v:=below_grB (belA w2 _) gv (Nat.le_refl _) (Nat.le_refl _)
 have b12:Below W.heap.size W v:=b2.trans (bv.mono b2.size)
 have KX:HX W.heap.size v G h p' R:=⟨by rw [hG];exact XV,by rw [hG];exact b2.size,hw.up bv⟩
 rw [← hG]
 have HK:=hideIt KX
 have HBv:=hideIt b12
 have HRv:=hideIt (HR.out.up b12)
 clear T0 XV gv zv hG bv hw b2 KX b12 HCp HR
 have hsn2:p'.s.n≤80:=by have h1:=HK.out.hw.ow.inn.s.1;have h2:=HSh.out;omega
 have HXv:=hideIt (And.intro (HXs.out.1.up HBv.out) (And.intro (HXs.out.2.1.up HBv.out) (HXs.out.2.2.up HBv.out)))
 have HBvw:Hid (Below w.heap.size w v):=HB.out.trans (HBv.out.mono HB.out.size)
 have HOk:=hideIt (iHeadOk_inv v HRv.out)
 have HAn:Hid (∀ u,Below v.heap.size v u→Calls Tryz.prog 93 #[.int .i64 h.N,.agg #[.int .i64 num,.bool ok,.slice aE nE cE,.slice aL nL cL]] u fun e w'=>e=.returned (.bool (O.aB h.N ⟨num,ok,es,ls⟩))∧Below v.heap.size v w'):=fun u hu=>by
  have h1:=Q.iAnswerOk_any h.N num ok es ls nE aE cE Hz.out.2.2.1 nL aL cL Hz.out.2.2.2 u (HE0.out.up (HBvw.out.trans (hu.mono HBvw.out.size))) (HI0.out.up (HBvw.out.trans (hu.mono HBvw.out.size)))
  exact h1.mono fun e w' ⟨h2,h3⟩=>⟨h2,hu.trans (h3.mono hu.size)⟩
 have y0:=HXv.out.1.cell 0 rfl
 have hb':=hb
 unfold hearB at hb'
 clear hb
 have HTb:=hideIt hb'
 clear hb'
 have HHb:Hid (hearB h sh ⟨num,ok,es,ls⟩=false):=HTb.out
 cases hct:ctB h with
 | false =>
  have HN:Hid (T=none):=by
   show T=none
   rw [HT.out]
   unfold hearR
   rw [if_neg (by rw [HHb.out];decide)]
  rw [hct] at HOk
  clear HT
  go_upto_region 2 with fail
  refine wp_region_lit ?_
  go_step
  refine wp_loadH HXv.out.1 rfl rfl ?_
  go_wp2_with ((go_at_call 87;refine HOk.out.mono ?_;rintro e w3 ⟨rfl,b3⟩;refine Hid.out ?_))
  refine hidp20 ?_
  have HXz:=hideIt (HK.out.up b3).bx
  have HRz:=hideIt (HXv.out.2.2.up b3)
  have HBw:=hideIt (HBvw.out.trans (b3.mono HBvw.out.size))
  clear b3 y0
  go_upto_region 3 with fail
  refine wp_region_lit ?_
  go_step
  refine wp_loadH HXz.out rfl rfl ?_
  go_step
  go_step
  refine wp_storeH HRz.out rfl rfl rfl ?_
  intro vz XZ gz zz
  have HXZ:=hideIt XZ
  have HBz:=hideIt (below_grB HBw.out gz (show w.heap.size≤w.heap.size+1+1 by omega) (Nat.le_refl _))
  clear XZ gz zz
  go_wp2
  exact bodyPost_ret (results_H2 Tryz.results64 rfl rfl HXZ.out) rfl ⟨h,p',0,rfl,HBz.out,by rw [HN.out]⟩
 | true =>
  rw [hct] at HOk
  cases ha:O.aB h.N ⟨num,ok,es,ls⟩ with
  | false =>
   rw [ha] at HAn
   have HN:Hid (T=none):=by
    show T=none
    rw [HT.out]
    unfold hearR
    rw [if_neg (by rw [HHb.out];decide)]
   clear hct ha
   clear HT
   go_upto_region 2 with fail
   refine wp_region_lit ?_
   go_step
   refine wp_loadH HXv.out.1 rfl rfl ?_
   go_wp2_with (first
    | (go_at_call 87;refine HOk.out.mono ?_;rintro e w3 ⟨rfl,b3⟩;clear y0;have y0:=(HXv.out.1.up b3).cell 0 rfl;have n0:=(HXv.out.2.1.up b3).cell 0 rfl;have n1:=(HXv.out.2.1.up b3).cell 1 rfl;have n2:w3.cell? ⟨w.heap.size+1,2,none⟩=some (.slice aE nE cE):=(HXv.out.2.1.up b3).cell 2 rfl;have n3:w3.cell? ⟨w.heap.size+1,3,none⟩=some (.slice aL nL cL):=(HXv.out.2.1.up b3).cell 3 rfl)
    | (go_at_call 93;refine (HAn.out _ b3).mono ?_;rintro e w4 ⟨rfl,b4⟩;clear y0 n0 n1 n2 n3;have y9:=(HXv.out.1.up b4).cell 9 rfl;have y10:=(HXv.out.1.up b4).cell 10 rfl;have n0:=(HXv.out.2.1.up b4).cell 0 rfl;refine Hid.out ?_))
   refine hidp20 ?_
   have HXz:=hideIt (HK.out.up b4).bx
   have HRz:=hideIt (HXv.out.2.2.up b4)
   have HBw:=hideIt (HBvw.out.trans (b4.mono HBvw.out.size))
   clear b3 b4 y9 y10 n0
   go_upto_region 3 with fail
   refine wp_region_lit ?_
   go_step
   refine wp_loadH HXz.out rfl rfl ?_
   go_step
   go_step
   refine wp_storeH HRz.out rfl rfl rfl ?_
   intro vz XZ gz zz
   have HXZ:=hideIt XZ
   have HBz:=hideIt (below_grB HBw.out gz (show w.heap.size≤w.heap.size+1+1 by omega) (Nat.le_refl _))
   clear XZ gz zz
   go_wp2
   exact bodyPost_ret (results_H2 Tryz.results64 rfl rfl HXZ.out) rfl ⟨h,p',0,rfl,HBz.out,by rw [HN.out]⟩
  | true =>
   rw [ha] at HAn
   have HD:Hid (¬ (sh=h.sh∧num=h.num)):=by
    have h1:=HTb.out
    rw [hct,ha,Bool.true_and,Bool.true_and,decide_eq_false_iff_not] at h1
    exact h1
   clear hct ha
   by_cases hs:sh=h.sh
   ·have e2:(num != h.num)=true:=by have:=HD.out;simp;exact fun e=>this ⟨hs,e⟩
    have e1:(sh != h.sh)=false:=by simp [hs]
    have Hs:=hideIt hs
    clear hs
    have HN:Hid (T=none):=by
     show T=none
     rw [HT.out]
     unfold hearR
     rw [if_neg (by rw [HHb.out];decide)]
    skip
    clear HT
    go_upto_region 2 with fail
    refine wp_region_lit ?_
    go_step
    refine wp_loadH HXv.out.1 rfl rfl ?_
    go_wp2_with (first
     | (go_at_call 87;refine HOk.out.mono ?_;rintro e w3 ⟨rfl,b3⟩;clear y0;have y0:=(HXv.out.1.up b3).cell 0 rfl;have n0:=(HXv.out.2.1.up b3).cell 0 rfl;have n1:=(HXv.out.2.1.up b3).cell 1 rfl;have n2:w3.cell? ⟨w.heap.size+1,2,none⟩=some (.slice aE nE cE):=(HXv.out.2.1.up b3).cell 2 rfl;have n3:w3.cell? ⟨w.heap.size+1,3,none⟩=some (.slice aL nL cL):=(HXv.out.2.1.up b3).cell 3 rfl)
     | (go_at_call 93;refine (HAn.out _ b3).mono ?_;rintro e w4 ⟨rfl,b4⟩;clear y0 n0 n1 n2 n3;have y9:=(HXv.out.1.up b4).cell 9 rfl;have y10:=(HXv.out.1.up b4).cell 10 rfl;have n0:=(HXv.out.2.1.up b4).cell 0 rfl;refine Hid.out ?_))
    refine hidp20 ?_
    have HXz:=hideIt (HK.out.up b4).bx
    have HRz:=hideIt (HXv.out.2.2.up b4)
    have HBw:=hideIt (HBvw.out.trans (b4.mono HBvw.out.size))
    clear b3 b4
    go_upto_region 3 with fail
    refine wp_region_lit ?_
    go_step
    refine wp_loadH HXz.out rfl rfl ?_
    go_step
    go_step
    refine wp_storeH HRz.out rfl rfl rfl ?_
    intro vz XZ gz zz
    have HXZ:=hideIt XZ
    have HBz:=hideIt (below_grB HBw.out gz (show w.heap.size≤w.heap.size+1+1 by omega) (Nat.le_refl _))
    clear XZ gz zz
    go_wp2
    exact bodyPost_ret (results_H2 Tryz.results64 rfl rfl HXZ.out) rfl ⟨h,p',0,rfl,HBz.out,by rw [HN.out]⟩
   ·have e1:(sh != h.sh)=true:=by simpa using hs
    have Hs:=hideIt hs
    clear hs
    have HN:Hid (T=none):=by
     show T=none
     rw [HT.out]
     unfold hearR
     rw [if_neg (by rw [HHb.out];decide)]
    skip
    clear HT
    go_upto_region 2 with fail
    refine wp_region_lit ?_
    go_step
    refine wp_loadH HXv.out.1 rfl rfl ?_
    go_wp2_with (first
     | (go_at_call 87;refine HOk.out.mono ?_;rintro e w3 ⟨rfl,b3⟩;clear y0;have y0:=(HXv.out.1.up b3).cell 0 rfl;have n0:=(HXv.out.2.1.up b3).cell 0 rfl;have n1:=(HXv.out.2.1.up b3).cell 1 rfl;have n2:w3.cell? ⟨w.heap.size+1,2,none⟩=some (.slice aE nE cE):=(HXv.out.2.1.up b3).cell 2 rfl;have n3:w3.cell? ⟨w.heap.size+1,3,none⟩=some (.slice aL nL cL):=(HXv.out.2.1.up b3).cell 3 rfl)
     | (go_at_call 93;refine (HAn.out _ b3).mono ?_;rintro e w4 ⟨rfl,b4⟩;clear y0 n0 n1 n2 n3;have y9:=(HXv.out.1.up b4).cell 9 rfl;have y10:=(HXv.out.1.up b4).cell 10 rfl;have n0:=(HXv.out.2.1.up b4).cell 0 rfl;refine Hid.out ?_))
    refine hidp20 ?_
    have HXz:=hideIt (HK.out.up b4).bx
    have HRz:=hideIt (HXv.out.2.2.up b4)
    have HBw:=hideIt (HBvw.out.trans (b4.mono HBvw.out.size))
    clear b3 b4
    go_upto_region 3 with fail
    refine wp_region_lit ?_
    go_step
    refine wp_loadH HXz.out rfl rfl ?_
    go_step
    go_step
    refine wp_storeH HRz.out rfl rfl rfl ?_
    intro vz XZ gz zz
    have HXZ:=hideIt XZ
    have HBz:=hideIt (below_grB HBw.out gz (show w.heap.size≤w.heap.size+1+1 by omega) (Nat.le_refl _))
    clear XZ gz zz
    go_wp2
    exact bodyPost_ret (results_H2 Tryz.results64 rfl rfl HXZ.out) rfl ⟨h,p',0,rfl,HBz.out,by rw [HN.out]⟩
set_option maxRecDepth 100000 in
set_option maxHeartbeats 16000000 in
theorem iHear_yes {S:Nat} {h:Hd} {p:Hp} (sh num:Int) (ok:Bool) (es:List O.EdgeV) (ls:List Int) (aE:Option Addr) (nE cE:Nat) (aL:Option Addr) (nL cL:Nat) (w:World) (R0:HR S w h p) (hE:O.Es w w.heap.size aE nE es) (hI:Is w w.heap.size aL nL ls) (hz:aE=none→nE=0∧cE=0) (hzL:aL=none→nL=0∧cL=0) (hnE:nE≤1048576) (hnL:nL≤1048576) (hb:hearB h sh ⟨num,ok,es,ls⟩=true) :
  Calls Tryz.prog 64 #[.agg (hC h p),.int .i64 sh,.agg #[.int .i64 num,.bool ok,.slice aE nE cE,.slice aL nL cL]] w fun e w'=>TkA w (hearR h sh ⟨num,ok,es,ls⟩) e w':=by
 obtain ⟨T,hT⟩:=ex0 (hearR h sh ⟨num,ok,es,ls⟩)
 rw [← hT]
 have hln:=R0.inv.lens R0.inn
 obtain ⟨W,hW⟩:=ex0 (((w.alloc (.cells (hC h p) 35)).alloc (.cells #[.int .i64 num,.bool ok,.slice aE nE cE,.slice aL nL cL] 60)).alloc (.cells #[.int .i64 0,.slice none 0 0,.slice none 0 0,.slice none 0 0,.slice none 0 0,.int .i64 0,.int .i64 0,.int .i64 0,.int .i64 0,.int .i64 0,.int .i64 0,.int .i64 0,.slice none 0 0,.int .i64 0,.slice none 0 0] 35))
 have bW:Below w.heap.size w W:=by rw [hW];exact ((belA _ _).alloc (by simp) _).alloc (by simp;omega) _
 have X0:BxA W w.heap.size 35 (hC h p):=by rw [hW];exact ((BxA.new w _ _).up (belA _ _)).up (belA _ _)
 have X1:BxA W (w.heap.size+1) 60 #[.int .i64 num,.bool ok,.slice aE nE cE,.slice aL nL cL]:=by
  have q:=(BxA.new (w.alloc (.cells (hC h p) 35)) 60 #[.int .i64 num,.bool ok,.slice aE nE cE,.slice aL nL cL]).up (belA _ (.cells #[.int .i64 0,.slice none 0 0,.slice none 0 0,.slice none 0 0,.slice none 0 0,.int .i64 0,.int .i64 0,.int .i64 0,.int .i64 0,.int .i64 0,.int .i64 0,.int .i64 0,.slice none 0 0,.int .i64 0,.slice none 0 0] 35))
  rw [show (w.alloc (.cells (hC h p) 35)).heap.size=w.heap.size+1 by simp] at q
  rw [hW];exact q
 have X2:BxA W (w.heap.size+1+1) 35 (hC zeroH zeroP):=by
  have q:=BxA.new ((w.alloc (.cells (hC h p) 35)).alloc (.cells #[.int .i64 num,.bool ok,.slice aE nE cE,.slice aL nL cL] 60)) 35 #[.int .i64 0,.slice none 0 0,.slice none 0 0,.slice none 0 0,.slice none 0 0,.int .i64 0,.int .i64 0,.int .i64 0,.int .i64 0,.int .i64 0,.int .i64 0,.int .i64 0,.slice none 0 0,.int .i64 0,.slice none 0 0]
  rw [show ((w.alloc (.cells (hC h p) 35)).alloc (.cells #[.int .i64 num,.bool ok,.slice aE nE cE,.slice aL nL cL] 60)).heap.size=w.heap.size+1+1 by simp] at q
  rw [hW];exact q
 have HXs:=hideIt (And.intro X0 (And.intro X1 X2))
 have HB:=hideIt bW
 have HR:=hideIt (R0.up bW)
 have HL3:Hid (w.heap.size+3≤W.heap.size):=X2.lt
 have HCp:=hideIt (headCopy_inv W HR.out)
 have HSh:Hid (h.said.length=p.s.n∧p.s.n≤80):=⟨hln.2.2.2.2.2.1,hln.2.2.2.2.1⟩
 have HT:=hideIt hT
 have HE0:=hideIt hE
 have HI0:=hideIt hI
 have Hz:=hideIt (And.intro hz (And.intro hzL (And.intro hnE hnL)))
 clear bW R0 hln X1 X2 hT hE hI hz hzL hnE hnL
 go_enter Tryz.func64,Tryz.ntmps64
 go_upto_region 1 with fail
 rw [← hW]
 clear hW
 refine wp_region_lit ?_
 go_step
 refine wp_loadH X0 rfl rfl ?_
 clear X0
 go_wp2_with (go_at_call 89;refine HCp.out.mono ?_;rintro e w2 ⟨p',R,rfl,hw,b2⟩;refine Hid.out ?_)
 refine hidp20 ?_
 go_step
 go_step
 go_step
 go_step
 go_step
 have T0:BxA (w2.alloc (.cells #[.int .i64 0,.slice none 0 0,.slice none 0 0,.slice none 0 0,.slice none 0 0,.int .i64 0,.int .i64 0,.int .i64 0,.int .i64 0,.int .i64 0,.int .i64 0,.int .i64 0,.slice none 0 0,.int .i64 0,.slice none 0 0] 35)) w2.heap.size 35 (hC zeroH zeroP):=BxA.new w2 _ _
 refine wp_storeH T0 rfl rfl rfl ?_
 intro v XV gv zv
 obtain ⟨G,hG⟩:=ex0 (w2.heap.size)
 have bv:Below w2.heap.size w2 v:=below_grB (belA w2 _) gv (Nat.le_refl _) (Nat.le_refl _)
 have b12:Below W.heap.size W v:=b2.trans (bv.mono b2.size)
 have KX:HX W.heap.size v G h p' R:=⟨by rw [hG];exact XV,by rw [hG];exact b2.size,hw.up bv⟩
 rw [← hG]
 have HK:=hideIt KX
 have HBv:=hideIt b12
 have HRv:=hideIt (HR.out.up b12)
 clear T0 XV gv zv hG bv hw b2 KX b12 HCp HR
 have hsn2:p'.s.n≤80:=by have h1:=HK.out.hw.ow.inn.s.1;have h2:=HSh.out;omega
 have HXv:=hideIt (And.intro (HXs.out.1.up HBv.out) (And.intro (HXs.out.2.1.up HBv.out) (HXs.out.2.2.up HBv.out)))
 have HBvw:Hid (Below w.heap.size w v):=HB.out.trans (HBv.out.mono HB.out.size)
 have HOk:=hideIt (iHeadOk_inv v HRv.out)
 have HAn:Hid (∀ u,Below v.heap.size v u→Calls Tryz.prog 93 #[.int .i64 h.N,.agg #[.int .i64 num,.bool ok,.slice aE nE cE,.slice aL nL cL]] u fun e w'=>e=.returned (.bool (O.aB h.N ⟨num,ok,es,ls⟩))∧Below v.heap.size v w'):=fun u hu=>by
  have h1:=Q.iAnswerOk_any h.N num ok es ls nE aE cE Hz.out.2.2.1 nL aL cL Hz.out.2.2.2 u (HE0.out.up (HBvw.out.trans (hu.mono HBvw.out.size))) (HI0.out.up (HBvw.out.trans (hu.mono HBvw.out.size)))
  exact h1.mono fun e w' ⟨h2,h3⟩=>⟨h2,hu.trans (h3.mono hu.size)⟩
 have y0:=HXv.out.1.cell 0 rfl
 obtain ⟨t,ha,hsh,hnu⟩:=hear_tk HRv.out.inv hb
 dsimp only at hnu
 have hct:ctB h=true:=by unfold hearB at hb;rw [Bool.and_eq_true] at hb;exact hb.1
 have HY:Hid (T=some (hdH (setH h num ls) ok es).1):=by show T=_;rw [HT.out];unfold hearR;rw [if_pos hb]
 have hHr:=HRv.out.inv.hear hb
 dsimp only at hHr
 obtain ⟨a1,a2,a3⟩:=aB_parts ha
 dsimp only at a1 a2 a3
 have hq:=HRv.out.inv.set (num:=num) (by omega) a3
 have hnm:=HRv.out.inv.setNum t (ls:=ls) hnu
 rw [hct] at HOk
 rw [ha] at HAn
 have e1:(sh != h.sh)=false:=by simp [hsh]
 have e2:(num != h.num)=false:=by simp [hnu]
 obtain ⟨j,hj⟩:∃ j:Nat,sh=(j:Int)+1:=⟨(sh - 1).toNat,by have:=t.sh;omega⟩
 have hjS:j<S:=by have:=t.sh;omega
 have hln:=HRv.out.inv.lens HK.out.hw.ow.inn
 have hlR:R.length=p'.l.n:=HK.out.hw.ow.l.len
 have hN1:=HRv.out.inv.n
 have hnL:(nL:Int)=h.N:=by have h1:=HI0.out.1;unfold O.lB at a3;rw [Bool.and_eq_true,decide_eq_true_iff] at a3;omega
 have hjh:(h.sh - 1).toNat=j:=by omega
 have Ht:=hideIt t
 have HQ1:=hideIt hq
 have HNm:Hid (∀ y ∈ (setH h num ls).nums,0≤y∧y≤1000):=fun y hy=>⟨hq.num.2 y hy,by have h1:=hnm y hy;have h2:=t.ln;split at h1 <;> omega⟩
 have Ha2:=hideIt a2
 have HHr:=hideIt hHr
 have HLen:=hideIt (And.intro hnL (And.intro hjh (And.intro hlR hln)))
 subst hj
 clear hb ha hsh hnu hct hHr a1 a2 a3 hq hnm t hlR hjh HT hln
 go_upto_region 2 with fail
 refine wp_region_lit ?_
 go_step
 refine wp_loadH HXv.out.1 rfl rfl ?_
 go_wp2_with (first
  | (go_at_call 87;refine HOk.out.mono ?_;rintro e w3 ⟨rfl,b3⟩;clear y0;have y0:=(HXv.out.1.up b3).cell 0 rfl;have n0:=(HXv.out.2.1.up b3).cell 0 rfl;have n1:=(HXv.out.2.1.up b3).cell 1 rfl;have n2:w3.cell? ⟨w.heap.size+1,2,none⟩=some (.slice aE nE cE):=(HXv.out.2.1.up b3).cell 2 rfl;have n3:w3.cell? ⟨w.heap.size+1,3,none⟩=some (.slice aL nL cL):=(HXv.out.2.1.up b3).cell 3 rfl)
  | (go_at_call 93;refine (HAn.out _ b3).mono ?_;rintro e w4 ⟨rfl,b4⟩;clear y0 n0 n1 n2 n3;have y9:=(HXv.out.1.up b4).cell 9 rfl;have y10:=(HXv.out.1.up b4).cell 10 rfl;have n0:=(HXv.out.2.1.up b4).cell 0 rfl;refine Hid.out ?_))
 refine hidp20 ?_
 go_upto_region 4 with fail
 clear y9 y10 n0 e1 e2
 have HK4:=hideIt (HK.out.up b4)
 have HB4:Hid (Below W.heap.size W w4):=HBv.out.trans (b4.mono HBv.out.size)
 have HN4:=hideIt (HXv.out.2.1.up b4)
 have HZ4:=hideIt (HXv.out.2.2.up b4)
 have HBw4:Hid (Below w.heap.size w w4):=HBvw.out.trans (b4.mono HBvw.out.size)
 clear b3 b4
 obtain ⟨bn,en⟩:∃ bn,p'.n.a=some ⟨bn,0,none⟩:=by
  rcases HK4.out.hw.ow.n.2 with ⟨hv,h0⟩ | ⟨g,cap,cur,hv,_⟩
  ·have:=HLen.out.2.2.2.2.2.2.1;omega
  ·simp [Sx.v] at hv;exact ⟨g,hv.1⟩
 obtain ⟨bl,el⟩:∃ bl,p'.l.a=some ⟨bl,0,none⟩:=by
  rcases HK4.out.hw.ow.l.own.2 with ⟨hv,h0⟩ | ⟨g,cap,cur,hv,_⟩
  ·have:=HLen.out.2.2.2.2.2.1;omega
  ·simp at hv;exact ⟨g,hv.1⟩
 have env:p'.n.v=.slice (some ⟨bn,0,none⟩) p'.n.n p'.n.c:=by unfold Sx.v;rw [en]
 have elv:p'.l.v=.slice (some ⟨bl,0,none⟩) p'.l.n p'.l.c:=by unfold Sx.v;rw [el]
 have hlow:p'.l.v.ownBlock=some bl:=by rw [elv];rfl
 have hnow:p'.n.v.ownBlock=some bn:=by rw [env];rfl
 have hlo:∀ (u:World) (h1:Hd),HX W.heap.size u G h1 p' R→u.ownsRow W.heap.size 24 1 p'.l.v p'.l.n (rhs R):=fun u h1 ku=>ku.hw.ow.l.own
 have hne:bn≠bl:=fun e=>rowsNe HK4.out.hw.ow.n (hlo _ _ HK4.out) (by decide) bn hnow (by rw [hlow,e])
 have hne':bl≠bn:=hne.symm
 have Hbn:Hid (bn<w4.heap.size∧bl<w4.heap.size):=⟨(HK4.out.hw.ow.n.lt bn hnow).2,((hlo _ _ HK4.out).lt bl hlow).2⟩
 have HE:=hideIt (And.intro en (And.intro el (And.intro env (And.intro elv (And.intro hlow hnow)))))
 have HS4:Hid (∀ (u:World) (h1:Hd),BxA u G 35 (hC h1 p')→BxA u (w.heap.size+1) 60 #[.int .i64 num,.bool ok,.slice aE nE cE,.slice aL nL cL]→u.cell? ⟨G,3,none⟩=some (.slice (some ⟨bl,0,none⟩) p'.l.n p'.l.c)∧u.cell? ⟨G,4,none⟩=some (.slice (some ⟨bn,0,none⟩) p'.n.n p'.n.c)∧u.cell? ⟨w.heap.size+1,0,none⟩=some (.int .i64 num)∧u.cell? ⟨w.heap.size+1,3,none⟩=some (.slice aL nL cL)):=fun u h1 X Y=>⟨by rw [← elv];exact X.cell 3 rfl,by rw [← env];exact X.cell 4 rfl,Y.cell 0 rfl,Y.cell 3 rfl⟩
 have HSb:Hid (∀ u:World,Below w4.heap.size w4 u→u.cell? ⟨G,3,none⟩=some (.slice (some ⟨bl,0,none⟩) p'.l.n p'.l.c)∧u.cell? ⟨G,4,none⟩=some (.slice (some ⟨bn,0,none⟩) p'.n.n p'.n.c)∧u.cell? ⟨w.heap.size+1,0,none⟩=some (.int .i64 num)∧u.cell? ⟨w.heap.size+1,3,none⟩=some (.slice aL nL cL)):=fun u hu=>HS4.out u h (HK4.out.up hu).bx (HN4.out.up hu)
 have c4:Below w4.heap.size w4 w4:=Below.refl _ _
 have q1:(0:Int)≤(j:Int):=by omega
 have q2:(j:Int)<(p'.n.n:Int):=by have:=HLen.out.2.2.2;have:=hjS;omega
 have q3:(j:Int)<(p'.l.n:Int):=by have:=HLen.out.2.2.2;have:=hjS;omega
 have w0:wrap64 (j:Int)=(j:Int):=by have:=HRv.out.inv.s;have:=hjS;unfold wrap64;omega
 have HCon:Hid (Calls Tryz.prog 94 #[.slice (some ⟨w4.heap.size,0,none⟩) 1 1] (w4.drew.alloc (.cells #[.slice aL nL cL] 24)) fun e u=>∃ g cp,e=.returned (.slice (some ⟨g,0,none⟩) nL cp)∧u.ownsRow w4.heap.size 3 1 (.slice (some ⟨g,0,none⟩) nL cp) nL (ic ls)∧Below w4.heap.size w4 u):=by
  have bA:Below w4.heap.size w4 (w4.drew.alloc (.cells #[.slice aL nL cL] 24)):=c4.drew.alloc (by simp) _
  have XC:=BxA.new w4.drew 24 #[.slice aL nL cL]
  exact (con1I20 ls aL nL cL (by have:=Hz.out.2.2.2;omega) (by omega) Hz.out.2.1 w4.heap.size _ (HI0.out.up (HBw4.out.trans (bA.mono HBw4.out.size))) ⟨XC.cell 0 rfl,XC.lt⟩).mono fun e u ⟨g,cp,h1,h2,h3⟩=>⟨g,cp,h1,own_mono h2 bA.size,bA.trans (h3.mono bA.size)⟩
 have HAf:Hid (∀ (u:World) (g cp:Nat),Below w4.heap.size w4 u→u.ownsRow w4.heap.size 3 1 (.slice (some ⟨g,0,none⟩) nL cp) nL (ic ls)→HX W.heap.size u G h p' R∧(∃ z,u.cell? ⟨bn,j,none⟩=some z)∧u.frozen? ⟨bn,j,none⟩=false∧(∃ z,u.cell? ⟨bl,j,none⟩=some z)∧u.frozen? ⟨bl,j,none⟩=false∧u.ownsRow w4.heap.size 3 1 (.slice (some ⟨g,0,none⟩) nL cp) nL (ic ls)):=fun u g cp hu ho=>by
  have ku:=HK4.out.up hu
  have k1:=ku.hw.ow.n
  have k2:=hlo u _ ku
  rw [env] at k1
  rw [elv] at k2
  have l1:=k1.1
  have l2:=k2.1
  have l3:=HLen.out.2.2.2
  have l4:=hjS
  exact ⟨ku,⟨_,by rw [k1.cellAt j (by omega)];exact List.getElem?_eq_getElem (by omega)⟩,k1.frozenAt j,⟨_,by rw [k2.cellAt j (by omega)];exact List.getElem?_eq_getElem (by omega)⟩,k2.frozenAt j,ho⟩
 have HF6f:Hid (∀ (u:World) (g cp:Nat),Below w4.heap.size w4 u→HX W.heap.size u G h p' R→u.ownsRow w4.heap.size 3 1 (.slice (some ⟨g,0,none⟩) nL cp) nL (ic ls)→HX W.heap.size (u.setCell ⟨bn,j,none⟩ (.int .i64 num)) G (numH h j num) p' R∧(fun u=>u.cell? ⟨G,3,none⟩=some (.slice (some ⟨bl,0,none⟩) p'.l.n p'.l.c)∧u.cell? ⟨G,4,none⟩=some (.slice (some ⟨bn,0,none⟩) p'.n.n p'.n.c)∧u.cell? ⟨w.heap.size+1,0,none⟩=some (.int .i64 num)∧u.cell? ⟨w.heap.size+1,3,none⟩=some (.slice aL nL cL)) (u.setCell ⟨bn,j,none⟩ (.int .i64 num))∧(∃ z,(u.setCell ⟨bn,j,none⟩ (.int .i64 num)).cell? ⟨bl,j,none⟩=some z)∧(u.setCell ⟨bn,j,none⟩ (.int .i64 num)).frozen? ⟨bl,j,none⟩=false∧((u.setCell ⟨bn,j,none⟩ (.int .i64 num)).ownsRow w4.heap.size 3 1 (.slice (some ⟨g,0,none⟩) nL cp) nL (ic ls)∧Below w.heap.size w (u.setCell ⟨bn,j,none⟩ (.int .i64 num))∧BxA (u.setCell ⟨bn,j,none⟩ (.int .i64 num)) (w.heap.size+1) 60 #[.int .i64 num,.bool ok,.slice aE nE cE,.slice aL nL cL]∧BxA (u.setCell ⟨bn,j,none⟩ (.int .i64 num)) (w.heap.size+1+1) 35 (hC zeroH zeroP))):=fun u g cp hu ku ho=>by
  obtain ⟨en,el,env,elv,hlow,hnow⟩:=HE.out
  have k6:=ku.setNum en j num
  have l0:=(HK4.out.hw.ow.n.lt bn hnow).1
  have l1:=(HK4.out.hw.ow.n.lt bn hnow).2
  have l3:=HL3.out
  have N6:BxA (u.setCell ⟨bn,j,none⟩ (.int .i64 num)) (w.heap.size+1) 60 #[.int .i64 num,.bool ok,.slice aE nE cE,.slice aL nL cL]:=(HN4.out.up hu).setO _ (by omega)
  have Z6:BxA (u.setCell ⟨bn,j,none⟩ (.int .i64 num)) (w.heap.size+1+1) 35 (hC zeroH zeroP):=(HZ4.out.up hu).setO _ (by omega)
  have k2:=hlo _ _ k6
  rw [elv] at k2
  have l2:=k2.1
  have l4:=HLen.out.2.2.2
  have l5:=hjS
  refine ⟨k6,HS4.out _ _ k6.bx N6,⟨_,by rw [k2.cellAt j (by omega)];exact List.getElem?_eq_getElem (by omega)⟩,k2.frozenAt j,World.ownsRow.kept ho (grownSet u bn j _) (.inr fun e=>?_),Below.setCell (HBw4.out.trans (hu.mono HBw4.out.size)) (p:=⟨bn,j,none⟩) (by show w.heap.size≤bn;omega) _,N6,Z6⟩
  have h1:=(ho.lt g rfl).1
  simp [Value.ownBlock] at e
  omega
 have HF7f:Hid (∀ (u:World) (g cp:Nat),HX W.heap.size u G (numH h j num) p' R→u.ownsRow w4.heap.size 3 1 (.slice (some ⟨g,0,none⟩) nL cp) nL (ic ls)→(Below w.heap.size w u∧BxA u (w.heap.size+1) 60 #[.int .i64 num,.bool ok,.slice aE nE cE,.slice aL nL cL]∧BxA u (w.heap.size+1+1) 35 (hC zeroH zeroP))→(fun u=>u.cell? ⟨G,3,none⟩=some (.slice (some ⟨bl,0,none⟩) p'.l.n p'.l.c)∧u.cell? ⟨G,4,none⟩=some (.slice (some ⟨bn,0,none⟩) p'.n.n p'.n.c)∧u.cell? ⟨w.heap.size+1,0,none⟩=some (.int .i64 num)∧u.cell? ⟨w.heap.size+1,3,none⟩=some (.slice aL nL cL)) (u.setCell ⟨bl,j,none⟩ (.slice (some ⟨g,0,none⟩) nL cp))∧Calls Tryz.prog 95 #[.pointer (some ⟨G,0,none⟩),.agg #[.int .i64 num,.bool ok,.slice aE nE cE,.slice aL nL cL]] (u.setCell ⟨bl,j,none⟩ (.slice (some ⟨g,0,none⟩) nL cp)) (fun e v=>∃ c,e=.returned (.int .i64 c)∧(c=1∨c=2)∧(∃ p R,HX W.heap.size v G (hdH (setH h num ls) ok es).1 p R)∧Below W.heap.size u v)∧BxA (u.setCell ⟨bl,j,none⟩ (.slice (some ⟨g,0,none⟩) nL cp)) (w.heap.size+1) 60 #[.int .i64 num,.bool ok,.slice aE nE cE,.slice aL nL cL]):=fun u g cp ku ho hx=>by
  obtain ⟨en,el,env,elv,hlow,hnow⟩:=HE.out
  have l0:=((hlo _ _ ku).lt bl hlow).1
  have l3:=HL3.out
  have hg:=(ho.lt g rfl).1
  have k7:=ku.setLab el j (m:=nL) (g:=g) (cp:=cp) (ls:=ls) HI0.out.1.symm (own_mono ho HB4.out.size) (fun e=>by have:=(HK4.out.hw.ow.o.lt g e).2;omega) (fun e=>by have:=(HK4.out.hw.ow.n.lt g e).2;omega) (fun r hr e=>by have:=((HK4.out.hw.ow.l.ins r hr).1).lt;omega)
  have eH:labH (numH h j num) j ls=setH h num ls:=by rw [setH_eq,HLen.out.2.1]
  rw [eH] at k7
  have N7:=hx.2.1.setO (G:=bl) (j:=j) (.slice (some ⟨g,0,none⟩) nL cp) (by omega)
  have lu:W.heap.size≤u.heap.size:=Nat.le_trans ku.ge (Nat.le_of_lt ku.bx.lt)
  have b7:Below W.heap.size u (u.setCell ⟨bl,j,none⟩ (.slice (some ⟨g,0,none⟩) nL cp)):=Below.setCell (Below.refl _ _) (p:=⟨bl,j,none⟩) l0 _
  have w7:Below w.heap.size w (u.setCell ⟨bl,j,none⟩ (.slice (some ⟨g,0,none⟩) nL cp)):=Below.setCell hx.1 (p:=⟨bl,j,none⟩) (by show w.heap.size≤bl;omega) _
  have l7:W.heap.size≤(u.setCell ⟨bl,j,none⟩ (.slice (some ⟨g,0,none⟩) nL cp)).heap.size:=by simpa [World.setCell] using lu
  refine ⟨HS4.out _ _ k7.bx N7,?_,N7⟩
  have hp:=rgB_parts Ht.out.rg
  have ho3:=Ht.out.o3
  have hop:=Ht.out.op
  by_cases h4:h.o=4
  ·have e1:hdH (setH h num ls) ok es=(if (setH h num ls).op=3 then mvH (setH h num ls) h.i h.a h.b es else (sayH (setH h num ls) h.i 4 h.a h.b 1,1)):=by unfold hdH;exact if_pos h4
   have hHr:=HHr.out
   rw [e1] at hHr ⊢
   refine (pGo4 (S:=S) num ok es aE nE cE aL nL cL _ k7 h4 HQ1.out (by show h.op=3∨h.op=4;omega) l7 ⟨hp.1,hp.2.1⟩ (by show 1≤h.b∧h.b≤(S:Int);omega) HNm.out (by omega) Ha2.out (HE0.out.up w7) Hz.out.1).mono fun e v ⟨h1,h2,h3⟩=>⟨_,h1,hHr.2,h2,b7.trans h3⟩
  ·have e1:hdH (setH h num ls) ok es=(sayH (setH h num ls) h.i h.o h.a h.b (if ok then 1 else 2),1):=by unfold hdH;exact if_neg h4
   rw [e1]
   have h12:h.o=1∨h.o=2:=by omega
   rcases h12 with h5 | h5
   ·rw [h5]
    exact (pGo1 num ok aE nE cE aL nL cL _ k7 h5 l7 (by omega)).mono fun e v ⟨h1,h2,h3⟩=>⟨_,h1,.inl rfl,h2,b7.trans h3⟩
   ·rw [h5]
    exact (pGo2 num ok aE nE cE aL nL cL _ k7 h5 l7 (by omega)).mono fun e v ⟨h1,h2,h3⟩=>⟨_,h1,.inl rfl,h2,b7.trans h3⟩
 (
 refine wp_region_held_drew (S:=(fun u=>u.cell? ⟨G,3,none⟩=some (.slice (some ⟨bl,0,none⟩) p'.l.n p'.l.c)∧u.cell? ⟨G,4,none⟩=some (.slice (some ⟨bn,0,none⟩) p'.n.n p'.n.c)∧u.cell? ⟨w.heap.size+1,0,none⟩=some (.int .i64 num)∧u.cell? ⟨w.heap.size+1,3,none⟩=some (.slice aL nL cL))) (by kernel_rfl) (HSb.out _ c4.drew) (fun hHeld=>?_)
 refine tq0 (i:=0) (v:=?_) rfl ?_ (by assumption) ?_
 rotate_left
 ·intro w hSw;obtain ⟨z3,z4,zn,zl⟩:=hSw;go_simp;try with_reducible rfl
 try simp only [Act.put,pU0]
 refine tq0 (i:=1) (v:=?_) rfl ?_ (by assumption) ?_
 rotate_left
 ·intro w hSw;obtain ⟨z3,z4,zn,zl⟩:=hSw;go_simp;try with_reducible rfl
 try simp only [Act.put,pU0]
 refine tq0 (i:=2) (v:=?_) rfl ?_ (by assumption) ?_
 rotate_left
 ·intro w hSw;obtain ⟨z3,z4,zn,zl⟩:=hSw;go_simp;try with_reducible rfl
 try simp only [Act.put,pU0]
 refine tq0 (i:=3) (v:=?_) rfl ?_ (by assumption) ?_
 rotate_left
 ·intro w hSw;obtain ⟨z3,z4,zn,zl⟩:=hSw;go_simp;try with_reducible rfl
 try simp only [Act.put,pU0]
 refine tq0 (i:=4) (v:=?_) rfl ?_ (by assumption) ?_
 rotate_left
 ·intro w hSw;obtain ⟨z3,z4,zn,zl⟩:=hSw;go_simp;try with_reducible rfl
 try simp only [Act.put,pU0]
 refine tq0 (i:=5) (v:=?_) rfl ?_ (by assumption) ?_
 rotate_left
 ·intro w hSw;obtain ⟨z3,z4,zn,zl⟩:=hSw;go_simp;try with_reducible rfl
 try simp only [Act.put,pU0]
 refine tq0 (i:=6) (v:=?_) rfl ?_ (by assumption) ?_
 rotate_left
 ·intro w hSw;obtain ⟨z3,z4,zn,zl⟩:=hSw;go_simp;try with_reducible rfl
 try simp only [Act.put,pU0]
 refine tq0 (i:=7) (v:=?_) rfl ?_ (by assumption) ?_
 rotate_left
 ·intro w hSw;obtain ⟨z3,z4,zn,zl⟩:=hSw;go_simp;try with_reducible rfl
 try simp only [Act.put,pU0]
 refine tq0 (i:=8) (v:=?_) rfl ?_ (by assumption) ?_
 rotate_left
 ·intro w hSw;obtain ⟨z3,z4,zn,zl⟩:=hSw;go_simp;try with_reducible rfl
 try simp only [Act.put,pU0]
 refine tq0 (i:=9) (v:=?_) rfl ?_ (by assumption) ?_
 rotate_left
 ·intro w hSw;obtain ⟨z3,z4,zn,zl⟩:=hSw;go_simp;try with_reducible rfl
 try simp only [Act.put,pU0]
 refine tq0 (i:=10) (v:=?_) rfl ?_ (by assumption) ?_
 rotate_left
 ·intro w hSw;obtain ⟨z3,z4,zn,zl⟩:=hSw;go_simp;try with_reducible rfl
 try simp only [Act.put,pU0]
 refine tq0 (i:=11) (v:=?_) rfl ?_ (by assumption) ?_
 rotate_left
 ·intro w hSw;obtain ⟨z3,z4,zn,zl⟩:=hSw;go_simp;try with_reducible rfl
 try simp only [Act.put,pU0]
 refine wr0 (i:=12) rfl (fun K hK=>?_)
 go_simp
 refine hK.out _ _ (HSb.out _ (c4.drew.alloc (by simp) _)) (fun hHeld=>?_)
 clear hK K
 try simp only [pU0]
 refine wr0 (i:=13) rfl (fun K hK=>?_)
 rw [if_pos]
 rotate_left
 ·kernel_rfl
 go_wp2_with (go_at_call 94;refine (HCon.out).mono ?_;rintro e w5 ⟨g,cp,rfl,ho,b5⟩;refine Hid.out ?_)
 refine hidp20 ?_
 refine hK.out _ _ (HSb.out _ b5) (fun hHeld=>?_)
 clear hK K
 try simp only [pU0]
 obtain ⟨k5,⟨z0,x0⟩,f0,⟨z1,x1⟩,f1,ho5⟩:=HAf.out w5 g cp b5 ho
 have HK5:=hideIt k5
 have HO5:=hideIt ho5
 have lbn:bn<w5.heap.size:=Nat.lt_of_lt_of_le Hbn.out.1 b5.size
 have lbl:bl<w5.heap.size:=Nat.lt_of_lt_of_le Hbn.out.2 b5.size
 clear k5 ho ho5
 refine tq0 (i:=14) (v:=?_) rfl ?_ (by assumption) ?_
 rotate_left
 ·intro w hSw;obtain ⟨z3,z4,zn,zl⟩:=hSw;go_simp;try with_reducible rfl
 try simp only [Act.put,pU0]
 refine wr0 (i:=15) rfl (fun K hK=>?_)
 go_simp
 obtain ⟨w6,hw6⟩:=ex0 (w5.setCell ⟨bn,j,none⟩ (.int .i64 num))
 rw [← hw6]
 have HF6:=hideIt (HF6f.out w5 g cp b5 HK5.out HO5.out)
 rw [← hw6] at HF6
 obtain ⟨k6,s6,⟨z2,y1⟩,g1,ho6⟩:=HF6.out
 refine hK.out _ _ s6 (fun hHeld=>?_)
 clear hK K x0 f0 x1 f1 HF6 HK5 HO5
 try simp only [pU0]
 have HK6:=hideIt (And.intro k6 ho6)
 have lbl6:bl<w6.heap.size:=by rw [hw6];simpa [World.setCell] using lbl
 clear hw6 k6 s6 ho6
 refine tq0 (i:=16) (v:=?_) rfl ?_ (by assumption) ?_
 rotate_left
 ·intro w hSw;obtain ⟨z3,z4,zn,zl⟩:=hSw;go_simp;try with_reducible rfl
 try simp only [Act.put,pU0]
 refine wr0 (i:=17) rfl (fun K hK=>?_)
 go_simp
 obtain ⟨w7,hw7⟩:=ex0 (w6.setCell ⟨bl,j,none⟩ (.slice (some ⟨g,0,none⟩) nL cp))
 rw [← hw7]
 have HF7:=hideIt (HF7f.out w6 g cp HK6.out.1 HK6.out.2.1 HK6.out.2.2)
 rw [← hw7] at HF7
 obtain ⟨s7,HGo,N7⟩:=HF7.out
 refine hK.out _ _ s7 (fun hHeld=>?_)
 have HB6:=hideIt (And.intro HK6.out.2.2.1 HK6.out.2.2.2.2)
 have HGo:=hideIt HGo
 have HN7:=hideIt N7
 clear hK K y1 g1 HF7 HK6 s7 hw7 lbl lbl6 lbn N7
 try simp only [pU0]
 refine wpAnyH_done (by kernel_rfl) ?_ _
 clear hHeld
 have b0:=HN7.out.cell 0 rfl
 have b1:=HN7.out.cell 1 rfl
 have b2:w7.cell? ⟨w.heap.size+1,2,none⟩=some (.slice aE nE cE):=HN7.out.cell 2 rfl
 have b3:w7.cell? ⟨w.heap.size+1,3,none⟩=some (.slice aL nL cL):=HN7.out.cell 3 rfl
 go_upto_region 5 with fail
 go_wp2_with (go_at_call 95;refine HGo.out.mono ?_;rintro e w8 ⟨cc,rfl,hcc,⟨p8,R8,hk⟩,b8⟩;refine Hid.out ?_)
 refine hidp20 ?_
 have HCc:=hideIt hcc
 have HK8:=hideIt hk
 have HX8:Hid (BxA w8 (w.heap.size+1+1) 35 (hC zeroH zeroP)):=by show BxA _ _ _ _;unfold BxA;rw [b8.block _ (by have:=HL3.out;omega)];exact HB6.out.2
 have HB8:Hid (Below w.heap.size w w8):=HB6.out.1.trans (b8.mono HB.out.size)
 clear hk hcc b8 b0 b1 b2 b3 HGo HN7 HB6
 go_upto_region 6 with fail
 refine wp_region_lit ?_
 go_step
 refine wp_loadH HK8.out.bx rfl rfl ?_
 go_step
 go_step
 go_step
 go_step
 go_step
 refine wp_storeH HX8.out rfl rfl rfl ?_
 intro vz XZ gz zz
 have HXZ:=hideIt XZ
 have HBz:=hideIt (below_grB HB8.out gz (show w.heap.size≤w.heap.size+1+1 by omega) (Nat.le_refl _))
 have HWz:=hideIt ((HK8.out.hw.grB gz (show w.heap.size+1+1<W.heap.size by have:=HL3.out;omega)).low HB.out.size)
 clear XZ gz zz
 go_wp2
 exact bodyPost_ret (results_H2 Tryz.results64 rfl rfl HXZ.out) rfl ⟨_,p8,cc,rfl,HBz.out,by rw [HY.out];exact ⟨HCc.out,rfl,R8,HWz.out⟩⟩
 )
theorem iHear_inv {S:Nat} {h:Hd} {p:Hp} (sh num:Int) (ok:Bool) (es:List O.EdgeV) (ls:List Int) (aE:Option Addr) (nE cE:Nat) (aL:Option Addr) (nL cL:Nat) (w:World) (R0:HR S w h p) (hE:O.Es w w.heap.size aE nE es) (hI:Is w w.heap.size aL nL ls) (hz:aE=none→nE=0∧cE=0) (hzL:aL=none→nL=0∧cL=0) (hnE:nE≤1048576) (hnL:nL≤1048576) :
  Calls Tryz.prog 64 #[.agg (hC h p),.int .i64 sh,.agg #[.int .i64 num,.bool ok,.slice aE nE cE,.slice aL nL cL]] w fun e w'=>TkA w (hearR h sh ⟨num,ok,es,ls⟩) e w':=by
 cases hb:hearB h sh ⟨num,ok,es,ls⟩ with
 | false=>exact iHear_no sh num ok es ls aE nE cE aL nL cL w R0 hE hI hz hzL hnE hnL hb
 | true=>exact iHear_yes sh num ok es ls aE nE cE aL nL cL w R0 hE hI hz hzL hnE hnL hb
def stepR (h:Hd) (r:O.RecV):Option Hd:=if r.kind=1 then takeR h r.id r.op r.a r.b else if r.kind=2 then hearR h r.sh r.an else none
def runO (o:Option Hd) (rs:List O.RecV):Option Hd:=rs.foldl (fun o r=>o.bind fun h=>stepR h r) o
theorem runO_none (rs:List O.RecV):runO none rs=none:=by
 induction rs with
 | nil=>rfl
 | cons r rs ih=>exact ih
theorem runO_snoc (o:Option Hd) (rs:List O.RecV) (r:O.RecV):runO o (rs ++ [r])=(runO o rs).bind fun h=>stepR h r:=by unfold runO;rw [List.foldl_append];rfl
theorem runO_app (o:Option Hd) (rs qs:List O.RecV):runO o (rs ++ qs)=runO (runO o rs) qs:=by unfold runO;rw [List.foldl_append]
theorem HInv.step {S:Nat} {h g:Hd} (k:HInv S h) {r:O.RecV} (e:stepR h r=some g):HInv S g:=by
 unfold stepR at e
 split at e
 ·exact k.take e
 ·split at e
  ·exact k.hearR e
  ·cases e
theorem HInv.run {S:Nat} (rs:List O.RecV):∀ {o:Option Hd} {g:Hd},(∀ h,o=some h→HInv S h)→runO o rs=some g→HInv S g:=by
 induction rs with
 | nil=>intro o g h e;exact h g e
 | cons r rs ih =>
  intro o g h e
  refine ih (o:=o.bind fun h=>stepR h r) (fun g' e'=>?_) e
  cases o with
  | none=>cases e'
  | some h0=>exact (h h0 rfl).step e'
theorem labs_lB {nn:Nat} (h:1≤nn∧nn≤12):O.lB (nn:Int) (O.labs [] nn nn)=true:=by
 obtain ⟨h1,h2⟩:=h
 have:nn=1∨nn=2∨nn=3∨nn=4∨nn=5∨nn=6∨nn=7∨nn=8∨nn=9∨nn=10∨nn=11∨nn=12:=by omega
 rcases this with rfl | rfl | rfl | rfl | rfl | rfl | rfl | rfl | rfl | rfl | rfl | rfl <;> decide
theorem HInv.new {nn s:Nat} (h:(1≤nn∧nn≤12)∧1≤s∧s≤3):HInv s (newH nn s):=by
 refine ⟨by show 1≤(nn:Int)∧(nn:Int)≤12;omega,h.2,⟨by show ((ownL s nn).length:Int)=_;rw [ownL_len];rfl,fun x hx=>?_⟩,by show O.eOk (nn:Int) []=true;rfl,⟨by simp [newH],fun l hl=>?_⟩,⟨by simp [newH],fun x hx=>?_⟩,⟨by simp [newH],?_⟩,.inl ⟨rfl,rfl,rfl,rfl,rfl,rfl,rfl,rfl,rfl⟩⟩
 ·have hx':x ∈ ownL s nn:=hx
  unfold ownL at hx'
  obtain ⟨v,_,rfl⟩:=List.mem_map.1 hx'
  have h1:=Int.tmod_nonneg (s:Int) (show (0:Int)≤(v:Int) by omega)
  have h2:=Int.tmod_lt_of_pos (v:Int) (show (0:Int)<(s:Int) by omega)
  omega
 ·have hl':l ∈ List.replicate s (O.labs [] nn nn):=hl
  rw [(List.mem_replicate.1 hl').2]
  exact labs_lB h.1
 ·have hx':x ∈ List.replicate s (0:Int):=hx
  rw [(List.mem_replicate.1 hx').2]
  simp [newH]
 ·exact fun k x hx=>by simp [newH] at hx
def RG (q:Q.RQ):Prop:=(q.a1=none→q.k1=0∧q.c1=0)∧(q.a2=none→q.k2=0∧q.c2=0)∧q.k1≤1048576∧q.k2≤1048576
theorem RG.of {u:World} {B:Nat} {a:Option Addr} {m c:Nat} {qs:List Q.RQ} (h:Q.RS u B a m c qs):∀ q ∈ qs,RG q:=fun q hq =>
 ⟨sl_nil (O.Sl_of_own (h.each q hq).1.r1),sl_nil (O.Sl_of_own (h.each q hq).1.r2),(h.each q hq).1.bd.1,(h.each q hq).1.bd.2.1⟩
def HdAt (o:Option Hd) (v:World) (lo:Nat) (g:Hd) (p:Hp):Prop:=match o with
 | some h'=>g=h'∧∃ R,HW v lo g p R
 | none=>True
def BhA (w:World) (o:Option Hd) (e:Ending) (w':World):Prop :=
 ∃ (g:Hd) (p:Hp),e=.returned (.tuple #[.agg (hC g p),.bool o.isSome])∧Below w.heap.size w w'∧HdAt o w' w.heap.size g p
set_option maxRecDepth 100000 in
set_option maxHeartbeats 8000000 in
theorem behind_any {S:Nat} {h:Hd} {p:Hp} (q:Q.RQ) (w:World) (R0:HR S w h p) (hv:Q.RV q w w.heap.size) (hg:RG q) :
  Calls Tryz.prog 27 #[.agg (hC h p),.agg (Q.rqC q).toArray] w fun e w'=>BhA w (stepR h q.r) e w':=by
 obtain ⟨T,hT⟩:∃ T,T=stepR h q.r:=⟨_,rfl⟩
 rw [← hT]
 obtain ⟨W,hW⟩:∃ W,W=((w.alloc (.cells (hC h p) 35)).alloc (.cells (Q.rqC q).toArray 62)).alloc (.cells #[.int .i64 0,.slice none 0 0,.slice none 0 0,.slice none 0 0,.slice none 0 0,.int .i64 0,.int .i64 0,.int .i64 0,.int .i64 0,.int .i64 0,.int .i64 0,.int .i64 0,.slice none 0 0,.int .i64 0,.slice none 0 0] 35):=⟨_,rfl⟩
 have bW:Below w.heap.size w W:=by rw [hW];exact ((belA _ _).alloc (by simp) _).alloc (by simp;omega) _
 have X0:Hid (BxA W w.heap.size 35 (hC h p)):=by rw [hW];exact ((BxA.new w _ _).up (belA _ _)).up (belA _ _)
 have X1:BxA W (w.heap.size+1) 62 (Q.rqC q).toArray:=by
  have q0:=(BxA.new (w.alloc (.cells (hC h p) 35)) 62 (Q.rqC q).toArray).up (belA _ (.cells #[.int .i64 0,.slice none 0 0,.slice none 0 0,.slice none 0 0,.slice none 0 0,.int .i64 0,.int .i64 0,.int .i64 0,.int .i64 0,.int .i64 0,.int .i64 0,.int .i64 0,.slice none 0 0,.int .i64 0,.slice none 0 0] 35))
  rw [show (w.alloc (.cells (hC h p) 35)).heap.size=w.heap.size+1 by simp] at q0
  rw [hW];exact q0
 have X2:Hid (BxA W (w.heap.size+1+1) 35 (hC zeroH zeroP)):=by
  have q0:=BxA.new ((w.alloc (.cells (hC h p) 35)).alloc (.cells (Q.rqC q).toArray 62)) 35 #[.int .i64 0,.slice none 0 0,.slice none 0 0,.slice none 0 0,.slice none 0 0,.int .i64 0,.int .i64 0,.int .i64 0,.int .i64 0,.int .i64 0,.int .i64 0,.int .i64 0,.slice none 0 0,.int .i64 0,.slice none 0 0]
  rw [show ((w.alloc (.cells (hC h p) 35)).alloc (.cells (Q.rqC q).toArray 62)).heap.size=w.heap.size+1+1 by simp] at q0
  rw [hW];exact q0
 have HB:=hideIt bW
 have lW:w.heap.size+3≤W.heap.size:=X2.out.lt
 have y0:W.cell? ⟨w.heap.size+1,0,none⟩=some (.int .i64 q.r.kind):=X1.at 0 rfl
 have y1:W.cell? ⟨w.heap.size+1,1,none⟩=some (.int .i64 q.r.id):=X1.at 1 rfl
 have y2:W.cell? ⟨w.heap.size+1,2,none⟩=some (.int .i64 q.r.op):=X1.at 2 rfl
 have y3:W.cell? ⟨w.heap.size+1,3,none⟩=some (.int .i64 q.r.a):=X1.at 3 rfl
 have y4:W.cell? ⟨w.heap.size+1,4,none⟩=some (.int .i64 q.r.b):=X1.at 4 rfl
 have y5:W.cell? ⟨w.heap.size+1,5,none⟩=some (.int .i64 q.r.sh):=X1.at 5 rfl
 have y6:W.cell? ⟨w.heap.size+1,6,none⟩=some (.int .i64 q.r.an.num):=X1.at 6 rfl
 have y7:W.cell? ⟨w.heap.size+1,7,none⟩=some (.bool q.r.an.ok):=X1.at 7 rfl
 have y8:W.cell? ⟨w.heap.size+1,8,none⟩=some (.slice q.a1 q.k1 q.c1):=X1.at 8 rfl
 have y9:W.cell? ⟨w.heap.size+1,9,none⟩=some (.slice q.a2 q.k2 q.c2):=X1.at 9 rfl
 have HTk:=hideIt (iTake_inv q.r.id q.r.op q.r.a q.r.b W (R0.up bW))
 have HHe:=hideIt (iHear_inv q.r.sh q.r.an.num q.r.an.ok q.r.an.es q.r.an.ls q.a1 q.k1 q.c1 q.a2 q.k2 q.c2 W (R0.up bW) (hv.e1.up bW) ((show Is w w.heap.size q.a2 q.k2 q.r.an.ls from hv.e2).up bW) hg.1 hg.2.1 hg.2.2.1 hg.2.2.2)
 clear bW X1 R0 hv hg
 by_cases h1:q.r.kind=1
 ·have e1:stepR h q.r=takeR h q.r.id q.r.op q.r.a q.r.b:=by unfold stepR;rw [if_pos h1]
  rw [e1] at hT
  rw [h1] at y0
  clear e1 h1 HHe
  go_enter Tryz.func27,Tryz.ntmps27
  go_upto_region 1 with fail
  rw [← hW]
  clear hW
  go_upto_region 4 with fail
  clear y0 y5 y6 y7 y8 y9
  refine wp_region_lit ?_
  go_step
  refine wp_loadH X0.out rfl rfl ?_
  go_wp2_with (go_at_call 63;refine HTk.out.mono ?_;rintro e w2 ⟨g,p2,c,rfl,b2,hres⟩;refine Hid.out ?_)
  refine hidp20 ?_
  go_step
  go_step
  go_step
  go_step
  go_step
  go_step
  go_step
  go_step
  go_step
  go_step
  go_step
  refine wp_storeH (X0.out.up b2) rfl rfl rfl ?_
  intro v XV gv zv
  have b0:Below w.heap.size w v:=below_grB (HB.out.trans (b2.mono HB.out.size)) gv (Nat.le_refl _) (Nat.le_refl _)
  have HXV:=hideIt XV
  have HZv:=hideIt ((X2.out.up b2).grown gv (by simp;omega))
  have HB0:=hideIt b0
  have hfin:(c != 0)=T.isSome∧HdAt T v W.heap.size g p2:=by
   rw [hT]
   cases ho:takeR h q.r.id q.r.op q.r.a q.r.b with
   | none=>rw [ho] at hres;dsimp only at hres;subst hres;exact ⟨rfl,trivial⟩
   | some h' =>
    rw [ho] at hres
    obtain ⟨h1,h2,R,h3⟩:=hres
    refine ⟨by rcases h1 with h1 | h1 <;> subst h1 <;> rfl,h2,R,?_⟩
    exact h3.grB gv (by omega)
  obtain ⟨hf1,hf2⟩:=hfin
  have HF2:=hideIt hf2
  clear hres b2 XV gv zv hT hf2 b0
  clear HTk y1 y2 y3 y4
  go_upto_region 7 with fail
  refine wp_region_lit ?_
  go_step
  refine wp_loadH HXV.out rfl rfl ?_
  go_step
  go_step
  go_step
  go_step
  go_step
  go_step
  go_step
  go_step
  refine wp_storeH HZv.out rfl rfl rfl ?_
  intro vz XZ gz zz
  have HXZ:=hideIt XZ
  have HBz:=hideIt (below_grB HB0.out gz (show w.heap.size≤w.heap.size+1+1 by omega) (Nat.le_refl _))
  have HWz:Hid (HdAt T vz w.heap.size g p2):=by
   have h1:=HF2.out
   cases T with
   | none=>trivial
   | some h' =>
    obtain ⟨h3,R,h2⟩:=h1
    exact ⟨h3,R,(h2.grB gz (by omega)).low (by omega)⟩
  clear XZ gz zz HF2
  go_wp2
  exact bodyPost_ret (results_H2 Tryz.results27 rfl rfl HXZ.out) rfl ⟨g,p2,rfl,HBz.out,HWz.out⟩
 ·by_cases h2:q.r.kind=2
  ·have e1:stepR h q.r=hearR h q.r.sh q.r.an:=by unfold stepR;rw [if_neg h1,if_pos h2]
   rw [e1] at hT
   rw [h2] at y0
   clear e1 h1 h2 HTk
   go_enter Tryz.func27,Tryz.ntmps27
   go_upto_region 1 with fail
   rw [← hW]
   clear hW
   go_upto_region 6 with fail
   clear y0 y1 y2 y3 y4
   refine wp_region_lit ?_
   go_step
   refine wp_loadH X0.out rfl rfl ?_
   go_wp2_with (go_at_call 64;refine HHe.out.mono ?_;rintro e w2 ⟨g,p2,c,rfl,b2,hres⟩;refine Hid.out ?_)
   refine hidp20 ?_
   go_step
   go_step
   go_step
   go_step
   go_step
   go_step
   go_step
   go_step
   go_step
   go_step
   go_step
   refine wp_storeH (X0.out.up b2) rfl rfl rfl ?_
   intro v XV gv zv
   have b0:Below w.heap.size w v:=below_grB (HB.out.trans (b2.mono HB.out.size)) gv (Nat.le_refl _) (Nat.le_refl _)
   have HXV:=hideIt XV
   have HZv:=hideIt ((X2.out.up b2).grown gv (by simp;omega))
   have HB0:=hideIt b0
   have hfin:(c != 0)=T.isSome∧HdAt T v W.heap.size g p2:=by
    rw [hT]
    cases ho:hearR h q.r.sh q.r.an with
    | none=>rw [ho] at hres;dsimp only at hres;subst hres;exact ⟨rfl,trivial⟩
    | some h' =>
     rw [ho] at hres
     obtain ⟨h1,h2,R,h3⟩:=hres
     refine ⟨by rcases h1 with h1 | h1 <;> subst h1 <;> rfl,h2,R,?_⟩
     exact h3.grB gv (by omega)
   obtain ⟨hf1,hf2⟩:=hfin
   have HF2:=hideIt hf2
   clear hres b2 XV gv zv hT hf2 b0
   clear HHe y5 y6 y7 y8 y9
   go_upto_region 7 with fail
   refine wp_region_lit ?_
   go_step
   refine wp_loadH HXV.out rfl rfl ?_
   go_step
   go_step
   go_step
   go_step
   go_step
   go_step
   go_step
   go_step
   refine wp_storeH HZv.out rfl rfl rfl ?_
   intro vz XZ gz zz
   have HXZ:=hideIt XZ
   have HBz:=hideIt (below_grB HB0.out gz (show w.heap.size≤w.heap.size+1+1 by omega) (Nat.le_refl _))
   have HWz:Hid (HdAt T vz w.heap.size g p2):=by
    have h1:=HF2.out
    cases T with
    | none=>trivial
    | some h' =>
     obtain ⟨h3,R,h2⟩:=h1
     exact ⟨h3,R,(h2.grB gz (by omega)).low (by omega)⟩
   clear XZ gz zz HF2
   go_wp2
   exact bodyPost_ret (results_H2 Tryz.results27 rfl rfl HXZ.out) rfl ⟨g,p2,rfl,HBz.out,HWz.out⟩
  ·have e1:stepR h q.r=none:=by unfold stepR;rw [if_neg h1,if_neg h2]
   rw [e1] at hT
   have d1:(q.r.kind == 1)=false:=by simpa using h1
   have d2:(q.r.kind == 2)=false:=by simpa using h2
   clear e1 h1 h2 HTk HHe y1 y2 y3 y4 y5 y6 y7 y8 y9
   go_enter Tryz.func27,Tryz.ntmps27
   go_upto_region 1 with fail
   rw [← hW]
   clear hW
   go_upto_region 7 with fail
   refine wp_region_lit ?_
   go_step
   refine wp_loadH X0.out rfl rfl ?_
   go_step
   go_step
   go_step
   go_step
   go_step
   go_step
   go_step
   go_step
   refine wp_storeH X2.out rfl rfl rfl ?_
   intro vz XZ gz zz
   have HXZ:=hideIt XZ
   have HBz:=hideIt (below_grB HB.out gz (show w.heap.size≤w.heap.size+1+1 by omega) (Nat.le_refl _))
   clear XZ gz zz
   go_wp2
   exact bodyPost_ret (results_H2 Tryz.results27 rfl rfl HXZ.out) rfl ⟨h,p,by rw [hT];rfl,HBz.out,by rw [hT];exact trivial⟩
theorem HdAt.up {o:Option Hd} {u v:World} {lo:Nat} {g:Hd} {p:Hp} (h:HdAt o u lo g p) (hb:Below u.heap.size u v):HdAt o v lo g p:=by
 cases o with
 | none=>trivial
 | some h'=>obtain ⟨h1,R,h2⟩:=h;exact ⟨h1,R,h2.up hb⟩
theorem HdAt.low {o:Option Hd} {u:World} {lo lo':Nat} {g:Hd} {p:Hp} (h:HdAt o u lo g p) (hl:lo'≤lo):HdAt o u lo' g p:=by
 cases o with
 | none=>trivial
 | some h'=>obtain ⟨h1,R,h2⟩:=h;exact ⟨h1,R,h2.low hl⟩
theorem HdAt.grB {o:Option Hd} {u v:World} {lo b:Nat} {g:Hd} {p:Hp} (h:HdAt o u lo g p) (hg:u.grownBy v (some b)) (hb:b<lo):HdAt o v lo g p:=by
 cases o with
 | none=>trivial
 | some h'=>obtain ⟨h1,R,h2⟩:=h;exact ⟨h1,R,h2.grB hg hb⟩
theorem HW.keepBx {u v:World} {lo G:Nat} {h:Hd} {p:Hp} {R:List Rw} {cs:Array Value} (k:HW u lo h p R) (X:BxA u G 35 cs) (hg:u.grownBy v (some G)):HW v lo h p R :=
 ⟨⟨own_keepG k.ow.o X (by decide) hg,own_keepG k.ow.c X (by decide) hg,FB.keepG k.ow.l X hg,k.ow.r,own_keepG k.ow.n X (by decide) hg,own_keepG k.ow.e X (by decide) hg,own_keepG k.ow.s X (by decide) hg⟩,k.sp,k.ce⟩
def FrA (lo:Nat) (w:World) (o:Option Hd) (e:Ending) (w':World):Prop :=
 ∃ (g:Hd) (p:Hp),e=.returned (.tuple #[.agg (hC g p),.bool o.isSome])∧Below w.heap.size w w'∧HdAt o w' lo g p∧(o=none→g=zeroH∧p=zeroP)
structure LvS (w wr:World) (lo G:Nat) (o:Option Hd) (rs:List O.RecV) (r:Option Hd) (g:Hd) (p:Hp):Prop where
 run:runO o rs=r
 hd:HdAt r wr lo g p
 bx:BxA wr G 35 (hC g p)
 rz:BxA wr (w.heap.size+1) 35 (hC zeroH zeroP)
 bel:Below w.heap.size w wr
set_option maxRecDepth 100000 in
set_option maxHeartbeats 8000000 in
theorem lived_any {S:Nat} (o:Option Hd) (g0:Hd) (p0:Hp) (qs:List Q.RQ) (n:Nat) (a:Option Addr) (c:Nat) (lo:Nat) (w:World) (hlo:lo≤w.heap.size) (hi:∀ h,o=some h→HInv S h) (hd:HdAt o w lo g0 p0) (hr:Q.RL w w.heap.size a n qs) (hg:∀ q ∈ qs,RG q) (hn:n≤1048576) :
  Calls Tryz.prog 26 #[.agg (hC g0 p0),.bool o.isSome,.slice a n c,.func (.func 27) #[] #[]] w fun e w'=>FrA lo w (runO o (qs.map (·.r))) e w':=by
 obtain ⟨W,hW⟩:=ex0 ((w.alloc (.cells (hC g0 p0) 35)).alloc (.cells #[.int .i64 0,.slice none 0 0,.slice none 0 0,.slice none 0 0,.slice none 0 0,.int .i64 0,.int .i64 0,.int .i64 0,.int .i64 0,.int .i64 0,.int .i64 0,.int .i64 0,.slice none 0 0,.int .i64 0,.slice none 0 0] 35))
 have bW:Below w.heap.size w W:=by rw [hW];exact (belA _ _).alloc (by simp) _
 have X0:Hid (BxA W w.heap.size 35 (hC g0 p0)):=by rw [hW];exact (BxA.new w _ _).up (belA _ _)
 have X1:BxA W (w.heap.size+1) 35 (hC zeroH zeroP):=by
  have q0:=BxA.new (w.alloc (.cells (hC g0 p0) 35)) 35 #[.int .i64 0,.slice none 0 0,.slice none 0 0,.slice none 0 0,.slice none 0 0,.int .i64 0,.int .i64 0,.int .i64 0,.int .i64 0,.int .i64 0,.int .i64 0,.int .i64 0,.slice none 0 0,.int .i64 0,.slice none 0 0]
  rw [show (w.alloc (.cells (hC g0 p0) 35)).heap.size=w.heap.size+1 by simp] at q0
  rw [hW];exact q0
 have lW:w.heap.size+2≤W.heap.size:=X1.lt
 have HX1:=hideIt X1
 have HB:=hideIt bW
 have HD:=hideIt (hd.up bW)
 have HI:=hideIt hi
 have HR:=hideIt hr
 have HG:=hideIt hg
 have hlen:=hr.len
 obtain ⟨k,hk⟩:∃ k:Bool,k=o.isSome:=⟨_,rfl⟩
 rw [← hk]
 have Hk:=hideIt hk
 clear hd hi hr hg X1 bW hk
 go_enter Tryz.func26,Tryz.ntmps26
 go_upto_region 1 with fail
 rw [← hW]
 clear hW
 refine wp_region_lit ?_
 go_step
 refine wp_loadH X0.out rfl rfl ?_
 go_step
 go_step
 go_step
 go_step
 go_step
 have T0:BxA (W.alloc (.cells #[.int .i64 0,.slice none 0 0,.slice none 0 0,.slice none 0 0,.slice none 0 0,.int .i64 0,.int .i64 0,.int .i64 0,.int .i64 0,.int .i64 0,.int .i64 0,.int .i64 0,.slice none 0 0,.int .i64 0,.slice none 0 0] 35)) W.heap.size 35 (hC zeroH zeroP):=BxA.new W _ _
 refine wp_storeH T0 rfl rfl rfl ?_
 intro v XV gv zv
 obtain ⟨G,hG⟩:=ex0 (W.heap.size)
 have bv:Below W.heap.size W v:=below_grB (belA W _) gv (Nat.le_refl _) (Nat.le_refl _)
 rw [← hG] at XV
 rw [← hG]
 have LGw:Hid (w.heap.size+2≤G):=by show _≤_;rw [hG];exact lW
 have HV:Hid (LvS w v lo G o [] o g0 p0):=⟨rfl,HD.out.up bv,XV,HX1.out.up bv,HB.out.trans (bv.mono HB.out.size)⟩
 clear T0 XV gv zv hG bv HD HX1 HB X0 lW
 go_wp2
 go_loopw [1,11] (fun kk i wr=>∃ (j:Nat) (r:Option Hd) (g:Hd) (p:Hp),j≤n∧i=.int .i64 (j:Int)∧kk=.bool r.isSome∧Hid (LvS w wr lo G o ((qs.take j).map (·.r)) r g p)) (fun _ i _=>n - (intOf i).toNat)
 case atStart=>exact ⟨0,o,g0,p0,by omega,rfl,by rw [Hk.out],HV⟩
 case round =>
  obtain ⟨j,r,g,p,hj,rfl,rfl,hst⟩:=hrel
  clear HV
  cases r with
  | none =>
   have HN:Hid (runO o (qs.map (·.r))=none):=by
    show _=_
    have h1:=hst.out.run
    rw [← List.take_append_drop j qs,List.map_append,runO_app,h1,runO_none]
   dsimp only [Option.isSome]
   go_upto_region 7 with fail
   refine wp_region_lit ?_
   go_step
   go_step
   go_step
   go_step
   go_step
   go_step
   go_step
   refine wp_loadH (h:=zeroH) (p:=zeroP) (BxA.new wr 35 #[.int .i64 0,.slice none 0 0,.slice none 0 0,.slice none 0 0,.slice none 0 0,.int .i64 0,.int .i64 0,.int .i64 0,.int .i64 0,.int .i64 0,.int .i64 0,.int .i64 0,.slice none 0 0,.int .i64 0,.slice none 0 0]) rfl rfl ?_
   go_step
   go_step
   refine wp_storeH (hst.out.rz.up (belA wr _)) rfl rfl rfl ?_
   intro vz XZ gz zz
   have HXZ:=hideIt XZ
   have HBz:Hid (Below w.heap.size w vz):=below_grB (hst.out.bel.trans ((belA wr _).mono hst.out.bel.size)) gz (by omega) (Nat.le_refl _)
   clear XZ gz zz hst
   go_wp2
   exact bodyPost_ret (results_H2 Tryz.results26 rfl rfl HXZ.out) rfl ⟨zeroH,zeroP,by rw [HN.out];rfl,HBz.out,by rw [HN.out];exact trivial,fun _=>⟨rfl,rfl⟩⟩
  | some h =>
   dsimp only [Option.isSome]
   by_cases hlt:j<n
   ·obtain ⟨b,off,q,rfl,hbl,hq,hc,hv⟩:=(HR.out.up hst.out.bel).at hlt
    obtain ⟨b',off',q',e',hbl',hq',hc',_⟩:=HR.out.at hlt
    simp only [Option.some.injEq,Addr.mk.injEq,and_true] at e'
    obtain ⟨rfl,rfl⟩:=e'
    rw [hq] at hq'
    simp only [Option.some.injEq] at hq'
    subst hq'
    have hq1:=HG.out q (List.mem_of_getElem? hq)
    have b1:(0:Int)≤(j:Int):=by omega
    have b2:(j:Int)<(n:Int):=by omega
    have hInv:HInv S h:=HInv.run _ HI.out hst.out.run
    have HB:=hideIt hst.out.bel
    have c0:Below wr.heap.size wr wr:=Below.refl _ _
    have HSv:Hid (∀ u,Below w.heap.size w u→u.rangeAt b (off+j*14) (Q.rqC q)):=fun u hu o v hx=>by rw [hu.cell hbl'];exact hc' o v hx
    have HS:Hid (∀ u,Below wr.heap.size wr u→u.rangeAt b (off+j*14) (Q.rqC q)):=fun u hu=>HSv.out u (HB.out.trans (hu.mono HB.out.size))
    obtain ⟨T,hT⟩:=ex0 (stepR h q.r)
    obtain ⟨h0,R,hw⟩:=hst.out.hd
    have HBe:Hid (∀ u,Below wr.heap.size wr u→Calls Tryz.prog 27 #[.agg (hC g p),.agg (Q.rqC q).toArray] u fun e v=>∃ g' p',e=.returned (.tuple #[.agg (hC g' p'),.bool T.isSome])∧Below wr.heap.size wr v∧HdAt T v wr.heap.size g' p'):=fun u hu=>by
     have h1:=behind_any (S:=S) (h:=g) (p:=p) q u ((hw.up hu).re (by rw [h0];exact hInv)) (hv.up hu) hq1
     rw [h0,← hT] at h1
     rw [h0]
     refine h1.mono fun e v ⟨g',p',h2,h3,h4⟩=>⟨g',p',h2,hu.trans (h3.mono hu.size),h4.low hu.size⟩
    have HX:=hideIt hst.out.bx
    have HRz:=hideIt hst.out.rz
    have Hlt:Hid (G<wr.heap.size):=hst.out.bx.lt
    have HGl:Hid (w.heap.size≤G):=by have:=LGw.out;show _≤_;omega
    have HT:Hid (runO o ((qs.take (j+1)).map (·.r))=T):=by
     show _=_
     rw [take_snocF qs j q hq,List.map_append,hT]
     show runO o ((qs.take j).map (·.r) ++ [q.r])=_
     rw [runO_snoc,hst.out.run]
     rfl
    clear hq hc hc' hv hq1 hInv hT h0 hw hst hbl hbl'
    go_upto_region 5 with fail
    (
    refine wp_region_held_drew (S:=fun u=>u.rangeAt b (off+j*14) (Q.rqC q)) (by kernel_rfl) (HS.out _ c0.drew) (fun hHeld=>?_)
    refine tq0 (i:=0) (v:=?_) rfl ?_ (by assumption) ?_
    rotate_left
    ·intro w hSw;go_simp;try with_reducible rfl
    try simp only [Act.put,pU0]
    refine tq0 (i:=2) (v:=?_) rfl ?_ (by assumption) ?_
    rotate_left
    ·intro w hSw;go_simp;try with_reducible rfl
    try simp only [Act.put,pU0]
    refine tq0 (i:=3) (v:=?_) rfl ?_ (by assumption) ?_
    rotate_left
    ·intro w hSw;go_simp;try with_reducible rfl
    try simp only [Act.put,pU0]
    refine tq0 (i:=4) (v:=?_) rfl ?_ (by assumption) ?_
    rotate_left
    ·intro w hSw;go_simp;try with_reducible rfl
    try simp only [Act.put,pU0]
    refine tq0 (i:=5) (v:=.agg (Q.rqC q).toArray) rfl (fun w hSw=>Q.exec_loadR rfl rfl hSw) (by assumption) ?_
    try simp only [Act.put,pU0]
    refine wr0 (i:=1) rfl (fun K hK=>?_)
    rw [if_pos]
    rotate_left
    ·kernel_rfl
    refine wp_loadH (HX.out.up c0.drew) rfl rfl ?_
    refine hK.out _ _ (HS.out _ c0.drew) (fun hHeld=>?_)
    clear hK K
    try simp only [pU0]
    refine wr0 (i:=6) rfl (fun K hK=>?_)
    rw [if_pos]
    rotate_left
    ·kernel_rfl
    go_wp2_with (go_at_call 27;refine (HBe.out _ c0.drew).mono ?_;rintro e w3 ⟨g',p3,rfl,b3,hres⟩;refine Hid.out ?_)
    refine hidp20 ?_
    refine hK.out _ _ (HS.out _ b3) (fun hHeld=>?_)
    clear hK K
    try simp only [pU0]
    refine tq0 (i:=7) (v:=?_) rfl ?_ (by assumption) ?_
    rotate_left
    ·intro w hSw;go_simp;try with_reducible rfl
    try simp only [Act.put,pU0]
    refine tq0 (i:=8) (v:=?_) rfl ?_ (by assumption) ?_
    rotate_left
    ·intro w hSw;go_simp;try with_reducible rfl
    try simp only [Act.put,pU0]
    refine tq0 (i:=9) (v:=?_) rfl ?_ (by assumption) ?_
    rotate_left
    ·intro w hSw;go_simp;try with_reducible rfl
    try simp only [Act.put,pU0]
    refine wr0 (i:=10) rfl (fun K hK=>?_)
    rw [if_pos]
    rotate_left
    ·kernel_rfl
    refine wp_storeH (HX.out.up b3) rfl rfl rfl ?_
    intro v XV gv zv
    have bv:Below w.heap.size w v:=below_grB (HB.out.trans (b3.mono HB.out.size)) gv HGl.out (Nat.le_refl _)
    refine hK.out _ _ (HSv.out _ bv) (fun hHeld=>?_)
    clear hK K
    try simp only [pU0]
    refine tq0 (i:=11) (v:=?_) rfl ?_ (by assumption) ?_
    rotate_left
    ·intro w hSw;go_simp;try with_reducible rfl
    try simp only [Act.put,pU0]
    refine wpAnyH_done (by kernel_rfl) ?_ _
    clear hHeld
    have HV:Hid (LvS w v lo G o ((qs.take (j+1)).map (·.r)) T g' p3):=⟨HT.out,((hres.grB gv Hlt.out).low (by have:=HGl.out;have:=Hlt.out;omega)),XV,((HRz.out.up b3).grown gv (by have:=LGw.out;simp;omega)),bv⟩
    clear b3 hres XV gv zv bv HBe HX HRz HS HSv HB HT c0
    go_wp2
    exact ⟨⟨j+1,T,g',p3,by omega,by go_num,rfl,HV⟩,by simp [intOf];omega⟩
    )
   ·have HN:Hid (runO o (qs.map (·.r))=some h):=by
     show _=_
     have h1:=hst.out.run
     rw [List.take_of_length_le (by omega)] at h1
     exact h1
    go_upto_region 8 with fail
    refine wp_region_lit ?_
    go_step
    refine wp_loadH hst.out.bx rfl rfl ?_
    go_step
    go_step
    refine wp_storeH hst.out.rz rfl rfl rfl ?_
    intro vz XZ gz zz
    have HXZ:=hideIt XZ
    have HBz:Hid (Below w.heap.size w vz):=below_grB hst.out.bel gz (by omega) (Nat.le_refl _)
    have HDz:Hid (HdAt (some h) vz lo g p):=by
     obtain ⟨h0,R,hw⟩:=hst.out.hd
     exact ⟨h0,R,hw.keepBx hst.out.rz gz⟩
    clear XZ gz zz hst
    go_wp2
    exact bodyPost_ret (results_H2 Tryz.results26 rfl rfl HXZ.out) rfl ⟨g,p,by rw [HN.out];rfl,HBz.out,by rw [HN.out];exact HDz.out,fun e=>by rw [HN.out] at e;cases e⟩
end Go.Proofs.YtnagchanokbgdaaGreat
