/- What is said, marked and held. The law of Decided. -/
import Derived.Test.YtnagchanokbgdaaGreatKHs13
import Derived.Test.YtnagchanokbgdaaGreatKSGraph
namespace Go.Proofs.YtnagchanokbgdaaGreat
open Go.RowKit
def mkS (q:Nat):Sd:=⟨(q:Int),(q:Int)+1,(q:Int)+1+1,(q:Int)+1+1+1,(q:Int)+1+1+1+1,(q:Int)+1+1+1+1+1⟩
def marksS (k0 n:Nat):List Sd:=(List.range n).map fun t=>mkS (k0+t*6)
theorem marksS_snoc (k0 n:Nat):marksS k0 (n+1)=marksS k0 n ++ [mkS (k0+n*6)]:=by simp [marksS,List.range_succ]
theorem marksS_at (k0 n j:Nat) (h:j<n):(marksS k0 n)[j]?=some (mkS (k0+j*6)):=by simp [marksS,h]
set_option maxRecDepth 100000 in
set_option maxHeartbeats 4000000 in
theorem markSaidS_any (base g c n k0:Nat) (ss:List Sd) (hn:n≤1000) (hk1:k0≤1000000) (w:World) (h:w.ownsRow base 82 6 (.slice (some ⟨g,0,none⟩) n c) n (scells ss)) :
  Calls Tryz.prog 17 #[.slice (some ⟨g,0,none⟩) n c,.int .i64 (k0:Int)] w fun e w'=>e=.returned (.int .i64 ((k0+n*6:Nat):Int)) ∧
   w'.ownsRow base 82 6 (.slice (some ⟨g,0,none⟩) n c) n (scells (marksS k0 n))∧w.grownBy w' (some g):=by
 have HO0:=hideIt h
 clear h
 go_enter Tryz.func17,Tryz.ntmps17
 go_wp2
 go_loopw [1,5] (fun kk i wr=>∃ (j q:Nat) (xs:List Value),j≤n∧i=.int .i64 (j:Int)∧kk=.int .i64 (q:Int)∧Hid (q=k0+j*6)∧Hid (xs.take (j*6)=scells (marksS k0 j)) ∧
   wr.ownsRow base 82 6 (.slice (some ⟨g,0,none⟩) n c) n xs∧w.grownBy wr (some g)) (fun _ i _=>n - (intOf i).toNat)
 case atStart=>exact ⟨0,k0,_,by omega,rfl,rfl,by show _=_;omega,by show _=_;simp [scells,marksS],HO0.out,⟨rfl,rfl,rfl,Nat.le_refl _,fun _ _ _=>rfl⟩⟩
 case round =>
  obtain ⟨j,q,xs,hj,rfl,rfl,hq,hx,hown,hgr⟩:=hrel
  clear HO0
  have hl3:xs.length=n*6:=hown.1
  by_cases hlt:j<n
  ·have b1:(0:Int)≤(j:Int):=by omega
   have b2:(j:Int)<(n:Int):=by omega
   have hqb:q≤1010000:=by have:=hq.out;omega
   have fz:=hown.frozenAt
   have xc:∀ o,o<6→wr.cell? ⟨g,j*6+o,none⟩=some (xs[j*6+o]?.getD default):=fun o ho=>by rw [hown.cellAt (j*6+o) (by omega),List.getElem?_eq_getElem (by omega)];rfl
   have f0:=fz (j*6)
   have f1:=fz (j*6+1)
   have f2:=fz (j*6+2)
   have f3:=fz (j*6+3)
   have f4:=fz (j*6+4)
   have f5:=fz (j*6+5)
   have x0:=xc 0 (by omega)
   rw [Nat.add_zero] at x0
   have x1:=xc 1 (by omega)
   have x2:=xc 2 (by omega)
   have x3:=xc 3 (by omega)
   have x4:=xc 4 (by omega)
   have x5:=xc 5 (by omega)
   obtain ⟨W1,e1⟩:∃ W,W=wr.setCell ⟨g,j*6,none⟩ (.int .i64 (q:Int)):=⟨_,rfl⟩
   have s0:=hown.stored (j*6) (.int .i64 (q:Int))
   rw [← e1] at s0
   obtain ⟨W2,e2⟩:∃ W,W=W1.setCell ⟨g,j*6+1,none⟩ (.int .i64 ((q:Int)+1)):=⟨_,rfl⟩
   have s1:=s0.1.stored (j*6+1) (.int .i64 ((q:Int)+1))
   rw [← e2] at s1
   obtain ⟨W3,e3⟩:∃ W,W=W2.setCell ⟨g,j*6+1+1,none⟩ (.int .i64 ((q:Int)+1+1)):=⟨_,rfl⟩
   have s2:=s1.1.stored (j*6+1+1) (.int .i64 ((q:Int)+1+1))
   rw [← e3] at s2
   obtain ⟨W4,e4⟩:∃ W,W=W3.setCell ⟨g,j*6+1+2,none⟩ (.int .i64 ((q:Int)+1+1+1)):=⟨_,rfl⟩
   have s3:=s2.1.stored (j*6+1+2) (.int .i64 ((q:Int)+1+1+1))
   rw [← e4] at s3
   obtain ⟨W5,e5⟩:∃ W,W=W4.setCell ⟨g,j*6+1+3,none⟩ (.int .i64 ((q:Int)+1+1+1+1)):=⟨_,rfl⟩
   have s4:=s3.1.stored (j*6+1+3) (.int .i64 ((q:Int)+1+1+1+1))
   rw [← e5] at s4
   obtain ⟨W6,e6⟩:∃ W,W=W5.setCell ⟨g,j*6+5,none⟩ (.int .i64 ((q:Int)+1+1+1+1+1)):=⟨_,rfl⟩
   have s5:=s4.1.stored (j*6+5) (.int .i64 ((q:Int)+1+1+1+1+1))
   rw [← e6] at s5
   have HO2:=hideIt s5.1
   have HG2:=hideIt (grown_trans (grown_trans (grown_trans (grown_trans (grown_trans (grown_trans hgr s0.2) s1.2) s2.2) s3.2) s4.2) s5.2)
   have HX:Hid (((((((xs.set (j*6) (.int .i64 (q:Int))).set (j*6+1) (.int .i64 ((q:Int)+1))).set (j*6+1+1) (.int .i64 ((q:Int)+1+1))).set (j*6+1+2) (.int .i64 ((q:Int)+1+1+1))).set (j*6+1+3) (.int .i64 ((q:Int)+1+1+1+1))).set (j*6+5) (.int .i64 ((q:Int)+1+1+1+1+1))).take ((j+1)*6)=scells (marksS k0 (j+1))):=by
    show _=_
    rw [show (j+1)*6=j*6+6 by omega,show j*6+1+1=j*6+2 by omega,show j*6+1+2=j*6+3 by omega,show j*6+1+3=j*6+4 by omega,take_set6 _ _ _ _ _ _ _ _ (by omega),hx.out,marksS_snoc,scells_snoc,← hq.out]
    rfl
   clear s0 s1 s2 s3 s4 s5 hx hown hgr fz xc
   go_upto_region 3 with fail
   rw [← e1,← e2,← e3,← e4,← e5,← e6]
   clear e1 e2 e3 e4 e5 e6 x0 x1 x2 x3 x4 x5 f0 f1 f2 f3 f4 f5 W1 W2 W3 W4 W5
   go_wp2
   exact ⟨⟨j+1,q+6,_,by omega,by go_num,by go_num,by have:=hq.out;show _=_;omega,HX,HO2.out,HG2.out⟩,by simp [intOf];omega⟩
  ·obtain rfl:j=n:=by omega
   have HX:Hid (xs=scells (marksS k0 j)):=by
    show _=_
    have:=hx.out
    rw [List.take_of_length_le (by omega)] at this
    exact this
   have HO:=hideIt hown
   clear hx hown
   go_wp2
   go_ret
   exact ⟨by rw [hq.out];rfl,by rw [← HX.out];exact HO.out,hgr⟩
set_option maxRecDepth 100000 in
set_option maxHeartbeats 4000000 in
theorem heldSaidS_any (n k0:Nat) (a:Option Addr) (c:Nat) (hn:n≤1000) (hk1:k0≤1000000) (w:World) (h:Ss w w.heap.size a n (marksS k0 n)) :
  Calls Tryz.prog 18 #[.slice a n c,.int .i64 (k0:Int)] w fun e w'=>e=.returned (.int .i64 ((k0+n*6:Nat):Int))∧w'=w:=by
 have HR:=hideIt h
 clear h
 go_enter Tryz.func18,Tryz.ntmps18
 go_wp2
 go_loopw [1,5] (fun kk i wr=>∃ (j q:Nat),j≤n∧i=.int .i64 (j:Int)∧kk=.int .i64 (q:Int)∧Hid (q=k0+j*6)∧w=wr) (fun _ i _=>n - (intOf i).toNat)
 case atStart=>exact ⟨0,k0,by omega,rfl,rfl,by show _=_;omega,by first | rfl | trivial⟩
 case round =>
  obtain ⟨j,q,hj,rfl,rfl,hq,rfl⟩:=hrel
  by_cases hlt:j<n
  ·obtain ⟨b,off,x,rfl,hbl,hxk,hat⟩:=HR.out.at hlt
   rw [marksS_at k0 n j hlt,← hq.out] at hxk
   simp only [Option.some.injEq] at hxk
   subst hxk
   obtain ⟨e0,e1,e2,e3,e4,e5⟩:=hat
   simp only [mkS] at e0 e1 e2 e3 e4 e5
   have b1:(0:Int)≤(j:Int):=by omega
   have b2:(j:Int)<(n:Int):=by omega
   have hqb:q≤1010000:=by have:=hq.out;omega
   go_wp2
   exact ⟨⟨j+1,q+6,by omega,by go_num,by go_num,by have:=hq.out;show _=_;omega,by first | rfl | trivial⟩,by simp [intOf];omega⟩
  ·obtain rfl:j=n:=by omega
   go_wp2
   go_ret
   exact ⟨by rw [hq.out];rfl,by first | rfl | trivial⟩
end Go.Proofs.YtnagchanokbgdaaGreat
namespace Go.Proofs.YtnagchanokbgdaaGreat
open Go.RowKit
theorem below_trnQ {P:Nat→Prop} {w u v:World} {C:Nat} (h:Below C w u) (t:Q.Trn P u v) (hP:∀ k,P k→C≤k) (hC:C≤w.heap.size):Below C w v :=
 ⟨t.os.trans h.os,t.tape.trans h.tape,t.output.trans h.output,Nat.le_trans h.size t.size,fun j hj=>(t.block j (Nat.lt_of_lt_of_le (Nat.lt_of_lt_of_le hj hC) h.size) (fun hp=>by have:=hP j hp;omega)).trans (h.block j hj)⟩
theorem said_le {n sh:Int} (rs:List O.RecV):(saidO (runO (newO n sh) rs)).length≤80:=by
 cases h:runO (newO n sh) rs with
 | none=>simp [saidO]
 | some g=>exact (HInv.run rs newO_inv h).sd.1
theorem markS_own {u:World} {lo:Nat} (a:Option Addr) (n c:Nat) (ss:List Sd) (hn:n≤1000) (h:u.ownsRow lo 82 6 (.slice a n c) n (scells ss)) :
  Calls Tryz.prog 17 #[.slice a n c,.int .i64 1] u fun e v=>e=.returned (.int .i64 ((1+n*6:Nat):Int))∧v.ownsRow lo 82 6 (.slice a n c) n (scells (marksS 1 n))∧u.grownBy v (Value.slice a n c).ownBlock:=by
 rcases h.2 with ⟨hv,h0⟩ | ⟨g,cap,cur,hv,_⟩
 ·subst h0
  refine (markSaidS_zero a c 1 u).mono ?_
  rintro e v ⟨rfl,e9⟩
  have e8:=e9.symm
  subst e8
  simp at hv
  obtain ⟨rfl,rfl⟩:=hv
  exact ⟨by simp,World.ownsRow_nil _ _ _ _,⟨rfl,rfl,rfl,Nat.le_refl _,fun _ _ _=>rfl⟩⟩
 ·simp at hv
  obtain ⟨rfl,rfl⟩:=hv
  exact markSaidS_any lo g c n 1 ss hn (by omega) u h
set_option maxRecDepth 100000 in
set_option maxHeartbeats 16000000 in
theorem dc_law (n sh:Int) (qs:List Q.RQ) (m:Nat) (hm:m≤maxLen) (a:Option Addr) (c:Nat) (hk:∀ q ∈ qs,q.k1≤maxLen∧q.k2≤maxLen∧q.k3≤maxLen) (w:World) (hr:Q.RL w w.heap.size a m qs) :
  Calls Tryz.prog 4 #[.int .i64 n,.int .i64 sh,.slice a m c] w fun e w'=>e=.returned (.bool true)∧Below w.heap.size w w':=by
 have hsa:=said_le (n:=n) (sh:=sh) (qs.map (·.r))
 obtain ⟨r,hr0⟩:∃ r,r=runO (newO n sh) (qs.map (·.r)):=⟨_,rfl⟩
 rw [← hr0] at hsa
 obtain ⟨SS,hSS⟩:∃ SS,SS=saidO r:=⟨_,rfl⟩
 rw [← hSS] at hsa
 obtain ⟨N,hN⟩:∃ N,N=SS.length:=⟨_,rfl⟩
 rw [← hN] at hsa
 obtain ⟨K,hK⟩:∃ K,K=r.isSome:=⟨_,rfl⟩
 have HSz:=hideIt (Q.szRecS_or qs m a c hm hk w hr)
 have HDe:Hid (∀ (e:Ending) (u v:World),DcA u r e v→∃ a' c',e=.returned (.tuple #[.slice a' N c',.bool K])∧Hid (v.ownsRow u.heap.size 82 6 (.slice a' N c') N (scells SS))∧Below u.heap.size u v):=fun e u v h=>by
  obtain ⟨a',n',c',h1,h2,h3,h4⟩:=h
  rw [← hSS] at h2
  have hl:=h2.1
  rw [scells_length] at hl
  have e1:n'=N:=by omega
  subst e1
  exact ⟨a',c',by rw [h1,hK],h2,h4⟩
 have HR:=hideIt hr
 have HR0:=hideIt hr0
 have dk:(K != K)=false:=by simp
 clear hr hk hr0 hSS hN hK
 go_enter Tryz.func4,Tryz.ntmps4
 go_wp2_with (go_at_call 5;refine HSz.out.mono ?_;rintro e w1 ⟨x,rfl,hx,b1⟩;refine Hid.out ?_)
 refine hidp20 ?_
 have HB1:=hideIt b1
 clear b1 HSz
 rcases hx with hx | ⟨hx,hz⟩
 ·go_wp2
  go_ret
  exact ⟨rfl,HB1.out⟩
 ·have HTo:Hid (∀ u,Below w.heap.size w u→Calls Tryz.prog 7 #[.slice a m c] u fun e v=>∃ g ps,e=.returned (.slice (some ⟨g,0,none⟩) m m)∧Hid (Q.RS v u.heap.size (some ⟨g,0,none⟩) m m ps∧ps.map Q.sigR=qs.map Q.sigR)∧Below u.heap.size u v):=fun u hu =>
   (Q.toRecS_any qs m a c hz u (HR.out.up hu)).mono fun e v ⟨g,ps,h1,h2,h3,h4⟩=>⟨g,ps,h1,⟨h2,h3⟩,h4⟩
  have hm2:m≤1048576:=by
   have h1:=HR.out.len
   have h2:∀ l:List Q.RQ,l.length≤Q.szq l:=fun l=>by
    induction l with
    | nil=>simp
    | cons p ps ih=>simp [Q.szq] at ih ⊢;omega
   have:=h2 qs
   omega
  have HSd:Hid (∀ (u:World) (g lo:Nat) (ps:List Q.RQ),(Q.RS u lo (some ⟨g,0,none⟩) m m ps∧ps.map Q.sigR=qs.map Q.sigR)→Calls Tryz.prog 14 #[.int .i64 n,.int .i64 sh,.slice (some ⟨g,0,none⟩) m m] u fun e v=>∃ a' c',e=.returned (.tuple #[.slice a' N c',.bool K])∧Hid (v.ownsRow u.heap.size 82 6 (.slice a' N c') N (scells SS))∧Below u.heap.size u v):=fun u g lo ps h=>by
   have h1:=sDecided_any n sh ps m hm2 (some ⟨g,0,none⟩) m u h.1.rl (RG.of h.1)
   rw [Q.sig_r h.2,← HR0.out] at h1
   exact h1.mono fun e v h2=>HDe.out e u v h2
  have HId:Hid (∀ (u:World) (g lo:Nat) (ps:List Q.RQ),(Q.RS u lo (some ⟨g,0,none⟩) m m ps∧ps.map Q.sigR=qs.map Q.sigR)→Calls Tryz.prog 15 #[.int .i64 n,.int .i64 sh,.slice (some ⟨g,0,none⟩) m m] u fun e v=>∃ a' c',e=.returned (.tuple #[.slice a' N c',.bool K])∧Hid (v.ownsRow u.heap.size 82 6 (.slice a' N c') N (scells SS))∧Below u.heap.size u v):=fun u g lo ps h=>by
   have h1:=iDecided_any n sh ps m hm2 (some ⟨g,0,none⟩) m u h.1.rl (RG.of h.1)
   rw [Q.sig_r h.2,← HR0.out] at h1
   exact h1.mono fun e v h2=>HDe.out e u v h2
  have HZ:=hideIt hz
  clear hz HDe HR0
  go_wp2_with (go_at_call 7;refine (HTo.out _ HB1.out).mono ?_;rintro e w2 ⟨g2,p2,rfl,h2,b2⟩;refine Hid.out ?_)
  refine hidp20 ?_
  have HB2:=hideIt (HB1.out.trans (b2.mono HB1.out.size))
  have HC2:=hideIt (HSd.out w2 g2 _ p2 h2.out)
  clear b2 h2 HSd
  go_wp2_with (go_at_call 14;refine HC2.out.mono ?_;rintro e w3 ⟨a0,c0,rfl,o0,b3⟩;refine Hid.out ?_)
  refine hidp20 ?_
  have HB3:=hideIt (HB2.out.trans (b3.mono HB2.out.size))
  clear b3 HC2
  go_wp2_with (go_at_call 7;refine (HTo.out _ HB3.out).mono ?_;rintro e w4 ⟨g4,p4,rfl,h4,b4⟩;refine Hid.out ?_)
  refine hidp20 ?_
  have HB4:=hideIt (HB3.out.trans (b4.mono HB3.out.size))
  have o04:=hideIt (own_up o0.out b4)
  have L04:Hid (∀ b,(Value.slice a0 N c0).ownBlock=some b→b<w3.heap.size):=fun b hb=>(o0.out.lt b hb).2
  have L34:Hid (w3.heap.size≤w4.heap.size):=b4.size
  have HC4:=hideIt (HId.out w4 g4 _ p4 h4.out)
  clear b4 o0
  go_wp2_with (go_at_call 15;refine HC4.out.mono ?_;rintro e w5 ⟨a5,c5,rfl,o5,b5⟩;refine Hid.out ?_)
  refine hidp20 ?_
  have HB5:=hideIt (HB4.out.trans (b5.mono HB4.out.size))
  have o05:=hideIt (own_up o04.out b5)
  have h45:=hideIt (And.intro (h4.out.1.up b5) h4.out.2)
  have L5:Hid (∀ b,(Value.slice a5 N c5).ownBlock=some b→w4.heap.size≤b):=fun b hb=>(o5.out.lt b hb).1
  have HC5:=hideIt (And.intro (show g4<w4.heap.size from (h4.out.1.row.lt g4 rfl).2) (fun q hq=>(h4.out.1.each q hq).1.th))
  have HE5:=hideIt (eqSaidS_same SS N a5 a0 c5 c0 (by omega) w5 (Ss_of_own o5.out) (Ss_of_own o05.out))
  clear b5 o04 HC4 h4
  go_wp2_with (go_at_call 16;refine HE5.out.mono ?_;rintro e w6 ⟨rfl,b6⟩;refine Hid.out ?_)
  refine hidp20 ?_
  have HB6:=hideIt (HB5.out.trans (b6.mono HB5.out.size))
  have o06:=hideIt (own_up o05.out b6)
  have o56:=hideIt (own_up o5.out b6)
  have h46:=hideIt (And.intro (h45.out.1.up b6) h45.out.2)
  clear b6 o05 o5 h45 HE5
  go_upto_region 10 with fail
  go_wp2_with (go_at_call 7;refine (HTo.out _ HB6.out).mono ?_;rintro e w7 ⟨g7,p7,rfl,h7,b7⟩;refine Hid.out ?_)
  refine hidp20 ?_
  have HB7:=hideIt (HB6.out.trans (b7.mono HB6.out.size))
  have o07:=hideIt (own_up o06.out b7)
  have o57:=hideIt (own_up o56.out b7)
  have h47:=hideIt (And.intro (h46.out.1.up b7) h46.out.2)
  have HE7:=hideIt (Q.eqRecS_same p4 p7 (h46.out.2.trans h7.out.2.symm) (fun q hq=>(h47.out.1.each q hq).1.bd) m hm2 (some ⟨g4,0,none⟩) (some ⟨g7,0,none⟩) m m w7 h47.out.1.rl h7.out.1.rl)
  clear b7 o06 o56 h46 h7
  go_wp2_with (go_at_call 10;refine HE7.out.mono ?_;rintro e w8 ⟨rfl,b8⟩;refine Hid.out ?_)
  refine hidp20 ?_
  have HB8:=hideIt (HB7.out.trans (b8.mono HB7.out.size))
  have o08:=hideIt (own_up o07.out b8)
  have o58:=hideIt (own_up o57.out b8)
  have HM:=hideIt (Q.markRecS_any p4 w3.heap.size g4 m m w4.heap.size (by rw [Q.sig_szq p4 qs h47.out.2];exact HZ.out) w8 (h47.out.1.up b8) HC5.out)
  clear b8 o07 o57 h47 HE7 HC5
  go_upto_region 13 with fail
  obtain ⟨kk,hkk⟩:∃ kk,kk=Q.kqs 1 p4:=⟨_,rfl⟩
  rw [← hkk] at HM
  clear hkk
  go_wp2_with (go_at_call 11;refine HM.out.mono ?_;rintro e w9 ⟨rfl,_,t9⟩;refine Hid.out ?_)
  refine hidp20 ?_
  have HB9:=hideIt (below_trnQ HB8.out t9 (fun k hk=>by have:=HB3.out.size;omega) (Nat.le_refl _))
  have o09:=hideIt (Q.own_trnL o08.out t9 (fun b hb hP=>by have:=L04.out b hb;omega))
  have o59:=hideIt (Q.own_trnL o58.out t9 (fun b hb hP=>by have:=L5.out b hb;omega))
  have HE9:=hideIt (eqSaidS_same SS N a5 a0 c5 c0 (by omega) w9 (Ss_of_own o59.out) (Ss_of_own o09.out))
  have d9:decide ((kk:Int)<0)=false:=decide_eq_false (by omega)
  clear t9 o08 o58 HM
  go_wp2_with (go_at_call 16;refine HE9.out.mono ?_;rintro e w10 ⟨rfl,b10⟩;refine Hid.out ?_)
  refine hidp20 ?_
  have HB10:=hideIt (HB9.out.trans (b10.mono HB9.out.size))
  have o010:=hideIt (own_up o09.out b10)
  have HMs:=hideIt (markS_own a5 N c5 SS (by omega) (own_up o59.out b10))
  clear b10 o09 o59 HE9 d9
  go_upto_region 17 with fail
  obtain ⟨mm,hmm⟩:∃ mm,mm=1+N*6:=⟨_,rfl⟩
  have Hmm:=hideIt hmm
  rw [← hmm] at HMs
  clear hmm
  go_wp2_with (go_at_call 17;refine HMs.out.mono ?_;rintro e w11 ⟨rfl,o11,t11⟩;refine Hid.out ?_)
  refine hidp20 ?_
  have HB11:=hideIt (HB10.out.grown t11 HB10.out.size (fun b hb=>by have h1:=L5.out b hb;have h2:=HB4.out.size;omega))
  have o011:=hideIt (World.ownsRow.kept o010.out t11 (by
   cases hb:(Value.slice a0 N c0).ownBlock with
   | none=>exact .inl rfl
   | some b=>exact .inr fun e=>by have h1:=L04.out b hb;have h2:=L5.out b e.symm;have h3:=L34.out;omega))
  have HO11:=hideIt o11
  have HH11:=hideIt (heldSaidS_any N 1 a5 c5 (by omega) (by omega) w11 (Ss_of_own o11))
  rw [show (1+N*6:Nat)=mm from Hmm.out.symm] at HH11
  clear t11 o11 o010 HMs
  go_wp2_with (go_at_call 18;refine HH11.out.mono ?_;rintro e w12 ⟨rfl,e9⟩;have e8:=e9.symm;subst e8;refine Hid.out ?_)
  refine hidp20 ?_
  have d12:decide ((mm:Int)<0)=false:=decide_eq_false (by omega)
  have d13:((mm:Int) != (mm:Int))=false:=by simp
  go_upto_region 24 with fail
  go_wp2_with (go_at_call 7;refine (HTo.out _ HB11.out).mono ?_;rintro e w13 ⟨g13,p13,rfl,h13,b13⟩;refine Hid.out ?_)
  refine hidp20 ?_
  have HB13:=hideIt (HB11.out.trans (b13.mono HB11.out.size))
  have o013:=hideIt (own_up o011.out b13)
  have o513:=hideIt (own_up HO11.out b13)
  have HC13:=hideIt (HId.out w13 g13 _ p13 h13.out)
  clear b13 o011 HO11 HH11 h13
  go_wp2_with (go_at_call 15;refine HC13.out.mono ?_;rintro e w14 ⟨a14,c14,rfl,o14,b14⟩;refine Hid.out ?_)
  refine hidp20 ?_
  have HB14:=hideIt (HB13.out.trans (b14.mono HB13.out.size))
  have o514:=hideIt (own_up o513.out b14)
  have HE14:=hideIt (eqSaidS_same SS N a14 a0 c14 c0 (by omega) w14 (Ss_of_own o14.out) (Ss_of_own (own_up o013.out b14)))
  clear b14 o013 o513 o14 HC13 HId HTo
  go_wp2_with (go_at_call 16;refine HE14.out.mono ?_;rintro e w15 ⟨rfl,b15⟩;refine Hid.out ?_)
  refine hidp20 ?_
  have HB15:=hideIt (HB14.out.trans (b15.mono HB14.out.size))
  have HH15:=hideIt (heldSaidS_any N 1 a5 c5 (by omega) (by omega) w15 (Ss_of_own (own_up o514.out b15)))
  rw [show (1+N*6:Nat)=mm from Hmm.out.symm] at HH15
  clear b15 o514 HE14
  go_upto_region 28 with fail
  go_wp2_with (go_at_call 18;refine HH15.out.mono ?_;rintro e w16 ⟨rfl,e9⟩;have e8:=e9.symm;subst e8;refine Hid.out ?_)
  refine hidp20 ?_
  go_wp2
  go_ret
  exact ⟨rfl,HB15.out⟩
theorem fnExactDecided.walk (n:Int) (_hn:(Lit.int .i64 n).wf=true) (sh:Int) (_hs:(Lit.int .i64 sh).wf=true) (qs:List Q.RQ) (hk:∀ q ∈ qs,q.k1≤maxLen∧q.k2≤maxLen∧q.k3≤maxLen) (m:Nat) (a:Option Addr) (c:Nat) (hm:m≤maxLen) (w:World) (hr:Q.RL w w.heap.size a m qs) :
  Calls Tryz.prog 4 #[.int .i64 n,.int .i64 sh,.slice a m c] w fun e w'=>e=.returned (.bool true)∧Below w.heap.size w w':=dc_law n sh qs m hm a c hk w hr
end Go.Proofs.YtnagchanokbgdaaGreat
