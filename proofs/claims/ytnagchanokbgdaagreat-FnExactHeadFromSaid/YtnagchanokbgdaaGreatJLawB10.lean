/- What the laws' own functions over orders answer, and where a law stands that looks at fresh memory: orders in ranges of blocks of their own. Lists of ints: how they stand in memory; eqIntS, markIntS, heldIntS; an answer that is a list of ints. When an answer is right, on both sides. AnswerOk on both sides. What the laws' own functions over answers answer; answers in ranges of blocks of their own. Answers held against each other, marked and looked at again. -/
import Derived.Test.YtnagchanokbgdaaGreatJSGraph
import Derived.Test.YtnagchanokbgdaaGreatJCon11
import Derived.Test.YtnagchanokbgdaaGreatJSWl20
namespace Go.Proofs.YtnagchanokbgdaaGreat.Q
open Go.Proofs.YtnagchanokbgdaaGreat.O
open Go.RowKit Vt
theorem bel3 (w:World) (o p q:Obj):Below w.heap.size w (((w.alloc o).alloc p).alloc q):=((bel1 _ _).alloc (by simp) _).alloc (by simp;omega) _
theorem toOrder_any (num op v:Int) (fs:List EdgeV) (n:Nat) (a:Option Addr) (cap:Nat) (hn:n≤1048576) (w:World) (hfs:Es w w.heap.size a n fs) :
  Calls Tryz.prog 59 #[ordV num op a n cap v] w fun e w'=>∃ g,e=.returned (ordV num op (some ⟨g,0,none⟩) n n v)∧w'.ownsRow w.heap.size 107 2 (.slice (some ⟨g,0,none⟩) n n) n (ecells fs)∧Below w.heap.size w w':=by
 unfold ordV
 have hfs3:Es (((w.alloc (.cells #[.int .i64 num,.int .i64 op,.slice a n cap,.int .i64 v] 55)).alloc (.cells #[.int .i64 0,.int .i64 0,.slice none 0 0,.int .i64 0] 30)).alloc (.cells #[.int .i64 num,.int .i64 op,.slice none 0 0,.int .i64 0] 30)) (((w.alloc (.cells #[.int .i64 num,.int .i64 op,.slice a n cap,.int .i64 v] 55)).alloc (.cells #[.int .i64 0,.int .i64 0,.slice none 0 0,.int .i64 0] 30)).alloc (.cells #[.int .i64 num,.int .i64 op,.slice none 0 0,.int .i64 0] 30)).heap.size a n fs :=
  (((hfs.alloc (Nat.le_refl _) _).alloc (by simp) _).alloc (by simp;omega) _).mono (by simp;omega)
 have HT:=hideIt (toEdgeS_any fs n a cap hn _ hfs3)
 clear hfs hfs3
 go_enter Tryz.func59,Tryz.ntmps59
 go_wp2_with (go_at_call 82;refine HT.out.mono ?_;rintro e w1 ⟨g,rfl,hown,hb1⟩;refine Hid.out ?_)
 refine (show ∀ {p:Prop},p→Hid p from fun h=>h) ?_
 obtain ⟨hc,hf⟩:=bcell hb1
 have HO:=hideIt hown
 have hgl:=hown.lt g rfl
 have hz:=hb1.size
 clear hown HT
 simp at hz hgl
 go_wp2
 refine bodyPost_ret (v:=.agg #[.int .i64 num,.int .i64 op,.slice (some ⟨g,0,none⟩) n n,.int .i64 v]) (by simp [results,Tryz.results59,go_sem,hc]) rfl ⟨g,rfl,?_,?_⟩
 ·refine own_mono (B:=w.heap.size+1+1+1) ?_ (by omega)
  have H0:w1.ownsRow (w.heap.size+1+1+1) 107 2 (.slice (some ⟨g,0,none⟩) n n) n (ecells fs):=by have:=HO.out;simpa using this
  repeat refine own_setOther ?_ _ _ _ (by omega)
  exact H0
 ·have B3:=(bel3 w (.cells #[.int .i64 num,.int .i64 op,.slice a n cap,.int .i64 v] 55) (.cells #[.int .i64 0,.int .i64 0,.slice none 0 0,.int .i64 0] 30) (.cells #[.int .i64 num,.int .i64 op,.slice none 0 0,.int .i64 0] 30)).trans (hb1.mono (by simp;omega))
  repeat refine Below.setCell ?_ (by simp;try omega) _
  exact B3
theorem eqOrder_same (num op v:Int) (fs:List EdgeV) (n:Nat) (a a':Option Addr) (c c':Nat) (hn:n≤1048576) (w:World) (h:Es w w.heap.size a n fs) (h':Es w w.heap.size a' n fs) :
  Calls Tryz.prog 67 #[ordV num op a n c v,ordV num op a' n c' v] w fun e w'=>e=.returned (.bool true)∧Below w.heap.size w w':=by
 unfold ordV
 have up:∀ {x:Option Addr},Es w w.heap.size x n fs→Es ((w.alloc (.cells #[.int .i64 num,.int .i64 op,.slice a n c,.int .i64 v] 30)).alloc (.cells #[.int .i64 num,.int .i64 op,.slice a' n c',.int .i64 v] 30)) ((w.alloc (.cells #[.int .i64 num,.int .i64 op,.slice a n c,.int .i64 v] 30)).alloc (.cells #[.int .i64 num,.int .i64 op,.slice a' n c',.int .i64 v] 30)).heap.size x n fs :=
  fun hx=>((hx.alloc (Nat.le_refl _) _).alloc (by simp) _).mono (by simp;omega)
 have HT:=hideIt (eqEdgeS_same fs n a a' c c' hn _ (up h) (up h'))
 clear up h h'
 go_enter Tryz.func67,Tryz.ntmps67
 go_wp2_with (go_at_call 29;refine HT.out.mono ?_;rintro e w1 ⟨rfl,hb1⟩;refine Hid.out ?_)
 refine (show ∀ {p:Prop},p→Hid p from fun h=>h) ?_
 obtain ⟨hc,hf⟩:=bcell hb1
 have hb:=(((Below.refl _ _).alloc (Nat.le_refl _) _).alloc (by simp) _).trans (hb1.mono (by simp;omega))
 have HB:=hideIt hb
 have q0:w1.cell? ⟨w.heap.size,3,none⟩=some (.int .i64 v):=by rw [hc _ _ (by simp;omega)];simp
 have q1:w1.cell? ⟨w.heap.size+1,3,none⟩=some (.int .i64 v):=by rw [hc _ _ (by simp)];simp
 clear hb hc hf hb1 HT
 go_wp2
 go_ret
 exact ⟨rfl,HB.out⟩
theorem heldOrder_any (num op v:Int) (n k0:Nat) (a:Option Addr) (c:Nat) (hn:n≤1048576) (hk1:k0≤10000000) (w:World) (h:Es w w.heap.size a n (marks k0 n)) :
  Calls Tryz.prog 70 #[ordV num op a n c v,.int .i64 (k0:Int)] w fun e w'=>e=.returned (.int .i64 ((k0:Int)+(n:Int)*2))∧Below w.heap.size w w':=by
 unfold ordV
 have HT:=hideIt (heldEdgeS_any n k0 a c hn hk1 (w.alloc (.cells #[.int .i64 num,.int .i64 op,.slice a n c,.int .i64 v] 30)) ((h.alloc (Nat.le_refl _) _).mono (by simp)))
 have d1:decide ((k0:Int)+(n:Int)*2<0)=false:=decide_eq_false (by omega)
 clear h
 go_enter Tryz.func70,Tryz.ntmps70
 go_wp2_with (go_at_call 38;refine HT.out.mono ?_;rintro e w1 ⟨rfl,rfl⟩)
 go_ret
 exact ⟨rfl,bel1 _ _⟩
section
variable {u v:World} {lo hi b l2 h2:Nat} {num op x:Int} {a:Option Addr} {m c:Nat} {gs:List EdgeV}
end
end Go.Proofs.YtnagchanokbgdaaGreat.Q
namespace Go.Proofs.YtnagchanokbgdaaGreat.Q
open Go.Proofs.YtnagchanokbgdaaGreat.O
open Go.RowKit
def Is (w:World) (B:Nat) (a:Option Addr) (n:Nat) (ls:List Int):Prop :=
 ls.length=n∧(n=0∨∃ b off,a=some ⟨b,off,none⟩∧b<B∧∀ (j:Nat) (x:Int),ls[j]?=some x→w.cell? ⟨b,off+j,none⟩=some (.int .i64 x))
theorem Is.below {w w':World} {B C:Nat} {a:Option Addr} {n:Nat} {ls:List Int} (h:Is w B a n ls) (hb:Below C w w') (hB:B≤C):Is w' B a n ls:=by
 refine ⟨h.1,h.2.imp id ?_⟩
 rintro ⟨b,off,h1,h2,h3⟩
 exact ⟨b,off,h1,h2,fun j x hx=>by rw [hb.cell (p:=⟨b,_,none⟩) (by show b<_;omega)];exact h3 j x hx⟩
theorem Is.mono {w:World} {B C:Nat} {a:Option Addr} {n:Nat} {ls:List Int} (h:Is w B a n ls) (hB:B≤C):Is w C a n ls:=by
 refine ⟨h.1,h.2.imp id ?_⟩
 rintro ⟨b,off,h1,h2,h3⟩
 exact ⟨b,off,h1,by omega,h3⟩
theorem Is.up {w w':World} {a:Option Addr} {n:Nat} {ls:List Int} (h:Is w w.heap.size a n ls) (hb:Below w.heap.size w w'):Is w' w'.heap.size a n ls :=
 (h.below hb (Nat.le_refl _)).mono hb.size
def ic (ls:List Int):List Value:=ls.map fun x=>Value.int .i64 x
theorem ic_len (ls:List Int):(ic ls).length=ls.length:=by simp [ic]
theorem ic_snoc (ls:List Int) (x:Int):ic (ls ++ [x])=ic ls ++ [.int .i64 x]:=by simp [ic]
theorem ic_at {ls:List Int} {j:Nat} {x:Int} (h:ls[j]?=some x):(ic ls)[j]?=some (.int .i64 x):=by rw [ic,List.getElem?_map,h];rfl
theorem Is_of_own {w:World} {B n c:Nat} {a:Option Addr} {ls:List Int} (h:w.ownsRow B 3 1 (.slice a n c) n (ic ls)):Is w w.heap.size a n ls:=by
 have hl:=h.1
 rw [ic_len] at hl
 refine ⟨by omega,?_⟩
 rcases h.2 with ⟨hv,h0⟩ | ⟨g,cap,cur,hv,hrest⟩
 ·exact .inl h0
 ·simp at hv
  obtain ⟨rfl,rfl⟩:=hv
  refine .inr ⟨g,0,rfl,(h.lt g rfl).2,fun j x hx=>?_⟩
  have hj:j<ls.length:=(List.getElem?_eq_some_iff.1 hx).1
  rw [Nat.zero_add,h.cellAt j (by omega)]
  exact ic_at hx
theorem info3i:(Tryz.prog.info? 3).map (fun i=>(i.zero,i.size,i.bytes))=some (some (.int .i64 0),1,8):=by kernel_rfl
set_option maxHeartbeats 1000000 in
theorem eqIntS_same (ls:List Int) (n:Nat) (a a':Option Addr) (c c':Nat) (hn:n≤1048576) (w:World) (h:Is w w.heap.size a n ls) (h':Is w w.heap.size a' n ls) :
  Calls Tryz.prog 28 #[.slice a n c,.slice a' n c'] w fun e w'=>e=.returned (.bool true)∧Below w.heap.size w w':=by
 obtain ⟨hlen,hrow⟩:=h
 obtain ⟨_,hrow'⟩:=h'
 have HR:=hideIt hrow
 have HR':=hideIt hrow'
 clear hrow hrow'
 have dn:((n:Int) != (n:Int))=false:=by simp
 go_enter Tryz.func28,Tryz.ntmps28
 go_wp2
 go_loopw [5] (fun i wr=>∃ (k:Nat),k≤n∧i=.int .i64 (k:Int)∧Below w.heap.size w wr) (fun i _=>n - (intOf i).toNat)
 case atStart=>exact ⟨0,by omega,rfl,Below.refl _ _⟩
 case round =>
  obtain ⟨k,hk,rfl,hb⟩:=hrel
  by_cases hlt:k<n
  ·rcases HR.out with hz | ⟨b,off,rfl,hbl,hc⟩
   ·omega
   ·rcases HR'.out with hz | ⟨b',off',rfl,hbl',hc'⟩
    ·omega
    ·obtain ⟨f,hf⟩:∃ f,ls[k]?=some f:=⟨ls[k]'(by omega),List.getElem?_eq_getElem (by omega)⟩
     have e0:wr.cell? ⟨b,off+k,none⟩=some (.int .i64 f):=by rw [hb.cell hbl];exact hc k f hf
     have e1:wr.cell? ⟨b',off'+k,none⟩=some (.int .i64 f):=by rw [hb.cell hbl'];exact hc' k f hf
     have b1:(0:Int)≤(k:Int):=by omega
     have b2:(k:Int)<(n:Int):=by omega
     have d1:(f != f)=false:=by simp
     clear hc hc' hf
     go_wp2
     go_quiet (fail)
     go_wp2
     exact ⟨⟨k+1,by omega,by go_num,below_drewN hb _⟩,by simp [intOf];omega⟩
  ·go_wp2
   go_ret
   exact ⟨rfl,hb⟩
def imarks (k0 n:Nat):List Int:=(List.range n).map fun (t:Nat)=>(k0:Int)+(t:Int)
theorem imarks_snoc (k0 n:Nat):imarks k0 (n+1)=imarks k0 n ++ [(k0:Int)+(n:Int)]:=by simp [imarks,List.range_succ]
theorem markIntS_zero (a:Option Addr) (c:Nat) (k0:Int) (w:World) :
  Calls Tryz.prog 34 #[.slice a 0 c,.int .i64 k0] w fun e w'=>e=.returned (.int .i64 k0)∧w'=w:=by
 go_enter Tryz.func34,Tryz.ntmps34
 go_wp2
 refine wp_loop_rounds 1 ?_
 rw [rounds_succ]
 go_wp2
 go_ret
 exact ⟨rfl,rfl⟩
set_option maxHeartbeats 1000000 in
theorem toIntS_any (ls:List Int) (n:Nat) (a:Option Addr) (cap:Nat) (hn:n≤1048576) (w:World) (h:Is w w.heap.size a n ls) :
  Calls Tryz.prog 83 #[.slice a n cap] w fun e w'=>∃ g,e=.returned (.slice (some ⟨g,0,none⟩) n n)∧w'.ownsRow w.heap.size 3 1 (.slice (some ⟨g,0,none⟩) n n) n (ic ls)∧Below w.heap.size w w':=by
 obtain ⟨i0,hi,hz0,hz1,hz2⟩:=info_parts info3i
 obtain ⟨hlen,hrow⟩:=h
 have hmk:∀ u:World,(Instr.makeSlice 24 (.int .i64 (n:Int)) (.int .i64 (n:Int))).run Tryz.prog u =
   .ok (.slice (some ⟨u.heap.size,0,none⟩) n n) (u.alloc (.cells (madeCells #[.int .i64 0] n) 3)):=fun u=>by
  have h:=run_make (P:=Tryz.prog) u 24 3 i0 _ Tryz.underlying24 hi hz0 .i64 .i64 (n:Int) (n:Int) (by omega) (by omega) (by rw [hz2];omega) (by omega)
  rw [Int.toNat_natCast] at h
  simpa [hz1,Value.cells] using h
 have HR:=hideIt hrow
 clear hrow
 go_enter Tryz.func83,Tryz.ntmps83
 go_wp2
 go_loopw [4] (fun i wr=>∃ (k:Nat) (xs:List Value),k≤n∧i=.int .i64 (k:Int)∧Hid (xs.take k=ic (ls.take k))∧wr.ownsRow w.heap.size 3 1 (.slice (some ⟨w.heap.size,0,none⟩) n n) n xs∧Below w.heap.size w wr)
  (fun i _=>n - (intOf i).toNat)
 case atStart=>exact ⟨0,_,by omega,rfl,by show _=_;simp [ic],World.ownsRow_lit (base:=w.heap.size) (e:=3) (size:=1) w (madeCells #[.int .i64 0] n) n (Nat.le_refl _) (by unfold maxLen;omega) (by simp [madeCells]),(Below.refl _ _).alloc (Nat.le_refl _) _⟩
 case round =>
  obtain ⟨k,xs,hk,rfl,hx,hown,hb⟩:=hrel
  have hl3:xs.length=n*1:=hown.1
  by_cases hlt:k<n
  ·rcases HR.out with hz | ⟨b,off,rfl,hbl,hc⟩
   ·omega
   ·obtain ⟨f,hf⟩:∃ f,ls[k]?=some f:=⟨ls[k]'(by omega),List.getElem?_eq_getElem (by omega)⟩
    have e0:wr.cell? ⟨b,off+k,none⟩=some (.int .i64 f):=by rw [hb.cell hbl];exact hc k f hf
    have b1:(0:Int)≤(k:Int):=by omega
    have b2:(k:Int)<(n:Int):=by omega
    have HTk:=hideIt (take_snocF ls k f hf)
    have f0:=hown.frozenAt k
    have x0:wr.cell? ⟨w.heap.size,k,none⟩=some (xs[k]'(by omega)):=by rw [hown.cellAt k (by omega)];exact List.getElem?_eq_getElem (by omega)
    clear hc hf
    go_wp2
    refine ⟨⟨k+1,xs.set k (.int .i64 f),by omega,by go_num,?_,(hown.stored k _).1,hb.setCell (Nat.le_refl _) _⟩,by simp [intOf];omega⟩
    show _=_
    rw [HTk.out,List.take_add_one,List.take_set_of_le (Nat.le_refl _),hx.out]
    simp [ic,show k<xs.length by omega]
  ·have e:ls.take k=ls:=List.take_of_length_le (by omega)
   have HX:Hid (xs=ic ls):=by
    show _=_
    have:=hx.out
    rw [e,List.take_of_length_le (by omega)] at this
    exact this
   have HO:=hideIt hown
   clear hx e hown hl3
   go_wp2
   go_ret
   exact ⟨w.heap.size,rfl,by rw [← HX.out];exact HO.out,hb⟩
end Go.Proofs.YtnagchanokbgdaaGreat.Q
namespace Go.Proofs.YtnagchanokbgdaaGreat.Q
open Go.Proofs.YtnagchanokbgdaaGreat.O
open Go.RowKit Vt
theorem lbAt_out {ls:List Int} {i:Nat} {x:Int} (h:ls[i]?=some x) (hx:¬ (0≤x∧x≤(i:Int))):lbAt ls i=false:=by
 unfold lbAt
 rw [h]
 dsimp only
 rw [decide_eq_false hx]
 rfl
theorem lbAt_in {ls:List Int} {i x:Nat} {y:Int} (h:ls[i]?=some (x:Int)) (hx:x≤i) (hy:ls[x]?=some y):lbAt ls i=decide (y=(x:Int)):=by
 unfold lbAt
 rw [h]
 dsimp only
 rw [decide_eq_true (by omega),Int.toNat_natCast,hy,Bool.true_and]
 simp
set_option maxRecDepth 100000 in
set_option maxHeartbeats 4000000 in
theorem l09Labels_any (n:Int) (ls:List Int) (k:Nat) (a:Option Addr) (c:Nat) (hk:k≤1048576) (w:World) (h:Is w w.heap.size a k ls) :
  Calls Tryz.prog 74 #[.int .i64 n,.slice a k c] w fun e w'=>e=.returned (.bool (lB n ls))∧Below w.heap.size w w':=by
 obtain ⟨hlen,hrow⟩:=h
 by_cases hn:(k:Int)=n
 ·subst hn
  have HB:Hid (lB (k:Int) ls=lbs ls):=by show _=_;unfold lB;rw [decide_eq_true (by omega)];rfl
  have HR:=hideIt hrow
  have e0:((k:Int) != (k:Int))=false:=by simp
  clear hrow
  go_enter Tryz.func74,Tryz.ntmps74
  go_wp2
  go_loopw [5] (fun i wr=>∃ j:Nat,j≤k∧i=.int .i64 (j:Int)∧Hid (∀ t,t<j→lbAt ls t=true)∧Below w.heap.size w wr) (fun i _=>k - (intOf i).toNat)
  case atStart=>exact ⟨0,by omega,rfl,fun t ht=>by omega,Below.refl _ _⟩
  case round =>
   obtain ⟨j,hj,rfl,hck,hb⟩:=hrel
   by_cases hlt:j<k
   ·rcases HR.out with hz | ⟨b,off,rfl,hbl,hc⟩
    ·omega
    ·obtain ⟨x,hx⟩:∃ x,ls[j]?=some x:=⟨ls[j]'(by omega),List.getElem?_eq_getElem (by omega)⟩
     have c0:wr.cell? ⟨b,off+j,none⟩=some (.int .i64 x):=by rw [hb.cell hbl];exact hc j x hx
     have b1:(0:Int)≤(j:Int):=by omega
     have b2:(j:Int)<(k:Int):=by omega
     by_cases hin:0≤x∧x≤(j:Int)
     ·obtain ⟨xn,rfl⟩:=Int.eq_ofNat_of_zero_le hin.1
      obtain ⟨y,hy⟩:∃ y,ls[xn]?=some y:=⟨ls[xn]'(by omega),List.getElem?_eq_getElem (by omega)⟩
      have c1:wr.cell? ⟨b,off+xn,none⟩=some (.int .i64 y):=by rw [hb.cell hbl];exact hc xn y hy
      have HA:=hideIt (lbAt_in hx (by omega) hy)
      have r1:decide ((0:Int)≤(xn:Int)∧(xn:Int)≤(j:Int))=true:=by simpa using hin
      have b3:(0:Int)≤(xn:Int):=by omega
      have b4:(xn:Int)<(k:Int):=by omega
      have HJ:Hid (∀ W:World,Calls Tryz.prog 44 #[.int .i64 (xn:Int),.int .i64 0,.int .i64 (j:Int)] W fun e w'=>e=.returned (.bool true)∧w'=W):=fun W=>by
       have:=l01In_any (xn:Int) 0 (j:Int) W
       rw [r1] at this
       exact this
      by_cases hyx:y=(xn:Int)
      ·have r2:(y != (xn:Int))=false:=by simpa using hyx
       have HY:Hid (lbAt ls j=true):=by show _=_;rw [HA.out,hyx];simp
       clear hc hx hy HA hyx
       go_wp2
       go_quiet ((go_at_call 44;exact Calls.quiet_of_same (HJ.out _)))
       go_wp2
       refine ⟨⟨j+1,by omega,by go_num,fun t ht=>?_,?_⟩,by simp [intOf];omega⟩
       ·by_cases h9:t=j
        ·subst h9;exact HY.out
        ·exact hck.out t (by omega)
       ·first | exact hb.drewN _ | exact below_drewN hb _ | exact hb
      ·have r2:(y != (xn:Int))=true:=by simpa using hyx
       have HN:=hideIt (lbs_no (by omega:j<ls.length) (show lbAt ls j=false by rw [HA.out];simpa using hyx))
       clear hc hx hy HA hyx hck
       go_wp2
       go_quiet ((go_at_call 44;exact Calls.quiet_of_same (HJ.out _)))
       go_wp2
       go_ret
       exact ⟨by rw [HB.out,HN.out];rfl,by first | exact hb.drewN _ | exact below_drewN hb _ | exact hb⟩
     ·have r1:decide ((0:Int)≤x∧x≤(j:Int))=false:=by simpa using hin
      have HN:=hideIt (lbs_no (by omega:j<ls.length) (lbAt_out hx hin))
      have HJ:Hid (∀ W:World,Calls Tryz.prog 44 #[.int .i64 x,.int .i64 0,.int .i64 (j:Int)] W fun e w'=>e=.returned (.bool false)∧w'=W):=fun W=>by
       have:=l01In_any x 0 (j:Int) W
       rw [r1] at this
       exact this
      clear hc hx hck hin
      go_wp2
      go_quiet ((go_at_call 44;exact Calls.quiet_of_same (HJ.out _)))
      go_wp2
      go_ret
      exact ⟨by rw [HB.out,HN.out];rfl,by first | exact hb.drewN _ | exact below_drewN hb _ | exact hb⟩
   ·have HY:=hideIt (lbs_yes (ls:=ls) (fun t ht=>hck.out t (by omega)))
    clear hck
    go_wp2
    go_ret
    exact ⟨by rw [HB.out,HY.out];rfl,hb⟩
 ·have e0:((k:Int) != n)=true:=by simpa using hn
  have HB:Hid (lB n ls=false):=by show _=_;unfold lB;rw [decide_eq_false (by omega)];rfl
  clear hrow
  go_enter Tryz.func74,Tryz.ntmps74
  go_wp2
  go_ret
  exact ⟨by rw [HB.out];rfl,Below.refl _ _⟩
set_option maxRecDepth 100000 in
set_option maxHeartbeats 4000000 in
theorem labelsOk_any (n:Int) (ls:List Int) (k:Nat) (a:Option Addr) (c:Nat) (hk:k≤1048576) (w:World) (h:Is w w.heap.size a k ls) :
  Calls Tryz.prog 116 #[.int .i64 n,.slice a k c] w fun e w'=>e=.returned (.bool (lB n ls))∧Below w.heap.size w w':=by
 obtain ⟨hlen,hrow⟩:=h
 by_cases hn:(k:Int)=n
 ·subst hn
  have HB:Hid (lB (k:Int) ls=lbs ls):=by show _=_;unfold lB;rw [decide_eq_true (by omega)];rfl
  have HR:=hideIt hrow
  have e0:((k:Int) != (k:Int))=false:=by simp
  clear hrow
  go_enter Tryz.func116,Tryz.ntmps116
  go_wp2
  go_loopw [13] (fun i wr=>∃ j:Nat,j≤k∧i=.int .i64 (j:Int)∧Hid (∀ t,t<j→lbAt ls t=true)∧Below w.heap.size w wr) (fun i _=>k - (intOf i).toNat)
  case atStart=>exact ⟨0,by omega,rfl,fun t ht=>by omega,Below.refl _ _⟩
  case round =>
   obtain ⟨j,hj,rfl,hck,hb⟩:=hrel
   by_cases hlt:j<k
   ·rcases HR.out with hz | ⟨b,off,rfl,hbl,hc⟩
    ·omega
    ·obtain ⟨x,hx⟩:∃ x,ls[j]?=some x:=⟨ls[j]'(by omega),List.getElem?_eq_getElem (by omega)⟩
     have c0:wr.cell? ⟨b,off+j,none⟩=some (.int .i64 x):=by rw [hb.cell hbl];exact hc j x hx
     have b1:(0:Int)≤(j:Int):=by omega
     have b2:(j:Int)<(k:Int):=by omega
     by_cases hin:0≤x∧x≤(j:Int)
     ·obtain ⟨xn,rfl⟩:=Int.eq_ofNat_of_zero_le hin.1
      obtain ⟨y,hy⟩:∃ y,ls[xn]?=some y:=⟨ls[xn]'(by omega),List.getElem?_eq_getElem (by omega)⟩
      have c1:wr.cell? ⟨b,off+xn,none⟩=some (.int .i64 y):=by rw [hb.cell hbl];exact hc xn y hy
      have HA:=hideIt (lbAt_in hx (by omega) hy)
      have r1:decide ((xn:Int)<0)=false:=by simp
      have r3:decide ((j:Int)<(xn:Int))=false:=by simp;omega
      have b3:(0:Int)≤(xn:Int):=by omega
      have b4:(xn:Int)<(k:Int):=by omega
      by_cases hyx:y=(xn:Int)
      ·have r2:(y != (xn:Int))=false:=by simpa using hyx
       have HY:Hid (lbAt ls j=true):=by show _=_;rw [HA.out,hyx];simp
       clear hc hx hy HA hyx
       go_wp2
       refine ⟨⟨j+1,by omega,by go_num,fun t ht=>?_,hb⟩,by simp [intOf];omega⟩
       by_cases h9:t=j
       ·subst h9;exact HY.out
       ·exact hck.out t (by omega)
      ·have r2:(y != (xn:Int))=true:=by simpa using hyx
       have HN:=hideIt (lbs_no (by omega:j<ls.length) (show lbAt ls j=false by rw [HA.out];simpa using hyx))
       clear hc hx hy HA hyx hck
       go_wp2
       go_ret
       exact ⟨by rw [HB.out,HN.out];rfl,hb⟩
     ·have HN:=hideIt (lbs_no (by omega:j<ls.length) (lbAt_out hx hin))
      clear hc hx hck
      by_cases hneg:x<0
      ·have r1:decide (x<0)=true:=by simpa using hneg
       clear hin
       go_wp2
       go_ret
       exact ⟨by rw [HB.out,HN.out];rfl,hb⟩
      ·have r1:decide (x<0)=false:=by simpa using hneg
       have r3:decide ((j:Int)<x)=true:=by simp;omega
       clear hin
       go_wp2
       go_ret
       exact ⟨by rw [HB.out,HN.out];rfl,hb⟩
   ·have HY:=hideIt (lbs_yes (ls:=ls) (fun t ht=>hck.out t (by omega)))
    clear hck
    go_wp2
    go_ret
    exact ⟨by rw [HB.out,HY.out];rfl,hb⟩
 ·have e0:((k:Int) != n)=true:=by simpa using hn
  have HB:Hid (lB n ls=false):=by show _=_;unfold lB;rw [decide_eq_false (by omega)];rfl
  clear hrow
  go_enter Tryz.func116,Tryz.ntmps116
  go_wp2
  go_ret
  exact ⟨by rw [HB.out];rfl,Below.refl _ _⟩
abbrev ansV (num:Int) (ok:Bool) (a:Option Addr) (k c:Nat) (a':Option Addr) (k' c':Nat):Value:=.agg #[.int .i64 num,.bool ok,.slice a k c,.slice a' k' c']
theorem Is.alloc {w:World} {a:Option Addr} {n:Nat} {ls:List Int} (h:Is w w.heap.size a n ls) (o:Obj):Is (w.alloc o) (w.alloc o).heap.size a n ls:=h.up (bel1 w o)
theorem aB_n {n:Int} {o:AnsV} (h:¬ (1≤n∧n≤12)):aB n o=false:=by unfold aB;rw [decide_eq_false h];rfl
theorem aB_num {n:Int} {o:AnsV} (h:¬ (1≤o.num∧o.num≤100000)):aB n o=false:=by unfold aB;rw [decide_eq_false h];simp
theorem aB_es {n:Int} {o:AnsV} (h:eOk n o.es=false):aB n o=false:=by unfold aB;rw [h];simp
theorem aB_ls {n:Int} {o:AnsV} (h1:1≤n∧n≤12) (h2:1≤o.num∧o.num≤100000) (h3:eOk n o.es=true):aB n o=lB n o.ls:=by unfold aB;rw [h3,decide_eq_true h1,decide_eq_true h2];rfl
set_option maxRecDepth 100000 in
set_option maxHeartbeats 4000000 in
theorem sAnswerOk_any (n num:Int) (ok:Bool) (es:List EdgeV) (ls:List Int) (k:Nat) (a:Option Addr) (c:Nat) (hk:k≤1048576) (k':Nat) (a':Option Addr) (c':Nat) (hk':k'≤1048576) (w:World) (h:Es w w.heap.size a k es) (h':Is w w.heap.size a' k' ls) :
  Calls Tryz.prog 54 #[.int .i64 n,ansV num ok a k c a' k' c'] w fun e w'=>e=.returned (.bool (aB n ⟨num,ok,es,ls⟩))∧Below w.heap.size w w':=by
 unfold ansV
 have HI:=hideIt l01In_any
 have HE:Hid (Calls Tryz.prog 73 #[.int .i64 n,.slice a k c] (w.alloc (.cells #[.int .i64 num,.bool ok,.slice a k c,.slice a' k' c'] 60)) fun e w'=>e=.returned (.bool (eOk n es))∧Below w.heap.size w w'∧w'.cell? ⟨w.heap.size,3,none⟩=some (.slice a' k' c')∧Hid (Is w' w'.heap.size a' k' ls)) :=
  (l05Edges_any n es k a c hk (w.alloc (.cells #[.int .i64 num,.bool ok,.slice a k c,.slice a' k' c'] 60)) ((h.alloc (Nat.le_refl _) _).mono (by simp))).mono fun _ _ ⟨he,hb⟩ =>
   ⟨he,(bel1 _ _).trans (hb.mono (by simp)),by rw [hb.cell (by simp)];simp,(h'.alloc _).up hb⟩
 have HL:Hid (∀ W,Is W W.heap.size a' k' ls→Calls Tryz.prog 74 #[.int .i64 n,.slice a' k' c'] W fun e w'=>e=.returned (.bool (lB n ls))∧Below W.heap.size W w'):=fun W hW=>l09Labels_any n ls k' a' c' hk' W hW
 have B0:Hid (Below w.heap.size w (w.alloc (.cells #[.int .i64 num,.bool ok,.slice a k c,.slice a' k' c'] 60))):=bel1 _ _
 clear h h'
 by_cases h1:1≤n∧n≤12
 ·have r1:decide (1≤n∧n≤12)=true:=by simpa using h1
  by_cases h2:1≤num∧num≤100000
  ·have r2:decide (1≤num∧num≤100000)=true:=by simpa using h2
   cases hE:eOk n es with
   | true =>
    rw [hE] at HE
    have HB:=hideIt (aB_ls (o:=⟨num,ok,es,ls⟩) h1 h2 hE)
    generalize lB n ls=r at HL HB
    go_enter Tryz.func54,Tryz.ntmps54
    go_wp2_with (first | (go_at_call 44;refine (HI.out _ _ _ _).mono ?_;rintro e w1 ⟨rfl,rfl⟩) | (go_at_call 73;refine HE.out.mono ?_;rintro e w2 ⟨rfl,hb2,q3,h2'⟩) | (go_at_call 74;refine (HL.out _ h2'.out).mono ?_;rintro e w3 ⟨rfl,hb3⟩))
    go_ret
    exact ⟨rett HB.out.symm,hb2.trans (hb3.mono hb2.size)⟩
   | false =>
    rw [hE] at HE
    have HB:=hideIt (aB_es (o:=⟨num,ok,es,ls⟩) hE)
    go_enter Tryz.func54,Tryz.ntmps54
    go_wp2_with (first | (go_at_call 44;refine (HI.out _ _ _ _).mono ?_;rintro e w1 ⟨rfl,rfl⟩) | (go_at_call 73;refine HE.out.mono ?_;rintro e w2 ⟨rfl,hb2,q3,h2'⟩))
    go_ret
    exact ⟨rett HB.out.symm,hb2⟩
  ·have r2:decide (1≤num∧num≤100000)=false:=by simpa using h2
   have HB:=hideIt (aB_num (n:=n) (o:=⟨num,ok,es,ls⟩) h2)
   clear HE HL
   go_enter Tryz.func54,Tryz.ntmps54
   go_wp2_with (first | (go_at_call 44;refine (HI.out _ _ _ _).mono ?_;rintro e w1 ⟨rfl,rfl⟩))
   go_ret
   exact ⟨rett HB.out.symm,B0.out⟩
 ·have r1:decide (1≤n∧n≤12)=false:=by simpa using h1
  have HB:=hideIt (aB_n (o:=⟨num,ok,es,ls⟩) h1)
  clear HE HL
  go_enter Tryz.func54,Tryz.ntmps54
  go_wp2_with (first | (go_at_call 44;refine (HI.out _ _ _ _).mono ?_;rintro e w1 ⟨rfl,rfl⟩))
  go_ret
  exact ⟨rett HB.out.symm,B0.out⟩
set_option maxRecDepth 100000 in
set_option maxHeartbeats 4000000 in
theorem iAnswerOk_any (n num:Int) (ok:Bool) (es:List EdgeV) (ls:List Int) (k:Nat) (a:Option Addr) (c:Nat) (hk:k≤1048576) (k':Nat) (a':Option Addr) (c':Nat) (hk':k'≤1048576) (w:World) (h:Es w w.heap.size a k es) (h':Is w w.heap.size a' k' ls) :
  Calls Tryz.prog 93 #[.int .i64 n,ansV num ok a k c a' k' c'] w fun e w'=>e=.returned (.bool (aB n ⟨num,ok,es,ls⟩))∧Below w.heap.size w w':=by
 unfold ansV
 have HI:=hideIt vertsOk_any
 have HJ:=hideIt numOk_any
 have HE:Hid (Calls Tryz.prog 100 #[.int .i64 n,.slice a k c] (w.alloc (.cells #[.int .i64 num,.bool ok,.slice a k c,.slice a' k' c'] 60)) fun e w'=>e=.returned (.bool (eOk n es))∧Below w.heap.size w w'∧w'.cell? ⟨w.heap.size,3,none⟩=some (.slice a' k' c')∧Hid (Is w' w'.heap.size a' k' ls)) :=
  (edgesOk_any n es k a c hk (w.alloc (.cells #[.int .i64 num,.bool ok,.slice a k c,.slice a' k' c'] 60)) ((h.alloc (Nat.le_refl _) _).mono (by simp))).mono fun _ _ ⟨he,hb⟩ =>
   ⟨he,(bel1 _ _).trans (hb.mono (by simp)),by rw [hb.cell (by simp)];simp,(h'.alloc _).up hb⟩
 have HL:Hid (∀ W,Is W W.heap.size a' k' ls→Calls Tryz.prog 116 #[.int .i64 n,.slice a' k' c'] W fun e w'=>e=.returned (.bool (lB n ls))∧Below W.heap.size W w'):=fun W hW=>labelsOk_any n ls k' a' c' hk' W hW
 have B0:Hid (Below w.heap.size w (w.alloc (.cells #[.int .i64 num,.bool ok,.slice a k c,.slice a' k' c'] 60))):=bel1 _ _
 clear h h'
 by_cases h1:1≤n∧n≤12
 ·have r1:decide (1≤n∧n≤12)=true:=by simpa using h1
  by_cases h2:1≤num∧num≤100000
  ·have r2:decide (1≤num∧num≤100000)=true:=by simpa using h2
   cases hE:eOk n es with
   | true =>
    rw [hE] at HE
    have HB:=hideIt (aB_ls (o:=⟨num,ok,es,ls⟩) h1 h2 hE)
    generalize lB n ls=r at HL HB
    go_enter Tryz.func93,Tryz.ntmps93
    go_wp2_with (first | (go_at_call 60;refine (HI.out _ _).mono ?_;rintro e w1 ⟨rfl,rfl⟩) | (go_at_call 88;refine (HJ.out _ _).mono ?_;rintro e w1 ⟨rfl,rfl⟩) | (go_at_call 100;refine HE.out.mono ?_;rintro e w2 ⟨rfl,hb2,q3,h2'⟩) | (go_at_call 116;refine (HL.out _ h2'.out).mono ?_;rintro e w3 ⟨rfl,hb3⟩))
    go_ret
    exact ⟨rett HB.out.symm,hb2.trans (hb3.mono hb2.size)⟩
   | false =>
    rw [hE] at HE
    have HB:=hideIt (aB_es (o:=⟨num,ok,es,ls⟩) hE)
    go_enter Tryz.func93,Tryz.ntmps93
    go_wp2_with (first | (go_at_call 60;refine (HI.out _ _).mono ?_;rintro e w1 ⟨rfl,rfl⟩) | (go_at_call 88;refine (HJ.out _ _).mono ?_;rintro e w1 ⟨rfl,rfl⟩) | (go_at_call 100;refine HE.out.mono ?_;rintro e w2 ⟨rfl,hb2,q3,h2'⟩))
    go_ret
    exact ⟨rett HB.out.symm,hb2⟩
  ·have r2:decide (1≤num∧num≤100000)=false:=by simpa using h2
   have HB:=hideIt (aB_num (n:=n) (o:=⟨num,ok,es,ls⟩) h2)
   clear HE HL
   go_enter Tryz.func93,Tryz.ntmps93
   go_wp2_with (first | (go_at_call 60;refine (HI.out _ _).mono ?_;rintro e w1 ⟨rfl,rfl⟩) | (go_at_call 88;refine (HJ.out _ _).mono ?_;rintro e w1 ⟨rfl,rfl⟩))
   go_ret
   exact ⟨rett HB.out.symm,B0.out⟩
 ·have r1:decide (1≤n∧n≤12)=false:=by simpa using h1
  have HB:=hideIt (aB_n (o:=⟨num,ok,es,ls⟩) h1)
  clear HE HL
  go_enter Tryz.func93,Tryz.ntmps93
  go_wp2_with (first | (go_at_call 60;refine (HI.out _ _).mono ?_;rintro e w1 ⟨rfl,rfl⟩) | (go_at_call 88;refine (HJ.out _ _).mono ?_;rintro e w1 ⟨rfl,rfl⟩))
  go_ret
  exact ⟨rett HB.out.symm,B0.out⟩
theorem own_up10 {w w':World} {B e s n:Nat} {v:Value} {xs:List Value} (h:w.ownsRow B e s v n xs) (hb:Below w.heap.size w w'):w'.ownsRow B e s v n xs:=by
 refine ⟨h.1,h.2.imp id ?_⟩
 rintro ⟨g,cap,cur,hv,hg,hc,rest⟩
 exact ⟨g,cap,cur,hv,hg,by rw [hb.block g (Array.getElem?_eq_some_iff.1 hc).1];exact hc,rest⟩
set_option maxHeartbeats 1000000 in
theorem toAnswer_any (num:Int) (ok:Bool) (fs:List EdgeV) (ls:List Int) (n:Nat) (a:Option Addr) (cap:Nat) (hn:n≤1048576) (m:Nat) (a':Option Addr) (cap':Nat) (hm:m≤1048576) (w:World) (hfs:Es w w.heap.size a n fs) (hls:Is w w.heap.size a' m ls) :
  Calls Tryz.prog 58 #[ansV num ok a n cap a' m cap'] w fun e w'=>∃ g g',e=.returned (ansV num ok (some ⟨g,0,none⟩) n n (some ⟨g',0,none⟩) m m)∧w'.ownsRow w.heap.size 107 2 (.slice (some ⟨g,0,none⟩) n n) n (ecells fs)∧w'.ownsRow w.heap.size 3 1 (.slice (some ⟨g',0,none⟩) m m) m (ic ls)∧Below w.heap.size w w':=by
 unfold ansV
 have hb3:=bel3 w (.cells #[.int .i64 num,.bool ok,.slice a n cap,.slice a' m cap'] 53) (.cells #[.int .i64 0,.bool false,.slice none 0 0,.slice none 0 0] 60) (.cells #[.int .i64 num,.bool ok,.slice none 0 0,.slice none 0 0] 60)
 have HT:=hideIt (toEdgeS_any fs n a cap hn _ (hfs.up hb3))
 have HI:Hid (∀ W,Below w.heap.size w W→Calls Tryz.prog 83 #[.slice a' m cap'] W fun e w'=>∃ g,e=.returned (.slice (some ⟨g,0,none⟩) m m)∧w'.ownsRow W.heap.size 3 1 (.slice (some ⟨g,0,none⟩) m m) m (ic ls)∧Below W.heap.size W w'):=fun W hW=>toIntS_any ls m a' cap' hm W (hls.up hW)
 have HB3:=hideIt hb3
 clear hfs hls hb3
 go_enter Tryz.func58,Tryz.ntmps58
 go_wp2_with (go_at_call 82;refine HT.out.mono ?_;rintro e w1 ⟨g,rfl,hown,hb1⟩;refine Hid.out ?_)
 refine (show ∀ {p:Prop},p→Hid p from fun h=>h) ?_
 obtain ⟨hc,hf⟩:=bcell hb1
 have hgl:=hown.lt g rfl
 have hz:=hb1.size
 simp at hz hgl
 have hB1:=HB3.out.trans (hb1.mono (by simp;omega))
 have hx:w1.heap[w.heap.size]?=some (.cells #[.int .i64 num,.bool ok,.slice a n cap,.slice a' m cap'] 53 (0,0)):=by
  rw [hb1.block _ (by simp;omega),Below.heap_alloc _ _ _ (by simp;omega),Below.heap_alloc _ _ _ (by simp)]
  exact heap_alloc_new w _
 have x0:w1.cell? ⟨w.heap.size,3,none⟩=some (.slice a' m cap'):=by rw [cell_of_row w1 _ 3 _ _ _ hx];rfl
 have hB2:Below w.heap.size w (w1.setCell ⟨w.heap.size+1+1,2,none⟩ (.slice (some ⟨g,0,none⟩) n n)):=hB1.setCell (by simp;omega) _
 have hb2:w1.heap[w.heap.size+1+1]?=some (.cells #[.int .i64 num,.bool ok,.slice none 0 0,.slice none 0 0] 60 (0,0)):=by
  rw [hb1.block _ (by simp)]
  have:=heap_alloc_new ((w.alloc (.cells #[.int .i64 num,.bool ok,.slice a n cap,.slice a' m cap'] 53)).alloc (.cells #[.int .i64 0,.bool false,.slice none 0 0,.slice none 0 0] 60)) (.cells #[.int .i64 num,.bool ok,.slice none 0 0,.slice none 0 0] 60)
  simpa using this
 have hr2:w1.heap[w.heap.size+1]?=some (.cells #[.int .i64 0,.bool false,.slice none 0 0,.slice none 0 0] 60 (0,0)):=by
  rw [hb1.block _ (by simp),Below.heap_alloc _ _ _ (by simp)]
  have:=heap_alloc_new (w.alloc (.cells #[.int .i64 num,.bool ok,.slice a n cap,.slice a' m cap'] 53)) (.cells #[.int .i64 0,.bool false,.slice none 0 0,.slice none 0 0] 60)
  simpa using this
 have y2:w1.cell? ⟨w.heap.size+1+1,2,none⟩=some (.slice none 0 0):=by rw [cell_of_row w1 _ 2 _ _ _ hb2];rfl
 have z2:w1.frozen? ⟨w.heap.size+1+1,2,none⟩=false:=frozen_of_row w1 _ 2 _ _ hb2
 have hown2:=own_block (W:=w1.setCell ⟨w.heap.size+1+1,2,none⟩ (.slice (some ⟨g,0,none⟩) n n)) hown (fun q hq _=>heap_setCell_other _ _ _ _ (by simp at hq ⊢;omega))
 have hb22:(w1.setCell ⟨w.heap.size+1+1,2,none⟩ (.slice (some ⟨g,0,none⟩) n n)).heap[w.heap.size+1+1]?=some (.cells #[.int .i64 num,.bool ok,.slice (some ⟨g,0,none⟩) n n,.slice none 0 0] 60 (0,0)):=by
  rw [heap_setCell_same w1 _ 2 _ _ _ hb2];rfl
 have hr22:(w1.setCell ⟨w.heap.size+1+1,2,none⟩ (.slice (some ⟨g,0,none⟩) n n)).heap[w.heap.size+1]?=some (.cells #[.int .i64 0,.bool false,.slice none 0 0,.slice none 0 0] 60 (0,0)):=by
  rw [heap_setCell_other _ _ _ _ (by simp)];exact hr2
 have HW2:=hideIt hown2
 have HB2:=hideIt hB2
 have Hb22:=hideIt hb22
 have Hr22:=hideIt hr22
 have hz2:(w1.setCell ⟨w.heap.size+1+1,2,none⟩ (.slice (some ⟨g,0,none⟩) n n)).heap.size=w1.heap.size:=by simp [World.setCell]
 clear hc hf hown hb1 HT hB1 hb2 hr2 hx hown2 hB2 hb22 hr22
 go_wp2_with (go_at_call 83;refine (HI.out _ HB2.out).mono ?_;rintro e w2 ⟨g',rfl,hown',hb2⟩;refine Hid.out ?_)
 refine (show ∀ {p:Prop},p→Hid p from fun h=>h) ?_
 have hbx:w2.heap[w.heap.size+1+1]?=some (.cells #[.int .i64 num,.bool ok,.slice (some ⟨g,0,none⟩) n n,.slice none 0 0] 60 (0,0)):=by
  rw [hb2.block _ (by rw [hz2];omega)];exact Hb22.out
 have hrx:w2.heap[w.heap.size+1]?=some (.cells #[.int .i64 0,.bool false,.slice none 0 0,.slice none 0 0] 60 (0,0)):=by
  rw [hb2.block _ (by rw [hz2];omega)];exact Hr22.out
 have e0:w2.cell? ⟨w.heap.size+1+1,0,none⟩=some (.int .i64 num):=by rw [cell_of_row w2 _ 0 _ _ _ hbx];rfl
 have e1:w2.cell? ⟨w.heap.size+1+1,1,none⟩=some (.bool ok):=by rw [cell_of_row w2 _ 1 _ _ _ hbx];rfl
 have e2:w2.cell? ⟨w.heap.size+1+1,2,none⟩=some (.slice (some ⟨g,0,none⟩) n n):=by rw [cell_of_row w2 _ 2 _ _ _ hbx];rfl
 have e3:w2.cell? ⟨w.heap.size+1+1,3,none⟩=some (.slice none 0 0):=by rw [cell_of_row w2 _ 3 _ _ _ hbx];rfl
 have fz:w2.frozen? ⟨w.heap.size+1+1,3,none⟩=false:=frozen_of_row w2 _ 3 _ _ hbx
 have r0:w2.cell? ⟨w.heap.size+1,0,none⟩=some (.int .i64 0):=by rw [cell_of_row w2 _ 0 _ _ _ hrx];rfl
 have r1:w2.cell? ⟨w.heap.size+1,1,none⟩=some (.bool false):=by rw [cell_of_row w2 _ 1 _ _ _ hrx];rfl
 have r2:w2.cell? ⟨w.heap.size+1,2,none⟩=some (.slice none 0 0):=by rw [cell_of_row w2 _ 2 _ _ _ hrx];rfl
 have r3:w2.cell? ⟨w.heap.size+1,3,none⟩=some (.slice none 0 0):=by rw [cell_of_row w2 _ 3 _ _ _ hrx];rfl
 have s0:=frozen_of_row w2 _ 0 _ _ hrx
 have s1:=frozen_of_row w2 _ 1 _ _ hrx
 have s2:=frozen_of_row w2 _ 2 _ _ hrx
 have s3:=frozen_of_row w2 _ 3 _ _ hrx
 have HBx:=hideIt (HB2.out.trans (hb2.mono HB2.out.size))
 have HOx:=hideIt (own_up10 HW2.out hb2)
 have HIx:=hideIt hown'
 clear hbx hrx hown' hb2 HW2 HB2 Hb22 Hr22 HI
 go_wp2
 refine bodyPost_ret (v:=.agg #[.int .i64 num,.bool ok,.slice (some ⟨g,0,none⟩) n n,.slice (some ⟨g',0,none⟩) m m]) (by simp [results,Tryz.results58,go_sem,r0,r1,r2,r3]) rfl ⟨g,g',rfl,?_,?_,?_⟩
 ·refine own_mono (B:=w.heap.size+1+1+1) ?_ (by omega)
  have H0:w2.ownsRow (w.heap.size+1+1+1) 107 2 (.slice (some ⟨g,0,none⟩) n n) n (ecells fs):=by have:=HOx.out;simpa using this
  repeat refine own_setOther ?_ _ _ _ (by omega)
  exact H0
 ·have hg':=(HIx.out.lt g' rfl).1
  rw [hz2] at hg'
  have H0:w2.ownsRow w.heap.size 3 1 (.slice (some ⟨g',0,none⟩) m m) m (ic ls):=own_mono HIx.out (by rw [hz2];omega)
  repeat refine own_setOther ?_ _ _ _ (by omega)
  exact H0
 ·have B3:=HBx.out
  repeat refine Below.setCell ?_ (by simp;try omega) _
  exact B3
theorem eqAnswer_same (num:Int) (ok:Bool) (fs:List EdgeV) (ls:List Int) (n:Nat) (a b:Option Addr) (c d:Nat) (hn:n≤1048576) (m:Nat) (a' b':Option Addr) (c' d':Nat) (hm:m≤1048576) (w:World)
  (h1:Es w w.heap.size a n fs) (h2:Es w w.heap.size b n fs) (h3:Is w w.heap.size a' m ls) (h4:Is w w.heap.size b' m ls) :
  Calls Tryz.prog 68 #[ansV num ok a n c a' m c',ansV num ok b n d b' m d'] w fun e w'=>e=.returned (.bool true)∧Below w.heap.size w w':=by
 unfold ansV
 have B2:Below w.heap.size w ((w.alloc (.cells #[.int .i64 num,.bool ok,.slice a n c,.slice a' m c'] 60)).alloc (.cells #[.int .i64 num,.bool ok,.slice b n d,.slice b' m d'] 60)):=(bel1 _ _).alloc (by simp) _
 have HT:=hideIt (eqEdgeS_same fs n a b c d hn _ (h1.up B2) (h2.up B2))
 have HI:Hid (∀ W,Below w.heap.size w W→Calls Tryz.prog 28 #[.slice a' m c',.slice b' m d'] W fun e w'=>e=.returned (.bool true)∧Below W.heap.size W w'):=fun W hW=>eqIntS_same ls m a' b' c' d' hm W (h3.up hW) (h4.up hW)
 have HB2:=hideIt B2
 have dr:(ok != ok)=false:=by simp
 clear h1 h2 h3 h4 B2
 go_enter Tryz.func68,Tryz.ntmps68
 go_wp2_with (go_at_call 29;refine HT.out.mono ?_;rintro e w1 ⟨rfl,hb1⟩;refine Hid.out ?_)
 refine (show ∀ {p:Prop},p→Hid p from fun h=>h) ?_
 obtain ⟨hc,hf⟩:=bcell hb1
 have HB:=hideIt (HB2.out.trans (hb1.mono (by simp;omega)))
 have q0:w1.cell? ⟨w.heap.size,3,none⟩=some (.slice a' m c'):=by rw [hc _ _ (by simp;omega)];simp
 have q1:w1.cell? ⟨w.heap.size+1,3,none⟩=some (.slice b' m d'):=by rw [hc _ _ (by simp)];simp
 clear hc hf hb1 HT
 go_wp2_with (go_at_call 28;refine (HI.out _ HB.out).mono ?_;rintro e w2 ⟨rfl,hb2⟩)
 go_ret
 exact ⟨rfl,HB.out.trans (hb2.mono HB.out.size)⟩
theorem rows_ne {w:World} {B B' S S' n n':Nat} {e e':TypeId} {v v':Value} {xs xs':List Value} (h:w.ownsRow B e S v n xs) (h':w.ownsRow B' e' S' v' n' xs') (hne:e≠e') (g:Nat) (hg:v.ownBlock=some g):v'.ownBlock≠some g:=by
 intro hg'
 rcases h.2 with ⟨rfl,_⟩ | ⟨q,cap,cur,rfl,_,hc,_⟩
 ·simp [Value.ownBlock] at hg
 ·rcases h'.2 with ⟨rfl,_⟩ | ⟨q',cap',cur',rfl,_,hc',_⟩
  ·simp [Value.ownBlock] at hg'
  ·simp [Value.ownBlock] at hg hg'
   subst hg hg'
   rw [hc] at hc'
   simp at hc'
   exact hne hc'.2
theorem markE_any {w:World} {base n c k0:Nat} {a:Option Addr} {fs:List EdgeV} (hn:n≤1048576) (hk:k0≤10000000) (h:w.ownsRow base 107 2 (.slice a n c) n (ecells fs)) :
  Calls Tryz.prog 33 #[.slice a n c,.int .i64 (k0:Int)] w fun e w'=>e=.returned (.int .i64 ((k0:Int)+(n:Int)*2))∧w'.ownsRow base 107 2 (.slice a n c) n (ecells (marks k0 n))∧w.grownBy w' ((Value.slice a n c).ownBlock):=by
 by_cases h0:n=0
 ·subst h0
  refine (markEdgeS_zero a c k0 w).mono ?_
  rintro e v ⟨rfl,rfl⟩
  refine ⟨by simp,?_,gr_refl _ _⟩
  have hl:=h.1
  rw [ecells_length] at hl
  have:fs=[]:=List.length_eq_zero_iff.1 (by omega)
  subst this
  exact h
 ·rcases h.2 with ⟨_,h3⟩ | ⟨g,cap,cur,hv,hg,_⟩
  ·omega
  ·simp at hv
   obtain ⟨rfl,rfl⟩:=hv
   exact markEdgeS_any base g c n k0 fs hn hk w h
section
variable {u v:World} {lo hi b l2 h2:Nat} {num:Int} {ok:Bool} {a:Option Addr} {m c:Nat} {a':Option Addr} {m' c':Nat} {gs:List EdgeV} {ls:List Int}
end
end Go.Proofs.YtnagchanokbgdaaGreat.Q
