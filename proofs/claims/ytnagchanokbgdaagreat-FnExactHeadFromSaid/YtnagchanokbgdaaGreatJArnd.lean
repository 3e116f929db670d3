/- The library's Index and Contains over edges; the program's HasEdge. The program's AddEdge. Where a law stands that looks at fresh memory: graphs in ranges of blocks of their own. Lists of ints: how they stand in memory; eqIntS, markIntS, heldIntS; an answer that is a list of ints. A row of ints that a function makes for itself. What is around a vertex: by the program's way and by the specification's. (No walk.). -/
import Derived.Test.YtnagchanokbgdaaGreatJIGraph
import Derived.Test.YtnagchanokbgdaaGreatJSGraph
import Derived.Deep.AppendLies
namespace Go.Proofs.YtnagchanokbgdaaGreat.O
open Go.RowKit
theorem idxOf_le {es:List EdgeV} {e:EdgeV} {k:Nat} (h:es[k]?=some e):es.idxOf e≤k:=by
 induction es generalizing k with
 | nil=>simp at h
 | cons x es ih =>
  rw [List.idxOf_cons]
  by_cases hx:x=e
  ·simp [hx]
  ·cases k with
   | zero=>simp at h;exact absurd h hx
   | succ k =>
    have h1:=ih (k:=k) (by simpa using h)
    have h2:(x == e)=false:=by simpa using hx
    rw [h2]
    simp
    omega
def idxE (es:List EdgeV) (e:EdgeV):Int:=if e ∈ es then (es.idxOf e:Int) else -1
theorem idxE_yes {es:List EdgeV} {e:EdgeV} {k:Nat} (h:es[k]?=some e) (hn:∀ j,j<k→es[j]?≠some e):idxE es e=(k:Int):=by
 have hm:e ∈ es:=List.mem_of_getElem? h
 unfold idxE
 rw [if_pos hm]
 have h1:=List.idxOf_lt_length_iff.2 hm
 have h2:es[es.idxOf e]?=some e:=by rw [List.getElem?_eq_getElem h1,List.getElem_idxOf h1]
 have h3:¬ es.idxOf e<k:=fun h4=>hn _ h4 h2
 have h5:es.idxOf e≤k:=idxOf_le h
 omega
theorem idxE_no {es:List EdgeV} {e:EdgeV} (h:∀ j,j<es.length→es[j]?≠some e):idxE es e = -1:=by
 unfold idxE
 rw [if_neg]
 intro hm
 obtain ⟨j,hj,rfl⟩:=List.getElem_of_mem hm
 exact h j hj (List.getElem?_eq_getElem hj)
theorem idxE_has (es:List EdgeV) (e:EdgeV):decide (0≤idxE es e)=hasB es e:=by
 unfold idxE hasB
 by_cases h:e ∈ es
 ·rw [if_pos h];simp [h]
 ·rw [if_neg h];simp [h]
set_option maxHeartbeats 1000000 in
theorem Index_any (es:List EdgeV) (e:EdgeV) (n:Nat) (a:Option Addr) (c:Nat) (hn:n≤1048576) (w:World) (h:Es w w.heap.size a n es) :
  Calls Tryz.prog 153 #[.slice a n c,.agg #[.int .i64 e.1,.int .i64 e.2]] w fun x w'=>x=.returned (.int .i64 (idxE es e))∧Below w.heap.size w w':=by
 obtain ⟨hlen,hrow⟩:=h
 have HR:=hideIt hrow
 clear hrow
 go_enter Tryz.func153,Tryz.ntmps153
 go_wp2
 go_loopw [8] (fun i wr=>∃ k:Nat,k≤n∧i=.int .i64 (k:Int)∧Hid (∀ j,j<k→es[j]?≠some e)∧Below w.heap.size w wr∧wr.cell? ⟨w.heap.size,0,none⟩=some (.int .i64 e.1)∧wr.cell? ⟨w.heap.size,1,none⟩=some (.int .i64 e.2)) (fun i _=>n - (intOf i).toNat)
 case atStart=>exact ⟨0,by omega,rfl,fun j hj=>by omega,(Below.refl _ _).alloc (Nat.le_refl _) _,by simp,by simp⟩
 case round =>
  obtain ⟨k,hk,rfl,hck,hb,x0,x1⟩:=hrel
  by_cases hlt:k<n
  ·rcases HR.out with hz | ⟨b,off,rfl,hbl,hc⟩
   ·omega
   ·obtain ⟨f,hf⟩:∃ f,es[k]?=some f:=⟨es[k]'(by omega),List.getElem?_eq_getElem (by omega)⟩
    obtain ⟨c0,c1⟩:=hc k f hf
    have e0:wr.cell? ⟨b,off+k*2,none⟩=some (.int .i64 f.1):=by rw [hb.cell hbl];exact c0
    have e1:wr.cell? ⟨b,off+k*2+1,none⟩=some (.int .i64 f.2):=by rw [hb.cell hbl];exact c1
    have b1:(0:Int)≤(k:Int):=by omega
    have b2:(k:Int)<(n:Int):=by omega
    by_cases hfe:f=e
    ·subst hfe
     have HY:=hideIt (idxE_yes hf hck.out)
     clear hf hc c0 c1 hck
     go_wp2
     go_quiet (fail)
     go_wp2
     go_ret
     exact ⟨by rw [HY.out];rfl,below_drewN hb _⟩
    ·have HN:Hid (∀ j,j<k+1→es[j]?≠some e):=fun j hj=>by
      by_cases hjk:j=k
      ·subst hjk;rw [hf];exact fun hh=>hfe (Option.some.inj hh)
      ·exact hck.out j (by omega)
     clear hf hc c0 c1 hck
     by_cases h1:e.1=f.1
     ·have h2:¬ e.2=f.2:=fun h2=>hfe (Prod.ext h1.symm h2.symm)
      rw [← h1] at e0
      have d2:(e.2 == f.2)=false:=by simpa using h2
      clear hfe
      go_wp2
      go_quiet (fail)
      go_wp2
      exact ⟨⟨k+1,by omega,by go_num,HN,below_drewN hb _,x0,x1⟩,by simp [intOf];omega⟩
     ·have d1:(e.1 == f.1)=false:=by simpa using h1
      clear hfe
      go_wp2
      go_quiet (fail)
      go_wp2
      exact ⟨⟨k+1,by omega,by go_num,HN,below_drewN hb _,x0,x1⟩,by simp [intOf];omega⟩
  ·have HN:=hideIt (idxE_no (es:=es) (e:=e) (fun j hj=>hck.out j (by omega)))
   clear hck
   go_wp2
   go_ret
   exact ⟨by rw [HN.out];rfl,hb⟩
theorem Contains_any (es:List EdgeV) (e:EdgeV) (n:Nat) (a:Option Addr) (c:Nat) (hn:n≤1048576) (w:World) (h:Es w w.heap.size a n es) :
  Calls Tryz.prog 143 #[.slice a n c,.agg #[.int .i64 e.1,.int .i64 e.2]] w fun x w'=>x=.returned (.bool (hasB es e))∧Below w.heap.size w w':=by
 have HT:=hideIt (Index_any es e n a c hn (w.alloc (.cells #[.int .i64 e.1,.int .i64 e.2] 107)) ((h.alloc (Nat.le_refl _) _).mono (by simp)))
 have HI:=idxE_has es e
 clear h
 generalize idxE es e=r at HT HI
 generalize hasB es e=q at HI
 go_enter Tryz.func143,Tryz.ntmps143
 go_wp2_with (go_at_call 153;refine HT.out.mono ?_;rintro e w1 ⟨rfl,hb1⟩)
 go_ret
 exact ⟨rfl,((Below.refl _ _).alloc (Nat.le_refl _) _).trans (hb1.mono (by simp))⟩
theorem iHasEdge_any (N:Int) (es:List EdgeV) (e:EdgeV) (n:Nat) (a:Option Addr) (c:Nat) (hn:n≤1048576) (w:World) (h:Es w w.heap.size a n es) :
  Calls Tryz.prog 151 #[.agg #[.int .i64 N,.slice a n c],.agg #[.int .i64 e.1,.int .i64 e.2]] w fun x w'=>x=.returned (.bool (hasB es e))∧Below w.heap.size w w':=by
 have HT:=hideIt (Contains_any es e n a c hn ((w.alloc (.cells #[.int .i64 N,.slice a n c] 104)).alloc (.cells #[.int .i64 e.1,.int .i64 e.2] 107)) (((h.alloc (Nat.le_refl _) _).alloc (by simp) _).mono (by simp;omega)))
 clear h
 go_enter Tryz.func151,Tryz.ntmps151
 go_wp2_with (go_at_call 143;refine HT.out.mono ?_;rintro e w1 ⟨rfl,hb1⟩)
 go_ret
 exact ⟨rfl,(((Below.refl _ _).alloc (Nat.le_refl _) _).alloc (by simp) _).trans (hb1.mono (by simp;omega))⟩
def Sl (a:Option Addr) (n c:Nat):Prop:=n≤c∧c≤maxLen∧(a=none∧n=0∧c=0∨∃ b off,a=some ⟨b,off,none⟩)
def GAns (w:World) (N:Int) (o:Option (List EdgeV)) (e:Ending) (w':World):Prop :=
 ∃ a m c,e=.returned (.tuple #[.agg #[.int .i64 (if o.isSome then N else 0),.slice a m c],.bool o.isSome])∧w'.ownsRow w.heap.size 107 2 (.slice a m c) m (ecells (o.getD []))∧Below w.heap.size w w'
theorem set_other {u:World} {G j x o:Nat} {v:Value} (h:x≠G):(u.setCell ⟨G,j,none⟩ v).cell? ⟨x,o,none⟩=u.cell? ⟨x,o,none⟩:=World.cell?_of_block (w:=u) (heap_setCell_other u ⟨G,j,none⟩ x v h)
theorem own_setLow {w:World} {B e s n:Nat} {v:Value} {xs:List Value} (h:w.ownsRow B e s v n xs) (G j:Nat) (u:Value) (hG:G<B):(w.setCell ⟨G,j,none⟩ u).ownsRow B e s v n xs :=
 World.ownsRow.kept h (grownSet w G j u) (.inr (fun e=>by have:=(h.lt G (by simpa using e)).1;omega))
def w3 (w:World) (N:Int) (a:Option Addr) (n c:Nat) (f:EdgeV):World :=
 ((w.alloc (.cells #[.int .i64 N,.slice a n c] 104)).alloc (.cells #[.int .i64 f.1,.int .i64 f.2] 107)).alloc (.cells #[.int .i64 0,.slice none 0 0] 104)
theorem w3_size (w:World) (N:Int) (a:Option Addr) (n c:Nat) (f:EdgeV):(w3 w N a n c f).heap.size=w.heap.size+3:=by simp [w3]
theorem w3_below (w:World) (N:Int) (a:Option Addr) (n c:Nat) (f:EdgeV):Below w.heap.size w (w3 w N a n c f):=(((Below.refl _ _).alloc (Nat.le_refl _) _).alloc (by simp) _).alloc (by simp;omega) _
structure In3 (w:World) (N:Int) (a:Option Addr) (n c:Nat) (f:EdgeV) (u:World):Prop where
 good:Good (w3 w N a n c f) u
theorem In3.cells {w:World} {N:Int} {a:Option Addr} {n c:Nat} {f:EdgeV} {u:World} (h:In3 w N a n c f u) :
  (u.cell? ⟨w.heap.size,0,none⟩=some (.int .i64 N)∧u.cell? ⟨w.heap.size,1,none⟩=some (.slice a n c))∧(u.cell? ⟨w.heap.size+1,0,none⟩=some (.int .i64 f.1)∧u.cell? ⟨w.heap.size+1,1,none⟩=some (.int .i64 f.2)):=by
 have hs:=w3_size w N a n c f
 refine ⟨⟨?_,?_⟩,?_,?_⟩
 ·rw [h.good.cell (by omega)];simp [w3,go_sem]
 ·rw [h.good.cell (by omega)];simp [w3,go_sem]
 ·rw [h.good.cell (by omega)];simp [w3,go_sem]
 ·rw [h.good.cell (by omega)];simp [w3,go_sem]
theorem In3.out {w:World} {N:Int} {a:Option Addr} {n c:Nat} {f:EdgeV} {u:World} (h:In3 w N a n c f u) :
  (u.cell? ⟨w.heap.size+1+1,0,none⟩=some (.int .i64 0)∧u.cell? ⟨w.heap.size+1+1,1,none⟩=some (.slice none 0 0))∧(u.frozen? ⟨w.heap.size+1+1,0,none⟩=false∧u.frozen? ⟨w.heap.size+1+1,1,none⟩=false):=by
 have hs:=w3_size w N a n c f
 refine ⟨⟨?_,?_⟩,?_,?_⟩
 ·rw [h.good.cell (by omega)];simp [w3,go_sem]
 ·rw [h.good.cell (by omega)];simp [w3,go_sem]
 ·rw [Below.frozen h.good (by show w.heap.size+1+1<_;omega)];simp [w3,go_sem]
 ·rw [Below.frozen h.good (by show w.heap.size+1+1<_;omega)];simp [w3,go_sem]
theorem In3.up {w:World} {N:Int} {a:Option Addr} {n c:Nat} {f:EdgeV} {u v:World} (h:In3 w N a n c f u) (hb:Below u.heap.size u v):In3 w N a n c f v:=⟨h.good.up hb⟩
theorem In3.start (w:World) (N:Int) (a:Option Addr) (n c:Nat) (f:EdgeV):In3 w N a n c f (w3 w N a n c f):=⟨Good.refl _⟩
theorem In3.below {w:World} {N:Int} {a:Option Addr} {n c:Nat} {f:EdgeV} {u:World} (h:In3 w N a n c f u):Below w.heap.size w u:=(w3_below w N a n c f).trans (Below.mono h.good (by rw [w3_size];omega))
theorem In3.size {w:World} {N:Int} {a:Option Addr} {n c:Nat} {f:EdgeV} {u:World} (h:In3 w N a n c f u):w.heap.size+3≤u.heap.size:=by have:=h.good.size;rw [w3_size] at this;exact this
theorem In3.drew {w:World} {N:Int} {a:Option Addr} {n c:Nat} {f:EdgeV} {u:World} (h:In3 w N a n c f u):In3 w N a n c f u.drew:=⟨h.good.drew⟩
theorem In3.cellsSet {w:World} {N:Int} {a:Option Addr} {n c:Nat} {f:EdgeV} {u:World} (h:In3 w N a n c f u) (v0 v1:Value) :
  ((((u.setCell ⟨w.heap.size+1+1,0,none⟩ v0).setCell ⟨w.heap.size+1+1,1,none⟩ v1)).cell? ⟨w.heap.size,0,none⟩=some (.int .i64 N)∧(((u.setCell ⟨w.heap.size+1+1,0,none⟩ v0).setCell ⟨w.heap.size+1+1,1,none⟩ v1)).cell? ⟨w.heap.size,1,none⟩=some (.slice a n c)) ∧
   ((((u.setCell ⟨w.heap.size+1+1,0,none⟩ v0).setCell ⟨w.heap.size+1+1,1,none⟩ v1)).cell? ⟨w.heap.size+1,0,none⟩=some (.int .i64 f.1)∧(((u.setCell ⟨w.heap.size+1+1,0,none⟩ v0).setCell ⟨w.heap.size+1+1,1,none⟩ v1)).cell? ⟨w.heap.size+1,1,none⟩=some (.int .i64 f.2)):=by
 obtain ⟨⟨k0,k1⟩,k2,k3⟩:=h.cells
 refine ⟨⟨?_,?_⟩,?_,?_⟩
 ·rw [set_other (by omega),set_other (by omega)];exact k0
 ·rw [set_other (by omega),set_other (by omega)];exact k1
 ·rw [set_other (by omega),set_other (by omega)];exact k2
 ·rw [set_other (by omega),set_other (by omega)];exact k3
theorem gans_yes {w u:World} {N:Int} {a:Option Addr} {n c:Nat} {f:EdgeV} (h:In3 w N a n c f u) {o:Option (List EdgeV)} {gs:List EdgeV} (ho:o=some gs) {B:Nat} {a':Option Addr} {m' c':Nat}
  (hB:w.heap.size+3≤B) (hown:u.ownsRow B 107 2 (.slice a' m' c') m' (ecells gs)) :
  GAns w N o (.returned (.tuple #[.agg #[.int .i64 N,.slice a' m' c'],.bool true])) ((u.setCell ⟨w.heap.size+1+1,0,none⟩ (.int .i64 N)).setCell ⟨w.heap.size+1+1,1,none⟩ (.slice a' m' c')):=by
 subst ho
 exact ⟨a',m',c',rfl,own_mono (own_setLow (own_setLow hown _ 0 _ (by omega)) _ 1 _ (by omega)) (by omega),(h.below.setCell (by show _≤w.heap.size+1+1;omega) _).setCell (by show _≤w.heap.size+1+1;omega) _⟩
theorem Es.take {w:World} {B:Nat} {a:Option Addr} {n:Nat} {es:List EdgeV} (h:Es w B a n es) {k:Nat} (hk:k≤n):Es w B a k (es.take k):=by
 have hl:=h.1
 refine ⟨by rw [List.length_take];omega,?_⟩
 rcases h.2 with h0 | ⟨b,off,ha,hb,hc⟩
 ·exact .inl (by omega)
 ·refine .inr ⟨b,off,ha,hb,fun j e he=>hc j e ?_⟩
  have hj:j<k:=by have:=(List.getElem?_eq_some_iff.1 he).1;rw [List.length_take] at this;omega
  rw [List.getElem?_take_of_lt hj] at he
  exact he
theorem Es.drop {w:World} {B b off:Nat} {n:Nat} {es:List EdgeV} (h:Es w B (some ⟨b,off,none⟩) n es) {k:Nat} (hk:k≤n):Es w B (some ⟨b,off+k*2,none⟩) (n - k) (es.drop k):=by
 have hl:=h.1
 refine ⟨by rw [List.length_drop];omega,?_⟩
 rcases h.2 with h0 | ⟨b',off',ha,hb,hc⟩
 ·exact .inl (by omega)
 ·simp at ha
  obtain ⟨rfl,rfl⟩:=ha
  refine .inr ⟨b,off+k*2,rfl,hb,fun j e he=>?_⟩
  rw [List.getElem?_drop] at he
  have h1:=hc (k+j) e he
  rw [show off+k*2+j*2=off+(k+j)*2 by omega]
  exact h1
theorem Es.none_of {w:World} {B:Nat} {a:Option Addr} {es:List EdgeV} (h:es.length=0):Es w B a 0 es:=⟨h,.inl rfl⟩
theorem Es.single (w:World) (f:EdgeV):Es (w.alloc (.cells #[.int .i64 f.1,.int .i64 f.2] 107)) (w.alloc (.cells #[.int .i64 f.1,.int .i64 f.2] 107)).heap.size (some ⟨w.heap.size,0,none⟩) 1 [f]:=by
 refine ⟨rfl,.inr ⟨w.heap.size,0,rfl,by simp,fun j e he=>?_⟩⟩
 cases j with
 | zero=>simp at he;subst he;simp
 | succ j=>simp at he
theorem gans_no {w u:World} {N:Int} {a:Option Addr} {n c:Nat} {f:EdgeV} (h:In3 w N a n c f u) {o:Option (List EdgeV)} (ho:o=none) :
  GAns w N o (.returned (.tuple #[.agg #[.int .i64 0,.slice none 0 0],.bool false])) ((u.setCell ⟨w.heap.size+1+1,0,none⟩ (.int .i64 0)).setCell ⟨w.heap.size+1+1,1,none⟩ (.slice none 0 0)):=by
 subst ho
 exact ⟨none,0,0,rfl,World.ownsRow_nil _ _ _ _,(h.below.setCell (by show _≤w.heap.size+1+1;omega) _).setCell (by show _≤w.heap.size+1+1;omega) _⟩
set_option maxRecDepth 100000 in
set_option maxHeartbeats 4000000 in
theorem iAddEdge_any (N:Int) (es:List EdgeV) (f:EdgeV) (n:Nat) (a:Option Addr) (c:Nat) (hsl:Sl a n c) (hn:n≤1048576) (w:World) (h:Es w w.heap.size a n es) :
  Calls Tryz.prog 135 #[.agg #[.int .i64 N,.slice a n c],.agg #[.int .i64 f.1,.int .i64 f.2]] w fun e w'=>GAns w N (addE N es f) e w':=by
 have hA:Hid (∀ u,In3 w N a n c f u→Es u u.heap.size a n es):=fun u hu=>h.up hu.below
 have HGO:Hid (∀ u,In3 w N a n c f u→Calls Tryz.prog 84 #[.agg #[.int .i64 N,.slice a n c]] u fun e v=>e=.returned (.bool (gB N es))∧In3 w N a n c f v):=fun u hu =>
  (iGraphOk_any N es n a c hn u (hA.out u hu)).mono fun _ _ ⟨he,hb⟩=>⟨he,hu.up hb⟩
 have HEO:Hid (∀ u,In3 w N a n c f u→Calls Tryz.prog 121 #[.int .i64 N,.agg #[.int .i64 f.1,.int .i64 f.2]] u fun e v=>e=.returned (.bool (eB N f))∧In3 w N a n c f v):=fun u hu =>
  (iEdgeOk_any N f u).mono fun _ _ ⟨he,hb⟩=>⟨he,hu.up hb⟩
 have HHE:Hid (∀ u,In3 w N a n c f u→Calls Tryz.prog 151 #[.agg #[.int .i64 N,.slice a n c],.agg #[.int .i64 f.1,.int .i64 f.2]] u fun e v=>e=.returned (.bool (hasB es f))∧In3 w N a n c f v):=fun u hu =>
  (iHasEdge_any N es f n a c hn u (hA.out u hu)).mono fun _ _ ⟨he,hb⟩=>⟨he,hu.up hb⟩
 have S1:=In3.start w N a n c f
 have HK:Hid (∀ u,In3 w N a n c f u→(u.cell? ⟨w.heap.size,0,none⟩=some (.int .i64 N)∧u.cell? ⟨w.heap.size,1,none⟩=some (.slice a n c))∧(u.cell? ⟨w.heap.size+1,0,none⟩=some (.int .i64 f.1)∧u.cell? ⟨w.heap.size+1,1,none⟩=some (.int .i64 f.2))):=fun u hu=>hu.cells
 cases hG:gB N es with
 | false =>
  rw [hG] at HGO
  have HO:=hideIt (show addE N es f=none by unfold addE;rw [hG,if_neg (by simp)])
  clear hG HEO HHE hsl h hA
  go_enter Tryz.func135,Tryz.ntmps135
  go_wp2_with (go_at_call 84;refine (HGO.out _ S1).mono ?_;rintro e w4 ⟨rfl,S4⟩;refine Hid.out ?_)
  refine (show ∀ {p:Prop},p→Hid p from fun h=>h) ?_
  obtain ⟨⟨r0,r1⟩,r2,r3⟩:=S4.out
  have s4:=S4.size
  go_wp2
  exact bodyPost_ret (v:=.tuple #[.agg #[.int .i64 0,.slice none 0 0],.bool false]) (by simp [results,Tryz.results135,go_sem,r0,r1]) rfl (gans_no S4 HO.out)
 | true =>
  rw [hG] at HGO
  cases hE:eB N f with
  | false =>
   rw [hE] at HEO
   have HO:=hideIt (show addE N es f=none by unfold addE;rw [hE,if_neg (by simp)])
   clear hG hE HHE hsl h hA
   go_enter Tryz.func135,Tryz.ntmps135
   go_wp2_with (go_at_call 84;refine (HGO.out _ S1).mono ?_;rintro e w4 ⟨rfl,S4⟩;refine Hid.out ?_)
   refine (show ∀ {p:Prop},p→Hid p from fun h=>h) ?_
   obtain ⟨⟨k0,k1⟩,k2,k3⟩:=HK.out _ S4
   go_wp2_with (go_at_call 121;refine (HEO.out _ S4).mono ?_;rintro e w5 ⟨rfl,S5⟩;refine Hid.out ?_)
   refine (show ∀ {p:Prop},p→Hid p from fun h=>h) ?_
   obtain ⟨⟨r0,r1⟩,r2,r3⟩:=S5.out
   have s5:=S5.size
   clear k0 k1 k2 k3
   go_wp2
   exact bodyPost_ret (v:=.tuple #[.agg #[.int .i64 0,.slice none 0 0],.bool false]) (by simp [results,Tryz.results135,go_sem,r0,r1]) rfl (gans_no S5 HO.out)
  | true =>
   rw [hE] at HEO
   cases hH:hasB es f with
   | true =>
    rw [hH] at HHE
    have HO:=hideIt (show addE N es f=none by unfold addE;rw [hH,if_neg (by simp)])
    clear hG hE hH hsl h hA
    go_enter Tryz.func135,Tryz.ntmps135
    go_wp2_with (go_at_call 84;refine (HGO.out _ S1).mono ?_;rintro e w4 ⟨rfl,S4⟩;refine Hid.out ?_)
    refine (show ∀ {p:Prop},p→Hid p from fun h=>h) ?_
    obtain ⟨⟨k0,k1⟩,k2,k3⟩:=HK.out _ S4
    go_wp2_with (go_at_call 121;refine (HEO.out _ S4).mono ?_;rintro e w5 ⟨rfl,S5⟩;refine Hid.out ?_)
    refine (show ∀ {p:Prop},p→Hid p from fun h=>h) ?_
    clear k0 k1 k2 k3
    obtain ⟨⟨k0,k1⟩,k2,k3⟩:=HK.out _ S5
    go_wp2_with (go_at_call 151;refine (HHE.out _ S5).mono ?_;rintro e w6 ⟨rfl,S6⟩;refine Hid.out ?_)
    refine (show ∀ {p:Prop},p→Hid p from fun h=>h) ?_
    obtain ⟨⟨r0,r1⟩,r2,r3⟩:=S6.out
    have s6:=S6.size
    clear k0 k1 k2 k3
    go_wp2
    exact bodyPost_ret (v:=.tuple #[.agg #[.int .i64 0,.slice none 0 0],.bool false]) (by simp [results,Tryz.results135,go_sem,r0,r1]) rfl (gans_no S6 HO.out)
   | false =>
    rw [hH] at HHE
    have HO:=hideIt (show addE N es f=some (putE es f) by unfold addE;rw [hG,hE,hH,if_pos (by simp)])
    have hasc:=asc_of_chk (gB_chk hG).2.1
    have hnot:f ∉ es:=fun hm=>by unfold hasB at hH;simp [hm] at hH
    have HBS:Hid (∀ u,In3 w N a n c f u→Calls Tryz.prog 152 #[.slice a n c,.agg #[.int .i64 f.1,.int .i64 f.2],.func (.func 122) #[] #[]] u fun x v=>∃ (p:Nat) (fb:Bool),x=.returned (.tuple #[.int .i64 (p:Int),.bool fb])∧Hid (Split es f p)∧In3 w N a n c f v):=fun u hu =>
     (BSF_any es hasc f n a c hn u (hA.out u hu)).mono fun _ _ ⟨p,fb,he,hs,hb⟩=>⟨p,fb,he,hs,hu.up hb⟩
    have HN:=hideIt hnot
    have HLn:Hid (es.length=n):=h.1
    clear hG hE hH h hasc hnot
    go_enter Tryz.func135,Tryz.ntmps135
    go_wp2_with (go_at_call 84;refine (HGO.out _ S1).mono ?_;rintro e w4 ⟨rfl,S4⟩;refine Hid.out ?_)
    refine (show ∀ {p:Prop},p→Hid p from fun h=>h) ?_
    obtain ⟨⟨k0,k1⟩,k2,k3⟩:=HK.out _ S4
    go_wp2_with (go_at_call 121;refine (HEO.out _ S4).mono ?_;rintro e w5 ⟨rfl,S5⟩;refine Hid.out ?_)
    refine (show ∀ {p:Prop},p→Hid p from fun h=>h) ?_
    clear k0 k1 k2 k3
    obtain ⟨⟨k0,k1⟩,k2,k3⟩:=HK.out _ S5
    go_wp2_with (go_at_call 151;refine (HHE.out _ S5).mono ?_;rintro e w6 ⟨rfl,S6⟩;refine Hid.out ?_)
    refine (show ∀ {p:Prop},p→Hid p from fun h=>h) ?_
    clear k0 k1 k2 k3
    obtain ⟨⟨k0,k1⟩,k2,k3⟩:=HK.out _ S6
    go_wp2_with (go_at_call 152;refine (HBS.out _ S6).mono ?_;rintro e w7 ⟨p,fb,rfl,hsp,S7⟩;refine Hid.out ?_)
    refine (show ∀ {p:Prop},p→Hid p from fun h=>h) ?_
    clear k0 k1 k2 k3 S4 S5 S6 S1 HGO HEO HHE HBS
    have hpn:p≤n:=by have:=hsp.out.1;have:=HLn.out;omega
    obtain ⟨hnc,hcm,hform⟩:=hsl
    unfold maxLen at hcm
    have HES:=hideIt (hA.out w7 S7)
    have z7:=S7.size
    have HES:=hideIt (hA.out w7 S7)
    have z7:=S7.size
    have HES:=hideIt (hA.out w7 S7)
    have z7:=S7.size
    rcases hform with ⟨rfl,rfl,rfl⟩ | ⟨b,off,rfl⟩
    ·obtain rfl:p=0:=by omega
     have S7d:=S7.drew
     have T1:In3 w N none 0 0 f (w7.alloc (.cells #[.int .i64 f.1,.int .i64 f.2] 107)).drew:=(S7.up ((Below.refl _ _).alloc (Nat.le_refl _) _)).drew
     have T2b:Below w7.heap.size w7 ((w7.alloc (.cells #[.int .i64 f.1,.int .i64 f.2] 107)).alloc (.cells #[.slice none 0 0,.slice (some ⟨w7.heap.size,0,none⟩) 1 1,.slice none 0 0] 25)).drew:=(((Below.refl _ _).alloc (Nat.le_refl _) _).alloc (by simp) _).drew
     have T2:=S7.up T2b
     have HCc:Hid (Calls Tryz.prog 107 #[.slice (some ⟨w7.heap.size+1,0,none⟩) 3 3] ((w7.alloc (.cells #[.int .i64 f.1,.int .i64 f.2] 107)).alloc (.cells #[.slice none 0 0,.slice (some ⟨w7.heap.size,0,none⟩) 1 1,.slice none 0 0] 25)).drew
       fun e v=>∃ a' m' c',e=.returned (.slice a' m' c')∧Hid (v.ownsRow (w7.heap.size+2) 107 2 (.slice a' m' c') m' (ecells (putE es f)))∧In3 w N none 0 0 f v):=by
      have e0:es=[]:=List.length_eq_zero_iff.1 HLn.out
      refine (Concat_any [⟨none,0,0,[]⟩,⟨some ⟨w7.heap.size,0,none⟩,1,1,[f]⟩,⟨none,0,0,[]⟩] (w7.heap.size+1) 3 rfl (by omega) _ ⟨by simp,fun j q hq=>?_⟩ (by simp [pLen])).mono fun e v ⟨a',m',c',he,ho,hb⟩=>⟨a',m',c',he,?_,T2.up hb⟩
      ·rcases j with _ | _ | _ | j
       ·simp at hq;subst hq
        exact ⟨by simp [go_sem],Es.none_of rfl,fun _=>⟨rfl,rfl⟩⟩
       ·simp at hq;subst hq
        refine ⟨by simp [go_sem],?_,fun h=>by cases h⟩
        exact (Es.single w7 f).up (((Below.refl _ _).alloc (Nat.le_refl _) _).drew)
       ·simp at hq;subst hq
        exact ⟨by simp [go_sem],Es.none_of rfl,fun _=>⟨rfl,rfl⟩⟩
       ·simp at hq
      ·have hp:pAll [⟨none,0,0,[]⟩,⟨some ⟨w7.heap.size,0,none⟩,1,1,[f]⟩,⟨none,0,0,[]⟩]=putE es f:=by rw [e0];simp [pAll,putE]
       rw [hp] at ho
       exact own_mono ho (by simp)
     clear hA HN
     go_wp2
     go_region_held3 (fun u=>(u.cell? ⟨w.heap.size,0,none⟩=some (.int .i64 N)∧u.cell? ⟨w.heap.size,1,none⟩=some (.slice none 0 0))∧(u.cell? ⟨w.heap.size+1,0,none⟩=some (.int .i64 f.1)∧u.cell? ⟨w.heap.size+1,1,none⟩=some (.int .i64 f.2)))
      (first | exact S8.cellsSet _ _ | exact HK.out _ S8 | exact HK.out _ T2 | exact HK.out _ T1 | exact HK.out _ S7d)
      ((go_at_call 107;refine HCc.out.mono ?_;rintro e w8 ⟨a',m',c',rfl,hown8,S8⟩;obtain ⟨⟨r0,r1⟩,r2,r3⟩:=S8.out))
     all_goals
      go_wp2
      exact bodyPost_ret (v:=.tuple #[.agg #[.int .i64 N,.slice a' m' c'],.bool true]) (by simp [results,Tryz.results135,go_sem,r0,r1]) rfl (gans_yes S8 HO.out (by omega) hown8.out)
    ·by_cases hcp:c=p
     ·obtain rfl:n=p:=by omega
      subst hcp
      have S7d:=S7.drew
      have b1:(0:Int)≤(c:Int):=by omega
      have T1:In3 w N (some ⟨b,off,none⟩) c c f (w7.alloc (.cells #[.int .i64 f.1,.int .i64 f.2] 107)).drew:=(S7.up ((Below.refl _ _).alloc (Nat.le_refl _) _)).drew
      have T2b:Below w7.heap.size w7 ((w7.alloc (.cells #[.int .i64 f.1,.int .i64 f.2] 107)).alloc (.cells #[.slice (some ⟨b,off,none⟩) c c,.slice (some ⟨w7.heap.size,0,none⟩) 1 1,.slice (some ⟨b,off,none⟩) 0 0] 25)).drew:=(((Below.refl _ _).alloc (Nat.le_refl _) _).alloc (by simp) _).drew
      have T2:=S7.up T2b
      have HCc:Hid (Calls Tryz.prog 107 #[.slice (some ⟨w7.heap.size+1,0,none⟩) 3 3] ((w7.alloc (.cells #[.int .i64 f.1,.int .i64 f.2] 107)).alloc (.cells #[.slice (some ⟨b,off,none⟩) c c,.slice (some ⟨w7.heap.size,0,none⟩) 1 1,.slice (some ⟨b,off,none⟩) 0 0] 25)).drew
        fun e v=>∃ a' m' c',e=.returned (.slice a' m' c')∧Hid (v.ownsRow (w7.heap.size+2) 107 2 (.slice a' m' c') m' (ecells (putE es f)))∧In3 w N (some ⟨b,off,none⟩) c c f v):=by
       have hE2:=HES.out.up T2b
       refine (Concat_any [⟨some ⟨b,off,none⟩,c,c,es.take c⟩,⟨some ⟨w7.heap.size,0,none⟩,1,1,[f]⟩,⟨some ⟨b,off,none⟩,0,0,es.drop c⟩] (w7.heap.size+1) 3 rfl (by omega) _ ⟨by simp,fun j q hq=>?_⟩ (by simp [pLen];omega)).mono fun e v ⟨a',m',c',he,ho,hb⟩=>⟨a',m',c',he,?_,T2.up hb⟩
       ·rcases j with _ | _ | _ | j
        ·simp at hq;subst hq
         exact ⟨by simp [go_sem],hE2.take (Nat.le_refl _),fun h=>by cases h⟩
        ·simp at hq;subst hq
         refine ⟨by simp [go_sem],?_,fun h=>by cases h⟩
         exact (Es.single w7 f).up (((Below.refl _ _).alloc (Nat.le_refl _) _).drew)
        ·simp at hq;subst hq
         exact ⟨by simp [go_sem],Es.none_of (by rw [List.length_drop];have:=HLn.out;omega),fun h=>by cases h⟩
        ·simp at hq
       ·have hp:pAll [⟨some ⟨b,off,none⟩,c,c,es.take c⟩,⟨some ⟨w7.heap.size,0,none⟩,1,1,[f]⟩,⟨some ⟨b,off,none⟩,0,0,es.drop c⟩]=putE es f:=by rw [put_split hsp.out HN.out];simp [pAll]
        rw [hp] at ho
        exact own_mono ho (by simp)
      clear hA HN
      go_wp2
      go_region_held3 (fun u=>(u.cell? ⟨w.heap.size,0,none⟩=some (.int .i64 N)∧u.cell? ⟨w.heap.size,1,none⟩=some (.slice (some ⟨b,off,none⟩) c c))∧(u.cell? ⟨w.heap.size+1,0,none⟩=some (.int .i64 f.1)∧u.cell? ⟨w.heap.size+1,1,none⟩=some (.int .i64 f.2)))
       (first | exact S8.cellsSet _ _ | exact HK.out _ S8 | exact HK.out _ T2 | exact HK.out _ T1 | exact HK.out _ S7d)
       ((go_at_call 107;refine HCc.out.mono ?_;rintro e w8 ⟨a',m',c',rfl,hown8,S8⟩;obtain ⟨⟨r0,r1⟩,r2,r3⟩:=S8.out))
      all_goals
       go_wp2
       exact bodyPost_ret (v:=.tuple #[.agg #[.int .i64 N,.slice a' m' c'],.bool true]) (by simp [results,Tryz.results135,go_sem,r0,r1]) rfl (gans_yes S8 HO.out (by omega) hown8.out)
     ·have S7d:=S7.drew
      have b1:(0:Int)≤(p:Int):=by omega
      have b2:(p:Int)≤(n:Int):=by omega
      have b3:(n:Int)≤(c:Int):=by omega
      have b4:(p:Int)≤(c:Int):=by omega
      have T1:In3 w N (some ⟨b,off,none⟩) n c f (w7.alloc (.cells #[.int .i64 f.1,.int .i64 f.2] 107)).drew:=(S7.up ((Below.refl _ _).alloc (Nat.le_refl _) _)).drew
      have T2b:Below w7.heap.size w7 ((w7.alloc (.cells #[.int .i64 f.1,.int .i64 f.2] 107)).alloc (.cells #[.slice (some ⟨b,off,none⟩) p c,.slice (some ⟨w7.heap.size,0,none⟩) 1 1,.slice (some ⟨b,off+p*2,none⟩) (n - p) (c - p)] 25)).drew:=(((Below.refl _ _).alloc (Nat.le_refl _) _).alloc (by simp) _).drew
      have T2:=S7.up T2b
      have HCc:Hid (Calls Tryz.prog 107 #[.slice (some ⟨w7.heap.size+1,0,none⟩) 3 3] ((w7.alloc (.cells #[.int .i64 f.1,.int .i64 f.2] 107)).alloc (.cells #[.slice (some ⟨b,off,none⟩) p c,.slice (some ⟨w7.heap.size,0,none⟩) 1 1,.slice (some ⟨b,off+p*2,none⟩) (n - p) (c - p)] 25)).drew
        fun e v=>∃ a' m' c',e=.returned (.slice a' m' c')∧Hid (v.ownsRow (w7.heap.size+2) 107 2 (.slice a' m' c') m' (ecells (putE es f)))∧In3 w N (some ⟨b,off,none⟩) n c f v):=by
       have hE2:=HES.out.up T2b
       refine (Concat_any [⟨some ⟨b,off,none⟩,p,c,es.take p⟩,⟨some ⟨w7.heap.size,0,none⟩,1,1,[f]⟩,⟨some ⟨b,off+p*2,none⟩,n - p,c - p,es.drop p⟩] (w7.heap.size+1) 3 rfl (by omega) _ ⟨by simp,fun j q hq=>?_⟩ (by simp [pLen];omega)).mono fun e v ⟨a',m',c',he,ho,hb⟩=>⟨a',m',c',he,?_,T2.up hb⟩
       ·rcases j with _ | _ | _ | j
        ·simp at hq;subst hq
         exact ⟨by simp [go_sem],hE2.take hpn,fun h=>by cases h⟩
        ·simp at hq;subst hq
         refine ⟨by simp [go_sem],?_,fun h=>by cases h⟩
         exact (Es.single w7 f).up (((Below.refl _ _).alloc (Nat.le_refl _) _).drew)
        ·simp at hq;subst hq
         exact ⟨by simp [go_sem],hE2.drop hpn,fun h=>by cases h⟩
        ·simp at hq
       ·have hp:pAll [⟨some ⟨b,off,none⟩,p,c,es.take p⟩,⟨some ⟨w7.heap.size,0,none⟩,1,1,[f]⟩,⟨some ⟨b,off+p*2,none⟩,n - p,c - p,es.drop p⟩]=putE es f:=by rw [put_split hsp.out HN.out];simp [pAll]
        rw [hp] at ho
        exact own_mono ho (by simp)
      clear hA HN
      go_wp2
      go_region_held3 (fun u=>(u.cell? ⟨w.heap.size,0,none⟩=some (.int .i64 N)∧u.cell? ⟨w.heap.size,1,none⟩=some (.slice (some ⟨b,off,none⟩) n c))∧(u.cell? ⟨w.heap.size+1,0,none⟩=some (.int .i64 f.1)∧u.cell? ⟨w.heap.size+1,1,none⟩=some (.int .i64 f.2)))
       (first | exact S8.cellsSet _ _ | exact HK.out _ S8 | exact HK.out _ T2 | exact HK.out _ T1 | exact HK.out _ S7d)
       ((go_at_call 107;refine HCc.out.mono ?_;rintro e w8 ⟨a',m',c',rfl,hown8,S8⟩;obtain ⟨⟨r0,r1⟩,r2,r3⟩:=S8.out))
      all_goals
       go_wp2
       exact bodyPost_ret (v:=.tuple #[.agg #[.int .i64 N,.slice a' m' c'],.bool true]) (by simp [results,Tryz.results135,go_sem,r0,r1]) rfl (gans_yes S8 HO.out (by omega) hown8.out)
theorem Good.set {w u:World} (h:Good w u) (b j:Nat) (v:Value) (hb:w.heap.size≤b):Good w (u.setCell ⟨b,j,none⟩ v):=Below.setCell h (p:=⟨b,j,none⟩) hb v
theorem own_up {w w':World} {B e s n:Nat} {v:Value} {xs:List Value} (h:w.ownsRow B e s v n xs) (hb:Below w.heap.size w w'):w'.ownsRow B e s v n xs :=
 World.ownsRow.kept h (grown_of_below hb none) (by cases hv:v.ownBlock <;> simp)
def Is (w:World) (B:Nat) (a:Option Addr) (n:Nat) (ls:List Int):Prop :=
 ls.length=n∧(n=0∨∃ b off,a=some ⟨b,off,none⟩∧b<B∧∀ (j:Nat) (x:Int),ls[j]?=some x→w.cell? ⟨b,off+j,none⟩=some (.int .i64 x))
theorem Is.below {w w':World} {B C:Nat} {a:Option Addr} {n:Nat} {ls:List Int} (h:Is w B a n ls) (hb:Below C w w') (hB:B≤C):Is w' B a n ls:=by
 refine ⟨h.1,h.2.imp id ?_⟩
 rintro ⟨b,off,h1,h2,h3⟩
 exact ⟨b,off,h1,h2,fun j x hx=>by rw [hb.cell (p:=⟨b,_,none⟩) (by show b<_;omega)];exact h3 j x hx⟩
theorem Is.mono {w:World} {B C:Nat} {a:Option Addr} {n:Nat} {ls:List Int} (h:Is w B a n ls) (hB:B≤C):Is w C a n ls:=by
 refine ⟨h.1,h.2.imp id ?_⟩
 rintro ⟨b,off,h1,h2,h3⟩
 exact ⟨b,off,h1,by omega,h3⟩
theorem Is.up {w w':World} {a:Option Addr} {n:Nat} {ls:List Int} (h:Is w w.heap.size a n ls) (hb:Below w.heap.size w w'):Is w' w'.heap.size a n ls :=
 (h.below hb (Nat.le_refl _)).mono hb.size
def ic (ls:List Int):List Value:=ls.map fun x=>Value.int .i64 x
theorem ic_len (ls:List Int):(ic ls).length=ls.length:=by simp [ic]
theorem ic_snoc (ls:List Int) (x:Int):ic (ls ++ [x])=ic ls ++ [.int .i64 x]:=by simp [ic]
theorem ic_at {ls:List Int} {j:Nat} {x:Int} (h:ls[j]?=some x):(ic ls)[j]?=some (.int .i64 x):=by rw [ic,List.getElem?_map,h];rfl
theorem info3i:(Tryz.prog.info? 3).map (fun i=>(i.zero,i.size,i.bytes))=some (some (.int .i64 0),1,8):=by kernel_rfl
def IAns (w:World) (ls:List Int) (e:Ending) (w':World):Prop :=
 ∃ a m c,e=.returned (.slice a m c)∧w'.ownsRow w.heap.size 3 1 (.slice a m c) m (ic ls)∧Below w.heap.size w w'
structure ISt (wb:World) (a:Option Addr) (m c:Nat) (ls:List Int) (u:World):Prop where
 own:u.ownsRow wb.heap.size 3 1 (.slice a m c) m (ic ls)
 bel:Below wb.heap.size wb u
theorem ISt.size {wb:World} {a:Option Addr} {m c:Nat} {ls:List Int} {u:World} (h:ISt wb a m c ls u):wb.heap.size≤u.heap.size:=h.bel.size
theorem ISt.app {wb:World} {a:Option Addr} {m c:Nat} {ls:List Int} {u:World} (h:ISt wb a m c ls u) {x:Int} {o:Obj} {v:Value} {u':World}
  (ho:u'.ownsRow wb.heap.size 3 1 v (m+1) (ic ls ++ [.int .i64 x])) (hg:(u.alloc o).grownBy u' (Value.slice a m c).ownBlock) :
  ∃ a' c',v=.slice a' (m+1) c'∧ISt wb a' (m+1) c' (ls ++ [x]) u':=by
 obtain ⟨a',c',rfl⟩:=own_form ho
 rw [← ic_snoc] at ho
 refine ⟨a',c',rfl,ho,?_⟩
 exact (h.bel.alloc h.size _).grown hg (by have:=h.size;simp;omega) (fun j hj=>(h.own.lt j hj).1)
theorem ISt.start (wb:World):ISt wb (some ⟨wb.heap.size,0,none⟩) 0 0 [] (wb.alloc (.cells #[] 3)):=by
 refine ⟨?_,(Below.refl _ _).alloc (Nat.le_refl _) _⟩
 have h0:=World.ownsRow_lit (base:=wb.heap.size) (e:=3) (size:=1) wb #[] 0 (Nat.le_refl _) (by unfold maxLen;omega) (by simp)
 simpa [ic] using h0
theorem newsI (w:World) (x:Int):∀ j u,([Value.int .i64 x]:List Value)[j]?=some u→(w.alloc (.cells #[.int .i64 x] 3)).cell? ((⟨w.heap.size,0,none⟩:Addr).add j)=some u:=by
 intro j u hj
 rcases j with _ | j
 ·simp at hj;subst hj;simp [Addr.add]
 ·simp at hj
def wG (w:World) (N:Int) (a:Option Addr) (n c:Nat):World:=w.alloc (.cells #[.int .i64 N,.slice a n c] 104)
theorem wG_size (w:World) (N:Int) (a:Option Addr) (n c:Nat):(wG w N a n c).heap.size=w.heap.size+1:=by simp [wG]
theorem wG_below (w:World) (N:Int) (a:Option Addr) (n c:Nat):Below w.heap.size w (wG w N a n c):=(Below.refl _ _).alloc (Nat.le_refl _) _
def InG (w:World) (N:Int) (a:Option Addr) (n c:Nat) (u:World):Prop:=Good (wG w N a n c) u
theorem InG.start (w:World) (N:Int) (a:Option Addr) (n c:Nat):InG w N a n c (wG w N a n c):=Good.refl _
theorem InG.up {w:World} {N:Int} {a:Option Addr} {n c:Nat} {u v:World} (h:InG w N a n c u) (hb:Below u.heap.size u v):InG w N a n c v:=Good.up h hb
theorem InG.below {w:World} {N:Int} {a:Option Addr} {n c:Nat} {u:World} (h:InG w N a n c u):Below w.heap.size w u:=(wG_below w N a n c).trans (Below.mono h (by rw [wG_size];omega))
theorem InG.size {w:World} {N:Int} {a:Option Addr} {n c:Nat} {u:World} (h:InG w N a n c u):w.heap.size+1≤u.heap.size:=by have:=Good.size h;rw [wG_size] at this;exact this
theorem InG.cells {w:World} {N:Int} {a:Option Addr} {n c:Nat} {u:World} (h:InG w N a n c u):u.cell? ⟨w.heap.size,0,none⟩=some (.int .i64 N)∧u.cell? ⟨w.heap.size,1,none⟩=some (.slice a n c):=by
 have hs:=wG_size w N a n c
 refine ⟨?_,?_⟩
 ·rw [Good.cell h (by omega)];simp [wG]
 ·rw [Good.cell h (by omega)];simp [wG]
theorem ians_nil {w u:World} (h:Below w.heap.size w u):IAns w [] (.returned (.slice none 0 0)) u:=⟨none,0,0,rfl,World.ownsRow_nil _ _ _ _,h⟩
end Go.Proofs.YtnagchanokbgdaaGreat.O
namespace Go.Proofs.YtnagchanokbgdaaGreat.O
theorem eB_iff (n:Int) (e:EdgeV):eB n e=true↔(1≤n∧n≤12∧0≤e.1∧e.1<e.2∧e.2<n):=by unfold eB;rw [decide_eq_true_iff]
end Go.Proofs.YtnagchanokbgdaaGreat.O
