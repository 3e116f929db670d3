/- Lists of tours in memory; what a right forest is: pure. A list of tours in memory, each in a block of its own. Rows of numbers, marked one behind the other: pure. toIntS: a list of ints laid anew. The laws' own functions over forests. Lists of what is said, in memory; the laws' own functions over them. -/
import Derived.Test.YtnagchanokbgdaaGreatJVerts
import Derived.Deep.RegionHeld3
namespace Go.Proofs.YtnagchanokbgdaaGreat
open Go.RowKit
def Ts (w:World) (B:Nat) (a:Option Addr) (n:Nat) (ts:List (List Int)):Prop :=
 ts.length=n∧(n=0∨∃ b off,a=some ⟨b,off,none⟩∧b<B∧∀ (j:Nat) (t:List Int),ts[j]?=some t →
  ∃ (a':Option Addr) (c':Nat),w.cell? ⟨b,off+j,none⟩=some (.slice a' t.length c')∧Is w B a' t.length t∧t.length≤c')
theorem Ts.below {w w':World} {B C:Nat} {a:Option Addr} {n:Nat} {ts:List (List Int)} (h:Ts w B a n ts) (hb:Below C w w') (hB:B≤C):Ts w' B a n ts:=by
 refine ⟨h.1,h.2.imp id ?_⟩
 rintro ⟨b,off,ha,hbl,hc⟩
 refine ⟨b,off,ha,hbl,fun j t ht=>?_⟩
 obtain ⟨a',c',h1,h2,h3⟩:=hc j t ht
 exact ⟨a',c',by rw [hb.cell (p:=⟨b,_,none⟩) (by show b<C;omega)];exact h1,h2.below hb hB,h3⟩
theorem Ts.mono {w:World} {B C:Nat} {a:Option Addr} {n:Nat} {ts:List (List Int)} (h:Ts w B a n ts) (hB:B≤C):Ts w C a n ts:=by
 refine ⟨h.1,h.2.imp id ?_⟩
 rintro ⟨b,off,ha,hbl,hc⟩
 refine ⟨b,off,ha,by omega,fun j t ht=>?_⟩
 obtain ⟨a',c',h1,h2,h3⟩:=hc j t ht
 exact ⟨a',c',h1,h2.mono hB,h3⟩
theorem Ts.up {w w':World} {a:Option Addr} {n:Nat} {ts:List (List Int)} (h:Ts w w.heap.size a n ts) (hb:Below w.heap.size w w'):Ts w' w'.heap.size a n ts:=(h.below hb (Nat.le_refl _)).mono hb.size
structure Rw where
 g:Nat
 cp:Nat
 t:List Int
def Rw.hdr (r:Rw):Value:=.slice (some ⟨r.g,0,none⟩) r.t.length r.cp
def rts (R:List Rw):List (List Int):=R.map Rw.t
def rhs (R:List Rw):List Value:=R.map Rw.hdr
theorem rts_len (R:List Rw):(rts R).length=R.length:=by simp [rts]
theorem rts_at {R:List Rw} {j:Nat} {r:Rw} (h:R[j]?=some r):(rts R)[j]?=some r.t:=by simp [rts,h]
theorem rhs_at {R:List Rw} {j:Nat} {r:Rw} (h:R[j]?=some r):(rhs R)[j]?=some r.hdr:=by simp [rhs,h]
theorem rhs_snoc (R:List Rw) (r:Rw):rhs (R ++ [r])=rhs R ++ [r.hdr]:=by simp [rhs]
theorem rts_snoc (R:List Rw) (r:Rw):rts (R ++ [r])=rts R ++ [r.t]:=by simp [rts]
abbrev RwB (u:World) (r:Rw):Prop:=RBox u r.g (r.g+1) (some ⟨r.g,0,none⟩) r.t.length r.cp r.t
theorem RwB.of_own {u:World} {B g m c:Nat} {t:List Int} (h:u.ownsRow B 3 1 (.slice (some ⟨g,0,none⟩) m c) m (ic t)):RwB u ⟨g,c,t⟩:=by
 have hl:=h.1
 rw [ic_len] at hl
 have hm:m=t.length:=by omega
 subst hm
 have hlt:=h.lt g rfl
 refine ⟨⟨h.1,?_⟩,fun x hx=>by simp [Value.ownBlock] at hx;show x<g+1;omega,by show g+1≤_;omega⟩
 rcases h.2 with ⟨hv,_⟩ | ⟨g2,cap,cur,hv,hb,hrest⟩
 ·simp at hv
 ·simp at hv
  obtain ⟨rfl,rfl⟩:=hv
  exact .inr ⟨g,c,cur,rfl,Nat.le_refl _,hrest⟩
theorem RwB.cap {u:World} {r:Rw} (h:RwB u r):r.t.length≤r.cp:=by
 rcases h.own.2 with ⟨hv,_⟩ | ⟨g2,cap,cur,hv,hb,hg,hnc,_⟩
 ·simp at hv
 ·simp only [Value.slice.injEq,Option.some.injEq,Addr.mk.injEq,and_true,true_and] at hv
  obtain ⟨rfl,rfl⟩:=hv
  exact hnc
theorem RwB.lt {u:World} {r:Rw} (h:RwB u r):r.g<u.heap.size:=(h.own.lt r.g rfl).2
theorem RwB.blk {u:World} {r:Rw} (h:RwB u r):∃ cur,u.heap[r.g]?=some (.cells cur 3 (0,0)):=by
 rcases h.own.2 with ⟨hv,_⟩ | ⟨g2,cap,cur,hv,hb,hg,hnc,_⟩
 ·simp at hv
 ·simp only [Value.slice.injEq,Option.some.injEq,Addr.mk.injEq,and_true,true_and] at hv
  obtain ⟨rfl,rfl⟩:=hv
  exact ⟨cur,hg⟩
theorem RwB.grown {u v:World} {r:Rw} {row:Option Nat} (h:RwB u r) (hg:u.grownBy v row) (hr:row≠some r.g):RwB v r :=
 ⟨h.own.kept hg (.inr (by simp [Value.ownBlock];exact fun e=>hr e.symm)),h.row,Nat.le_trans h.there hg.size⟩
structure FB (u:World) (lo hi:Nat) (a:Option Addr) (n c:Nat) (R:List Rw):Prop where
 len:R.length=n
 own:u.ownsRow lo 24 1 (.slice a n c) n (rhs R)
 row:∀ g,(Value.slice a n c).ownBlock=some g→g<hi
 there:hi≤u.heap.size
 ins:∀ r ∈ R,RwB u r∧lo≤r.g∧r.g<hi
 nod:R.Pairwise fun r s=>r.g≠s.g
theorem own_blk {u:World} {lo e s g n c:Nat} {xs:List Value} (h:u.ownsRow lo e s (.slice (some ⟨g,0,none⟩) n c) n xs):∃ cur,u.heap[g]?=some (.cells cur e (0,0)):=by
 rcases h.2 with ⟨hv,_⟩ | ⟨g2,cap,cur,hv,hb,hg,hnc,_⟩
 ·simp at hv
 ·simp only [Value.slice.injEq,Option.some.injEq,Addr.mk.injEq,and_true,true_and] at hv
  obtain ⟨rfl,rfl⟩:=hv
  exact ⟨cur,hg⟩
theorem own_ne {u:World} {lo s g n c:Nat} {xs:List Value} {r:Rw} (h:u.ownsRow lo 24 s (.slice (some ⟨g,0,none⟩) n c) n xs) (hr:RwB u r):g≠r.g:=by
 obtain ⟨c1,h1⟩:=own_blk h
 obtain ⟨c2,h2⟩:=hr.blk
 intro e
 rw [e,h2] at h1
 simp at h1
theorem own_ne' {u:World} {lo s n:Nat} {v:Value} {xs:List Value} {r:Rw} (h:u.ownsRow lo 24 s v n xs) (hr:RwB u r):v.ownBlock≠some r.g:=by
 rcases h.2 with ⟨rfl,_⟩ | ⟨g,cap,cur,rfl,_⟩
 ·simp [Value.ownBlock]
 ·intro e
  simp [Value.ownBlock] at e
  exact own_ne h hr e
theorem own_rng {u v:World} {lo e s l2 h2 n:Nat} {x:Value} {xs:List Value} (h:u.ownsRow lo e s x n xs) (hr:Rng l2 h2 u v) (ho:∀ g,x.ownBlock=some g→g<l2∨h2≤g):v.ownsRow lo e s x n xs:=by
 refine ⟨h.1,?_⟩
 rcases h.2 with h3 | ⟨g,cap,cur,hv,hg,hcur,hrest⟩
 ·exact .inl h3
 ·have hgl:=h.lt g (by rw [hv];rfl)
  refine .inr ⟨g,cap,cur,hv,hg,?_,hrest⟩
  rw [hr.block g (by omega) (ho g (by rw [hv];rfl))]
  exact hcur
theorem FB.rng {u v:World} {lo hi l2 h2:Nat} {a:Option Addr} {n c:Nat} {R:List Rw} (h:FB u lo hi a n c R) (hr:Rng l2 h2 u v) (ho:hi≤l2∨h2≤lo):FB v lo hi a n c R:=by
 refine ⟨h.len,own_rng h.own hr (fun g hg=>by have:=h.row g hg;have:=(h.own.lt g hg).1;omega),h.row,Nat.le_trans h.there hr.size,fun r hr2=>?_,h.nod⟩
 have hb:=h.ins r hr2
 exact ⟨hb.1.rng hr (by omega),hb.2⟩
theorem FB.up {u v:World} {lo hi:Nat} {a:Option Addr} {n c:Nat} {R:List Rw} (h:FB u lo hi a n c R) (hb:Below u.heap.size u v):FB v lo hi a n c R :=
 h.rng (l2:=hi) (h2:=hi) (Rng.of_below hb) (.inl (Nat.le_refl _))
theorem FB.hi {u:World} {lo hi hi':Nat} {a:Option Addr} {n c:Nat} {R:List Rw} (h:FB u lo hi a n c R) (h1:hi≤hi') (h2:hi'≤u.heap.size):FB u lo hi' a n c R :=
 ⟨h.len,h.own,fun g hg=>Nat.lt_of_lt_of_le (h.row g hg) h1,h2,fun r hr=>⟨(h.ins r hr).1,(h.ins r hr).2.1,Nat.lt_of_lt_of_le (h.ins r hr).2.2 h1⟩,h.nod⟩
theorem FB.lo {u:World} {lo lo' hi:Nat} {a:Option Addr} {n c:Nat} {R:List Rw} (h:FB u lo hi a n c R) (h1:lo'≤lo):FB u lo' hi a n c R :=
 ⟨h.len,own_mono h.own h1,h.row,h.there,fun r hr=>⟨(h.ins r hr).1,Nat.le_trans h1 (h.ins r hr).2.1,(h.ins r hr).2.2⟩,h.nod⟩
theorem FB.ts {u:World} {lo hi:Nat} {a:Option Addr} {n c:Nat} {R:List Rw} (h:FB u lo hi a n c R):Ts u u.heap.size a n (rts R):=by
 refine ⟨by rw [rts_len];exact h.len,?_⟩
 rcases h.own.2 with ⟨_,h0⟩ | ⟨g,cap,cur,hv,hg,hcur,hrest⟩
 ·exact .inl h0
 ·simp at hv
  obtain ⟨rfl,rfl⟩:=hv
  refine .inr ⟨g,0,rfl,(h.own.lt g rfl).2,fun j t ht=>?_⟩
  have hj:j<R.length:=by rw [← rts_len];exact (List.getElem?_eq_some_iff.1 ht).1
  have hr:R[j]?=some R[j]:=List.getElem?_eq_getElem hj
  have e:=rts_at hr
  rw [ht] at e
  obtain rfl:=Option.some.inj e
  have hi2:=h.ins _ (List.mem_of_getElem? hr)
  refine ⟨some ⟨R[j].g,0,none⟩,R[j].cp,?_,hi2.1.is,hi2.1.cap⟩
  rw [Nat.zero_add,h.own.cellAt j (by have:=h.len;omega)]
  exact rhs_at hr
theorem FB.turn {u v:World} {lo hi:Nat} {a:Option Addr} {n c:Nat} {P S:List Rw} {r:Rw} (h:FB u lo hi a n c (P ++ r :: S)) {s:List Int} (hl:s.length=r.t.length)
  (hr:Rng r.g (r.g+1) u v) (hs:RBox v r.g (r.g+1) (some ⟨r.g,0,none⟩) r.t.length r.cp s):FB v lo hi a n c (P ++ ⟨r.g,r.cp,s⟩ :: S):=by
 have hn:=List.pairwise_append.1 h.nod
 have hn2:=List.pairwise_cons.1 hn.2.1
 have hri:=h.ins r (by simp)
 refine ⟨by have:=h.len;simp at this ⊢;omega,?_,h.row,Nat.le_trans h.there hr.size,fun x hx=>?_,?_⟩
 ·have e:rhs (P ++ ⟨r.g,r.cp,s⟩ :: S)=rhs (P ++ r :: S):=by simp [rhs,Rw.hdr,hl]
  rw [e]
  exact own_rng h.own hr (fun g hg=>by have:=own_ne' h.own hri.1;rw [hg] at this;simp at this;omega)
 ·rcases List.mem_append.1 hx with hx | hx
  ·have hne:=hn.2.2 x hx r (by simp)
   have hi2:=h.ins x (by simp [hx])
   exact ⟨hi2.1.rng hr (by omega),hi2.2⟩
  ·rcases List.mem_cons.1 hx with rfl | hx
   ·refine ⟨?_,hri.2⟩
    show RBox v r.g (r.g+1) _ s.length r.cp s
    rw [hl]
    exact hs
   ·have hne:=hn2.1 x hx
    have hi2:=h.ins x (by simp [hx])
    exact ⟨hi2.1.rng hr (by omega),hi2.2⟩
 ·rw [List.pairwise_append,List.pairwise_cons]
  refine ⟨hn.1,⟨fun x hx=>hn2.1 x hx,hn2.2⟩,fun x hx y hy=>?_⟩
  rcases List.mem_cons.1 hy with rfl | hy
  ·exact hn.2.2 x hx r (by simp)
  ·exact hn.2.2 x hx y (by simp [hy])
theorem FB.app {u u':World} {lo:Nat} {a:Option Addr} {n c:Nat} {R:List Rw} (h:FB u lo u.heap.size a n c R) {r:Rw} (hr:RwB u r) (hl:lo≤r.g) (hne:∀ x ∈ R,x.g≠r.g) {o:Obj} {v:Value}
  (ho:u'.ownsRow lo 24 1 v (n+1) (rhs R ++ [r.hdr])) (hg:(u.alloc o).grownBy u' (Value.slice a n c).ownBlock):∃ a' c',v=.slice a' (n+1) c'∧FB u' lo u'.heap.size a' (n+1) c' (R ++ [r]):=by
 obtain ⟨a',c',rfl⟩:=own_form ho
 have hsz:=hg.size
 have hkeep:∀ x,RwB u x→RwB u' x:=fun x hx=>by
  have hx2:RwB (u.alloc o) x:=hx.rng (l2:=x.g+1) (h2:=x.g+1) (Rng.of_below ((Below.refl _ _).alloc (Nat.le_refl _) _)) (.inl (Nat.le_refl _))
  exact hx2.grown hg (own_ne' h.own hx)
 refine ⟨a',c',rfl,by simp [h.len],by rw [rhs_snoc];exact ho,fun g hg2=>(ho.lt g hg2).2,Nat.le_refl _,fun x hx=>?_,?_⟩
 ·rcases List.mem_append.1 hx with hx | hx
  ·have:=h.ins x hx
   have h2:=hkeep x this.1
   exact ⟨h2,this.2.1,h2.lt⟩
  ·simp at hx
   subst hx
   have h2:=hkeep x hr
   exact ⟨h2,hl,h2.lt⟩
 ·rw [List.pairwise_append]
  refine ⟨h.nod,by simp,fun x hx y hy=>?_⟩
  simp at hy
  subst hy
  exact hne x hx
theorem FB.setLow {u:World} {lo hi:Nat} {a:Option Addr} {n c:Nat} {R:List Rw} (h:FB u lo hi a n c R) {x:Nat} (hx:x<lo) (j:Nat) (v:Value):FB (u.setCell ⟨x,j,none⟩ v) lo hi a n c R :=
 h.rng (l2:=x) (h2:=x+1) ⟨rfl,rfl,rfl,by simp [World.setCell],fun k _ hk=>heap_setCell_other u ⟨x,j,none⟩ k v (by show k≠x;omega)⟩ (.inr hx)
theorem FB.nil (u:World) (lo:Nat):FB u lo u.heap.size none 0 0 []:=⟨rfl,World.ownsRow_nil _ _ _ _,fun g hg=>by simp [Value.ownBlock] at hg,Nat.le_refl _,by simp,List.Pairwise.nil⟩
theorem FB.keep {u v:World} {lo:Nat} {a:Option Addr} {n c:Nat} {R:List Rw} (h:FB u lo u.heap.size a n c R) (hb:Below u.heap.size u v):FB v lo v.heap.size a n c R :=
 (h.up hb).hi hb.size (Nat.le_refl _)
def rn:List Rw→Nat
 | []=>0
 | r :: R=>r.t.length+rn R
theorem rn_app (P S:List Rw):rn (P ++ S)=rn P+rn S:=by
 induction P with
 | nil=>simp [rn]
 | cons r P ih=>simp only [List.cons_append,rn,ih];omega
def mkR:Nat→List Rw→List Rw
 | _,[]=>[]
 | k,r :: R=>⟨r.g,r.cp,imarks k r.t.length⟩ :: mkR (k+r.t.length) R
theorem imarks_len (k n:Nat):(imarks k n).length=n:=by simp [imarks]
theorem mkR_len (k:Nat) (R:List Rw):(mkR k R).length=R.length:=by
 induction R generalizing k with
 | nil=>rfl
 | cons r R ih=>simp [mkR,ih]
theorem mkR_snoc (k:Nat) (P:List Rw) (r:Rw):mkR k (P ++ [r])=mkR k P ++ [⟨r.g,r.cp,imarks (k+rn P) r.t.length⟩]:=by
 induction P generalizing k with
 | nil=>simp [mkR,rn]
 | cons x P ih=>simp only [List.cons_append,mkR,ih,rn,Nat.add_assoc]
theorem mkR_at {k j:Nat} {R:List Rw} {r:Rw} (h:R[j]?=some r):(mkR k R)[j]?=some ⟨r.g,r.cp,imarks (k+rn (R.take j)) r.t.length⟩:=by
 induction R generalizing k j with
 | nil=>simp at h
 | cons x R ih =>
  cases j with
  | zero=>simp at h;subst h;simp [mkR,rn]
  | succ j =>
   simp at h
   simp only [mkR,List.getElem?_cons_succ,List.take_succ_cons,rn]
   rw [ih h,Nat.add_assoc]
theorem split_at {α:Type} {R:List α} {i:Nat} {r:α} (h:R[i]?=some r):R.drop i=r :: R.drop (i+1):=by
 obtain ⟨hi,rfl⟩:=List.getElem?_eq_some_iff.1 h
 exact List.drop_eq_getElem_cons hi
theorem rn_take {R:List Rw} {i:Nat} {r:Rw} (h:R[i]?=some r):rn (R.take (i+1))=rn (R.take i)+r.t.length:=by
 rw [take_snocF R i r h,rn_app]
 simp [rn]
theorem rn_take_le (R:List Rw) (i:Nat):rn (R.take i)≤rn R:=by
 have:=rn_app (R.take i) (R.drop i)
 rw [List.take_append_drop] at this
 omega
theorem rn_at {R:List Rw} {i:Nat} {r:Rw} (h:R[i]?=some r):rn (R.take i)+r.t.length≤rn R:=by
 rw [← rn_take h]
 exact rn_take_le R (i+1)
def lnS (ts:List (List Int)):Nat:=(ts.map List.length).sum
theorem lnS_snoc (ts:List (List Int)) (t:List Int):lnS (ts ++ [t])=lnS ts+t.length:=by simp [lnS]
theorem lnS_take {ts:List (List Int)} {k:Nat} {t:List Int} (h:ts[k]?=some t):lnS (ts.take (k+1))=lnS (ts.take k)+t.length:=by
 rw [take_snocF ts k t h,lnS_snoc]
theorem lnS_take_le (ts:List (List Int)) (k:Nat):lnS (ts.take k)≤lnS ts:=by
 have:lnS ts=lnS (ts.take k)+lnS (ts.drop k):=by
  conv=>lhs;rw [← List.take_append_drop k ts]
  rw [lnS,List.map_append,List.sum_append]
  rfl
 omega
theorem lnS_at {ts:List (List Int)} {k:Nat} {t:List Int} (h:ts[k]?=some t):lnS (ts.take k)+t.length≤lnS ts:=by
 rw [← lnS_take h]
 exact lnS_take_le ts (k+1)
theorem rn_lnS (R:List Rw):rn R=lnS (rts R):=by
 induction R with
 | nil=>rfl
 | cons r R ih=>simp only [rn,ih];simp [lnS,rts]
theorem infoIT:(Tryz.prog.info? 24).map (fun i=>(i.zero,i.size,i.bytes))=some (some (.slice none 0 0),1,24):=by kernel_rfl
structure FMk (w:World) (n:Nat) (R:List Rw) (u:World):Prop where
 xs:∃ xs:List Value,u.ownsRow w.heap.size 24 1 (.slice (some ⟨w.heap.size,0,none⟩) n n) n xs∧xs.take R.length=rhs R
 ins:∀ r ∈ R,RwB u r∧w.heap.size<r.g
 nod:R.Pairwise fun r s=>r.g≠s.g
 bel:Below w.heap.size w u
theorem FMk.fb {w u:World} {n:Nat} {R:List Rw} (h:FMk w n R u) (hn:R.length=n):FB u w.heap.size u.heap.size (some ⟨w.heap.size,0,none⟩) n n R:=by
 obtain ⟨xs,h1,h2⟩:=h.xs
 have hl:=h1.1
 rw [List.take_of_length_le (by omega)] at h2
 subst h2
 exact ⟨hn,h1,fun g hg=>(h1.lt g hg).2,Nat.le_refl _,fun r hr=>⟨(h.ins r hr).1,by have:=(h.ins r hr).2;omega,(h.ins r hr).1.lt⟩,h.nod⟩
theorem FMk.add {w u v:World} {n:Nat} {R:List Rw} (h:FMk w n R u) {r:Rw} (hk:R.length<n) (hb:Below u.heap.size u v) (hr:RwB v r) (hg:u.heap.size≤r.g):FMk w n (R ++ [r]) (v.setCell ⟨w.heap.size,R.length,none⟩ r.hdr):=by
 obtain ⟨xs,h1,h2⟩:=h.xs
 have h3:=own_up h1 hb
 have hst:=h3.stored R.length r.hdr
 have hl:=h1.1
 have hsz:=(h1.lt w.heap.size rfl).2
 have hkeep:∀ x,RwB v x→RwB (v.setCell ⟨w.heap.size,R.length,none⟩ r.hdr) x:=fun x hx=>hx.grown (grownSet v w.heap.size R.length r.hdr) (fun e=>own_ne h3 hx (by simpa using e))
 refine ⟨⟨_,hst.1,?_⟩,fun x hx=>?_,?_,?_⟩
 ·rw [List.length_append,List.length_cons,List.length_nil,Nat.zero_add,List.take_add_one,List.take_set_of_le (Nat.le_refl _),h2,rhs_snoc]
  simp [show R.length<xs.length by omega]
 ·rcases List.mem_append.1 hx with hx | hx
  ·have:=h.ins x hx
   exact ⟨hkeep x (this.1.rng (l2:=x.g+1) (h2:=x.g+1) (Rng.of_below hb) (.inl (Nat.le_refl _))),this.2⟩
  ·simp at hx
   subst hx
   exact ⟨hkeep x hr,by omega⟩
 ·rw [List.pairwise_append]
  refine ⟨h.nod,by simp,fun x hx y hy=>?_⟩
  simp at hy
  subst hy
  have:=(h.ins x hx).1.lt
  omega
 ·exact (h.bel.trans (hb.mono (by omega))).setCell (p:=⟨w.heap.size,R.length,none⟩) (Nat.le_refl _) _
set_option maxHeartbeats 1000000 in
theorem eqIntSS_same (ts:List (List Int)) (n:Nat) (a a':Option Addr) (c c':Nat) (hn:n+lnS ts≤1048576) (w:World) (h:Ts w w.heap.size a n ts) (h':Ts w w.heap.size a' n ts) :
  Calls Tryz.prog 30 #[.slice a n c,.slice a' n c'] w fun e w'=>e=.returned (.bool true)∧Below w.heap.size w w':=by
 have hlen:=h.1
 have HA:=hideIt h
 have HA':=hideIt h'
 have dn:((n:Int) != (n:Int))=false:=by simp
 clear h h'
 go_enter Tryz.func30,Tryz.ntmps30
 go_wp2
 go_loopw [5] (fun i wr=>∃ (k:Nat),k≤n∧i=.int .i64 (k:Int)∧Good w wr) (fun i _=>n - (intOf i).toNat)
 case atStart=>exact ⟨0,by omega,rfl,Good.refl _⟩
 case round =>
  obtain ⟨k,hk,rfl,hg⟩:=hrel
  by_cases hlt:k<n
  ·rcases (HA.out.up hg).2 with hz | ⟨b,off,rfl,hbl,hc⟩
   ·omega
   ·rcases (HA'.out.up hg).2 with hz | ⟨b',off',rfl,hbl',hc'⟩
    ·omega
    ·obtain ⟨t,ht⟩:∃ t,ts[k]?=some t:=⟨ts[k]'(by omega),List.getElem?_eq_getElem (by omega)⟩
     obtain ⟨x,cx,e0,i0,_⟩:=hc k t ht
     obtain ⟨y,cy,e1,i1,_⟩:=hc' k t ht
     have hfit:t.length≤1048576:=by have:=lnS_at ht;omega
     have b1:(0:Int)≤(k:Int):=by omega
     have b2:(k:Int)<(n:Int):=by omega
     have HE:=hideIt (fun u (hu:Good wr u)=>(eqIntS_same t t.length x y cx cy hfit u (i0.up hu) (i1.up hu)).mono fun e v ⟨he,hb⟩=>(⟨he,Good.up hu hb⟩:e=Ending.returned (.bool true)∧Good wr v))
     have HG:=hideIt (fun u (hu:Good wr u)=>hg.up hu)
     have g0:=(Good.refl wr).drew
     have HC:Hid (∀ u,Good wr u→u.cell? ⟨b,off+k,none⟩=some (.slice x t.length cx)∧u.cell? ⟨b',off'+k,none⟩=some (.slice y t.length cy)):=fun u hu=>⟨by rw [hu.cell hbl];exact e0,by rw [hu.cell hbl'];exact e1⟩
     have hS0:=HC.out _ g0
     clear hc hc' ht i0 i1
     go_wp2
     go_region_held3 (fun u=>u.cell? ⟨b,off+k,none⟩=some (.slice x t.length cx)∧u.cell? ⟨b',off'+k,none⟩=some (.slice y t.length cy)) (first | assumption)
      (first | (go_at_call 28;refine (HE.out _ g0).mono ?_;rintro e w1 ⟨rfl,hg1⟩;have hS1:=HC.out _ hg1))
     have hg2:=HG.out _ hg1
     go_wp2
     exact ⟨⟨k+1,by omega,by go_num,hg2⟩,by simp [intOf];omega⟩
  ·go_wp2
   go_ret
   exact ⟨rfl,hg⟩
structure Tur (R:List Rw) (u v:World):Prop where
 os:v.os=u.os
 tape:v.tape=u.tape
 output:v.output=u.output
 size:u.heap.size≤v.heap.size
 block:∀ k,k<u.heap.size→(∀ r ∈ R,k≠r.g)→v.heap[k]?=u.heap[k]?
theorem Tur.of_below {R:List Rw} {u v:World} (h:Below u.heap.size u v):Tur R u v:=⟨h.os,h.tape,h.output,h.size,fun k hk _=>h.block k hk⟩
set_option maxHeartbeats 1000000 in
theorem markIntSS_any (R:List Rw) (lo hi n k0:Nat) (a:Option Addr) (c:Nat) (hn:n+rn R≤1048576) (hk1:k0≤1000000) (w:World) (h:FB w lo hi a n c R) :
  Calls Tryz.prog 35 #[.slice a n c,.int .i64 (k0:Int)] w fun e w'=>e=.returned (.int .i64 ((k0:Int)+(rn R:Int)))∧FB w' lo hi a n c (mkR k0 R)∧Tur R w w':=by
 have hlen:=h.len
 have H0:=hideIt h
 clear h
 go_enter Tryz.func35,Tryz.ntmps35
 go_wp2
 go_loopw [1,5] (fun q i wr=>∃ (k s:Nat),k≤n∧i=.int .i64 (k:Int)∧q=.int .i64 ((k0:Int)+(s:Int))∧Hid (s=rn (R.take k))∧FB wr lo hi a n c (mkR k0 (R.take k) ++ R.drop k)∧Tur R w wr) (fun _ i _=>n - (intOf i).toNat)
 case atStart=>exact ⟨0,0,by omega,rfl,by simp,by show _=_;rfl,H0.out,Tur.of_below (Below.refl _ _)⟩
 case round =>
  obtain ⟨k,s,hk,rfl,rfl,HS,hF,hr⟩:=hrel
  clear H0
  by_cases hlt:k<n
  ·obtain ⟨r,hrk⟩:∃ r,R[k]?=some r:=⟨R[k]'(by omega),List.getElem?_eq_getElem (by omega)⟩
   rw [split_at hrk] at hF
   have hkl:(mkR k0 (R.take k)).length=k:=by rw [mkR_len,List.length_take];omega
   rcases hF.own.2 with ⟨_,h0⟩ | ⟨g,cap,cur,hv,hg,hcur,hrest⟩
   ·omega
   ·have hv':=hv
    simp at hv'
    obtain ⟨rfl,rfl⟩:=hv'
    have e0:wr.cell? ⟨g,k,none⟩=some (.slice (some ⟨r.g,0,none⟩) r.t.length r.cp):=by
     rw [hF.own.cellAt k (by omega)]
     exact rhs_at (r:=r) (by rw [List.getElem?_append_right (by omega),hkl,Nat.sub_self];rfl)
    have hs:=HS.out
    have hfit:=rn_at hrk
    have hri:=hF.ins r (by simp)
    have HM:=hideIt (markRB hri.1 (k0+s) (by omega) (by omega))
    rw [show ((k0+s:Nat):Int)=(k0:Int)+(s:Int) by omega] at HM
    have HF:=hideIt hF
    have HR:=hideIt hr
    have HRI:Hid (r ∈ R):=List.mem_of_getElem? hrk
    have HN:Hid (mkR k0 (R.take k) ++ ⟨r.g,r.cp,imarks (k0+s) r.t.length⟩ :: R.drop (k+1)=mkR k0 (R.take (k+1)) ++ R.drop (k+1)):=by
     show _=_
     rw [take_snocF R k r hrk,mkR_snoc,hs]
     simp
    have HS2:Hid (s+r.t.length=rn (R.take (k+1))):=by show _=_;rw [rn_take hrk,hs]
    have b1:(0:Int)≤(k:Int):=by omega
    have b2:(k:Int)<(n:Int):=by omega
    clear hF hr hrest hcur hv hrk hs hkl hri
    go_wp2_with (go_at_call 34;refine HM.out.mono ?_;rintro e w1 ⟨rfl,hB,hr1⟩;refine Hid.out ?_)
    refine (show ∀ {p:Prop},p→Hid p from fun h=>h) ?_
    have HA:=hideIt (HF.out.turn (imarks_len _ _) hr1 hB)
    have HR2:Hid (Tur R w w1):=⟨hr1.os.trans HR.out.os,hr1.tape.trans HR.out.tape,hr1.output.trans HR.out.output,Nat.le_trans HR.out.size hr1.size,fun j hj ho=>(hr1.block j (Nat.lt_of_lt_of_le hj HR.out.size) (by have:=ho r HRI.out;omega)).trans (HR.out.block j hj ho)⟩
    clear HF HR HM hB hr1
    go_wp2
    exact ⟨⟨k+1,s+r.t.length,by omega,by go_num,by go_num,HS2,by rw [← HN.out];exact HA.out,HR2.out⟩,by simp [intOf];omega⟩
  ·obtain rfl:k=n:=by omega
   have HS2:Hid (s=rn R):=by show _=_;rw [HS.out,List.take_of_length_le (by omega)]
   have HF:=hideIt hF
   clear hF HS
   go_wp2
   go_ret
   refine ⟨by rw [← HS2.out];rfl,?_,hr⟩
   have:=HF.out
   rw [List.take_of_length_le (by omega),List.drop_of_length_le (by omega),List.append_nil] at this
   exact this
set_option maxHeartbeats 1000000 in
theorem heldIntSS_any (R:List Rw) (lo hi n k0:Nat) (a:Option Addr) (c:Nat) (hn:n+rn R≤1048576) (hk1:k0≤1000000) (w:World) (h:FB w lo hi a n c (mkR k0 R)) :
  Calls Tryz.prog 39 #[.slice a n c,.int .i64 (k0:Int)] w fun e w'=>e=.returned (.int .i64 ((k0:Int)+(rn R:Int)))∧w'=w:=by
 have hlen:=h.len
 rw [mkR_len] at hlen
 have H0:=hideIt h
 clear h
 go_enter Tryz.func39,Tryz.ntmps39
 go_wp2
 go_loopw [1,5] (fun q i wr=>∃ (k s:Nat),k≤n∧i=.int .i64 (k:Int)∧q=.int .i64 ((k0:Int)+(s:Int))∧Hid (s=rn (R.take k))∧wr=w) (fun _ i _=>n - (intOf i).toNat)
 case atStart=>exact ⟨0,0,by omega,rfl,by simp,by show _=_;rfl,rfl⟩
 case round =>
  obtain ⟨k,s,hk,rfl,rfl,HS,hw⟩:=hrel
  have hw':=hw.symm
  subst hw'
  clear hw
  by_cases hlt:k<n
  ·obtain ⟨r,hrk⟩:∃ r,R[k]?=some r:=⟨R[k]'(by omega),List.getElem?_eq_getElem (by omega)⟩
   rcases H0.out.own.2 with ⟨_,h0⟩ | ⟨g,cap,cur,hv,hg,hcur,hrest⟩
   ·omega
   ·have hv':=hv
    simp at hv'
    obtain ⟨rfl,rfl⟩:=hv'
    have hat:=mkR_at (k:=k0) hrk
    have e0:w.cell? ⟨g,k,none⟩=some (.slice (some ⟨r.g,0,none⟩) r.t.length r.cp):=by
     rw [H0.out.own.cellAt k (by omega),rhs_at hat]
     simp [Rw.hdr,imarks_len]
    have hs:=HS.out
    have hfit:=rn_at hrk
    have hri:RBox w r.g (r.g+1) (some ⟨r.g,0,none⟩) (imarks (k0+rn (R.take k)) r.t.length).length r.cp (imarks (k0+rn (R.take k)) r.t.length):=(H0.out.ins _ (List.mem_of_getElem? hat)).1
    rw [imarks_len,← hs] at hri
    have HM:=hideIt (heldRB (k0+s) hri (by omega) (by omega))
    rw [show ((k0+s:Nat):Int)=(k0:Int)+(s:Int) by omega] at HM
    have HS2:Hid (s+r.t.length=rn (R.take (k+1))):=by show _=_;rw [rn_take hrk,hs]
    have b1:(0:Int)≤(k:Int):=by omega
    have b2:(k:Int)<(n:Int):=by omega
    have d1:decide ((k0:Int)+(s:Int)+(r.t.length:Int)<0)=false:=decide_eq_false (by omega)
    clear hrest hcur hv hrk hs hri hat
    go_wp2_with (go_at_call 37;refine HM.out.mono ?_;rintro e w1 ⟨rfl,hw⟩;have hw':=hw.symm;subst hw';clear hw)
    exact ⟨⟨k+1,s+r.t.length,by omega,by go_num,by go_num,HS2,by first | trivial | rfl⟩,by simp [intOf];omega⟩
  ·obtain rfl:k=n:=by omega
   have HS2:Hid (s=rn R):=by show _=_;rw [HS.out,List.take_of_length_le (by omega)]
   clear HS
   go_wp2
   go_ret
   exact ⟨by rw [← HS2.out];rfl,rfl⟩
structure Sd where
 id:Int
 i:Int
 o:Int
 a:Int
 b:Int
 s:Int
structure SdAt (w:World) (b o:Nat) (x:Sd):Prop where
 c0:w.cell? ⟨b,o,none⟩=some (.int .i64 x.id)
 c1:w.cell? ⟨b,o+1,none⟩=some (.int .i64 x.i)
 c2:w.cell? ⟨b,o+2,none⟩=some (.int .i64 x.o)
 c3:w.cell? ⟨b,o+3,none⟩=some (.int .i64 x.a)
 c4:w.cell? ⟨b,o+4,none⟩=some (.int .i64 x.b)
 c5:w.cell? ⟨b,o+5,none⟩=some (.int .i64 x.s)
theorem SdAt.below {w u:World} {b o C:Nat} {x:Sd} (h:SdAt w b o x) (hb:Below C w u) (hC:b<C):SdAt u b o x:=by
 have e:∀ o,u.cell? ⟨b,o,none⟩=w.cell? ⟨b,o,none⟩:=fun o=>hb.cell (p:=⟨b,o,none⟩) hC
 exact ⟨by rw [e];exact h.c0,by rw [e];exact h.c1,by rw [e];exact h.c2,by rw [e];exact h.c3,by rw [e];exact h.c4,by rw [e];exact h.c5⟩
def Ss (w:World) (B:Nat) (a:Option Addr) (n:Nat) (ss:List Sd):Prop :=
 ss.length=n∧(n=0∨∃ b off,a=some ⟨b,off,none⟩∧b<B∧∀ (j:Nat) (x:Sd),ss[j]?=some x→SdAt w b (off+j*6) x)
theorem Ss.below {w w':World} {B C:Nat} {a:Option Addr} {n:Nat} {ss:List Sd} (h:Ss w B a n ss) (hb:Below C w w') (hB:B≤C):Ss w' B a n ss:=by
 refine ⟨h.1,h.2.imp id ?_⟩
 rintro ⟨b,off,ha,hbl,hc⟩
 exact ⟨b,off,ha,hbl,fun j x hx=>(hc j x hx).below hb (by omega)⟩
theorem Ss.mono {w:World} {B C:Nat} {a:Option Addr} {n:Nat} {ss:List Sd} (h:Ss w B a n ss) (hB:B≤C):Ss w C a n ss:=by
 refine ⟨h.1,h.2.imp id ?_⟩
 rintro ⟨b,off,ha,hbl,hc⟩
 exact ⟨b,off,ha,by omega,hc⟩
theorem Ss.up {w w':World} {a:Option Addr} {n:Nat} {ss:List Sd} (h:Ss w w.heap.size a n ss) (hb:Below w.heap.size w w'):Ss w' w'.heap.size a n ss :=
 (h.below hb (Nat.le_refl _)).mono hb.size
theorem Ss.at {w:World} {B:Nat} {a:Option Addr} {n:Nat} {ss:List Sd} (h:Ss w B a n ss) {k:Nat} (hk:k<n):∃ b off x,a=some ⟨b,off,none⟩∧b<B∧ss[k]?=some x∧SdAt w b (off+k*6) x:=by
 rcases h.2 with hz | ⟨b,off,ha,hb,hc⟩
 ·omega
 ·have hl:=h.1
  have hx:ss[k]?=some (ss[k]'(by omega)):=List.getElem?_eq_getElem (by omega)
  exact ⟨b,off,_,ha,hb,hx,hc k _ hx⟩
def scell (x:Sd):List Value:=[.int .i64 x.id,.int .i64 x.i,.int .i64 x.o,.int .i64 x.a,.int .i64 x.b,.int .i64 x.s]
def scells (ss:List Sd):List Value:=ss.flatMap scell
theorem scells_length (ss:List Sd):(scells ss).length=ss.length*6:=by
 induction ss with
 | nil=>rfl
 | cons f fs ih=>simp only [scells,List.flatMap_cons,List.length_append,List.length_cons] at ih ⊢;rw [ih];simp [scell];omega
theorem scells_at (ss:List Sd) (j:Nat) (x:Sd) (h:ss[j]?=some x) (q:Nat) (hq:q<6):(scells ss)[j*6+q]?=(scell x)[q]?:=by
 induction ss generalizing j with
 | nil=>simp at h
 | cons g fs ih =>
  cases j with
  | zero =>
   simp at h
   subst h
   rw [show scells (g :: fs)=scell g ++ scells fs from rfl,List.getElem?_append_left (by show 0*6+q<6;omega)]
   simp
  | succ j =>
   have h2:=ih j (by simpa using h)
   rw [show scells (g :: fs)=scell g ++ scells fs from rfl,List.getElem?_append_right (by show 6≤(j+1)*6+q;omega),show (j+1)*6+q - (scell g).length=j*6+q by show (j+1)*6+q - 6=_;omega]
   exact h2
theorem scells_snoc (ss:List Sd) (x:Sd):scells (ss ++ [x])=scells ss ++ scell x:=by simp [scells]
theorem infoSd:(Tryz.prog.info? 82).map (fun i=>(i.zero,i.size,i.bytes))=some (some (.agg #[.int .i64 0,.int .i64 0,.int .i64 0,.int .i64 0,.int .i64 0,.int .i64 0]),6,48):=by kernel_rfl
theorem Ss_of_own {w:World} {B n c:Nat} {a:Option Addr} {ss:List Sd} (h:w.ownsRow B 82 6 (.slice a n c) n (scells ss)):Ss w w.heap.size a n ss:=by
 have hl:=h.1
 rw [scells_length] at hl
 refine ⟨by omega,?_⟩
 rcases h.2 with ⟨hv,h0⟩ | ⟨g,cap,cur,hv,hrest⟩
 ·exact .inl h0
 ·simp at hv
  obtain ⟨rfl,rfl⟩:=hv
  by_cases h0:n=0
  ·exact .inl h0
  ·refine .inr ⟨g,0,rfl,(h.lt g rfl).2,fun j x hx=>?_⟩
   have hj:j<ss.length:=(List.getElem?_eq_some_iff.1 hx).1
   have hc:=scells_at ss j x hx
   rw [Nat.zero_add]
   have e0:=hc 0 (by omega)
   rw [Nat.add_zero] at e0
   exact ⟨by rw [h.cellAt (j*6) (by omega)];exact e0,by rw [h.cellAt (j*6+1) (by omega)];exact hc 1 (by omega),by rw [h.cellAt (j*6+2) (by omega)];exact hc 2 (by omega),by rw [h.cellAt (j*6+3) (by omega)];exact hc 3 (by omega),by rw [h.cellAt (j*6+4) (by omega)];exact hc 4 (by omega),by rw [h.cellAt (j*6+5) (by omega)];exact hc 5 (by omega)⟩
theorem ts1 (xs:List Value) (m:Nat) (a:Value) (h:m<xs.length):(xs.set m a).take (m+1)=xs.take m ++ [a]:=by
 rw [List.take_add_one,List.take_set_of_le (Nat.le_refl _),List.getElem?_set_self h]
 rfl
theorem take_set6 (xs:List Value) (m:Nat) (a b c d e f:Value) (h:m+6≤xs.length):((((((xs.set m a).set (m+1) b).set (m+2) c).set (m+3) d).set (m+4) e).set (m+5) f).take (m+6)=xs.take m ++ [a,b,c,d,e,f]:=by
 rw [ts1 _ (m+5) f (by simp;omega),ts1 _ (m+4) e (by simp;omega),ts1 _ (m+3) d (by simp;omega),ts1 _ (m+2) c (by simp;omega),ts1 _ (m+1) b (by simp;omega),ts1 _ m a (by omega)]
 simp
abbrev akV (i o a b:Int):Value:=.agg #[.int .i64 i,.int .i64 o,.int .i64 a,.int .i64 b]
abbrev sdV (x:Sd):Value:=.agg #[.int .i64 x.id,.int .i64 x.i,.int .i64 x.o,.int .i64 x.a,.int .i64 x.b,.int .i64 x.s]
theorem toAsk_any (i o a b:Int) (w:World):Calls Tryz.prog 57 #[akV i o a b] w fun e w'=>e=.returned (akV i o a b)∧Below w.heap.size w w':=by
 go_enter Tryz.func57,Tryz.ntmps57
 go_wp2
 exact bodyPost_ret (v:=akV i o a b) (by simp [results,Tryz.results57,go_sem]) rfl ⟨rfl,(((Below.refl _ _).alloc (Nat.le_refl _) _).alloc (by simp) _).alloc (by simp;omega) _⟩
theorem eqAsk_yes (i o a b:Int) (w:World):Calls Tryz.prog 66 #[akV i o a b,akV i o a b] w fun e w'=>e=.returned (.bool true)∧Below w.heap.size w w':=by
 go_enter Tryz.func66,Tryz.ntmps66
 go_wp2
 go_ret
 exact ⟨rfl,((Below.refl _ _).alloc (Nat.le_refl _) _).alloc (by simp) _⟩
set_option maxRecDepth 100000 in
set_option maxHeartbeats 2000000 in
theorem eqSaid_yes (x:Sd) (w:World):Calls Tryz.prog 41 #[sdV x,sdV x] w fun e w'=>e=.returned (.bool true)∧Below w.heap.size w w':=by
 obtain ⟨id,i,o,a,b,s⟩:=x
 dsimp only [sdV]
 have HT:=hideIt (eqAsk_yes i o a b)
 have B2:=hideIt (((Below.refl w.heap.size w).alloc (Nat.le_refl _) (.cells #[.int .i64 id,.int .i64 i,.int .i64 o,.int .i64 a,.int .i64 b,.int .i64 s] 82)).alloc (by simp) (.cells #[.int .i64 id,.int .i64 i,.int .i64 o,.int .i64 a,.int .i64 b,.int .i64 s] 82))
 go_enter Tryz.func41,Tryz.ntmps41
 go_wp2_with (go_at_call 66;refine (HT.out _).mono ?_;rintro e w1 ⟨rfl,hb1⟩;refine Hid.out ?_)
 refine (show ∀ {p:Prop},p→Hid p from fun h=>h) ?_
 obtain ⟨hc,hf⟩:=bcell hb1
 have HB:=hideIt (B2.out.trans (hb1.mono (by simp;omega)))
 have hz:=hb1.size
 clear HT hb1
 simp at hz
 go_wp2
 go_ret
 exact ⟨rfl,HB.out⟩
def SdC (W:World) (b o:Nat) (x:Sd):Prop:=((W.cell? ⟨b,o,none⟩=some (.int .i64 x.id)∧W.cell? ⟨b,o+1,none⟩=some (.int .i64 x.i))∧(W.cell? ⟨b,o+2,none⟩=some (.int .i64 x.o)∧W.cell? ⟨b,o+3,none⟩=some (.int .i64 x.a)))∧(W.cell? ⟨b,o+4,none⟩=some (.int .i64 x.b)∧W.cell? ⟨b,o+5,none⟩=some (.int .i64 x.s))
set_option maxRecDepth 100000 in
set_option maxHeartbeats 4000000 in
theorem eqSaidS_same (ss:List Sd) (n:Nat) (a a':Option Addr) (c c':Nat) (hn:n≤1048576) (w:World) (h:Ss w w.heap.size a n ss) (h':Ss w w.heap.size a' n ss) :
  Calls Tryz.prog 16 #[.slice a n c,.slice a' n c'] w fun e w'=>e=.returned (.bool true)∧Below w.heap.size w w':=by
 have HR:=hideIt h
 have HR':=hideIt h'
 clear h h'
 go_enter Tryz.func16,Tryz.ntmps16
 go_wp2
 go_loopw [5] (fun i wr=>∃ k:Nat,k≤n∧i=.int .i64 (k:Int)∧Below w.heap.size w wr) (fun i _=>n - (intOf i).toNat)
 case atStart=>exact ⟨0,by omega,rfl,Below.refl _ _⟩
 case round =>
  obtain ⟨k,hk,rfl,hb⟩:=hrel
  by_cases hlt:k<n
  ·obtain ⟨b,off,x,rfl,hbl,hxk,hat⟩:=HR.out.at hlt
   obtain ⟨b',off',x',rfl,hbl',hxk',hat'⟩:=HR'.out.at hlt
   rw [hxk] at hxk'
   obtain rfl:=Option.some.inj hxk'
   have b1:(0:Int)≤(k:Int):=by omega
   have b2:(k:Int)<(n:Int):=by omega
   have HT:Hid (∀ W:World,Below w.heap.size w W→Calls Tryz.prog 41 #[sdV x,sdV x] W fun e w'=>e=.returned (.bool true)∧Below w.heap.size w w'):=fun W hW =>
    (eqSaid_yes x W).mono fun _ _ ⟨he,hb'⟩=>⟨he,hW.trans (hb'.mono hW.size)⟩
   have HK:Hid (∀ W:World,Below w.heap.size w W→SdC W b (off+k*6) x∧SdC W b' (off'+k*6) x):=fun W hW=>by
    have h1:=hat.below hW hbl
    have h2:=hat'.below hW hbl'
    exact ⟨⟨⟨⟨h1.c0,h1.c1⟩,h1.c2,h1.c3⟩,h1.c4,h1.c5⟩,⟨⟨h2.c0,h2.c1⟩,h2.c2,h2.c3⟩,h2.c4,h2.c5⟩
   have e:=HK.out wr hb
   obtain ⟨⟨⟨⟨e0,e1⟩,e2,e3⟩,e4,e5⟩,⟨⟨e6,e7⟩,e8,e9⟩,ea,eb⟩:=e
   have hbd:=hb.drew
   unfold SdC at HK
   clear hat hat' hxk hxk'
   go_wp2
   go_region_held3 (fun W=>Below w.heap.size w W∧(((W.cell? ⟨b,off+k*6,none⟩=some (.int .i64 x.id)∧W.cell? ⟨b,off+k*6+1,none⟩=some (.int .i64 x.i))∧(W.cell? ⟨b,off+k*6+2,none⟩=some (.int .i64 x.o)∧W.cell? ⟨b,off+k*6+3,none⟩=some (.int .i64 x.a)))∧(W.cell? ⟨b,off+k*6+4,none⟩=some (.int .i64 x.b)∧W.cell? ⟨b,off+k*6+5,none⟩=some (.int .i64 x.s)))∧(((W.cell? ⟨b',off'+k*6,none⟩=some (.int .i64 x.id)∧W.cell? ⟨b',off'+k*6+1,none⟩=some (.int .i64 x.i))∧(W.cell? ⟨b',off'+k*6+2,none⟩=some (.int .i64 x.o)∧W.cell? ⟨b',off'+k*6+3,none⟩=some (.int .i64 x.a)))∧(W.cell? ⟨b',off'+k*6+4,none⟩=some (.int .i64 x.b)∧W.cell? ⟨b',off'+k*6+5,none⟩=some (.int .i64 x.s))))
    (first | exact ⟨hb3,HK.out _ hb3⟩ | exact ⟨hbd,HK.out _ hbd⟩)
    ((go_at_call 41;refine (HT.out _ hbd).mono ?_;rintro e w1 ⟨rfl,hb3⟩))
   clear hbd
   go_wp2
   exact ⟨⟨k+1,by omega,by go_num,hb3⟩,by simp [intOf];omega⟩
  ·go_wp2
   go_ret
   exact ⟨rfl,hb⟩
end Go.Proofs.YtnagchanokbgdaaGreat
