/- A struct of two fields in a block of its own. slices.IndexFunc, ContainsFunc, DeleteFunc over edges, by any closure that holds a box. The program's look at a head that records lead to: its owners, its cuts. The program's look at a head that records lead to: its task, and all of it. The program's look at a head that records lead to. slices.Concat of what is said. -/
import Derived.Test.YtnagchanokbgdaaGreatJVerts
import Derived.Test.YtnagchanokbgdaaGreatJE6
import Derived.Lib.SliceRun
import Derived.Deep.MidRow
import Derived.Lib.AppendZerosOnto
import Derived.Lib.Walk
import Derived.Laws.AppendOwnNone
namespace Go.Proofs.YtnagchanokbgdaaGreat
open Go.RowKit
def Box7 (w:World) (b:Nat) (t:TypeId) (v0 v1:Value):Prop:=w.heap[b]?=some (.cells #[v0,v1] t (0,0))
theorem Box7.cell0 {w:World} {b:Nat} {t:TypeId} {v0 v1:Value} (h:Box7 w b t v0 v1):w.cell? ⟨b,0,none⟩=some v0:=by rw [cell_of_row w b 0 _ _ _ h];rfl
theorem Box7.cell1 {w:World} {b:Nat} {t:TypeId} {v0 v1:Value} (h:Box7 w b t v0 v1):w.cell? ⟨b,1,none⟩=some v1:=by rw [cell_of_row w b 1 _ _ _ h];rfl
theorem Box7.lt {w:World} {b:Nat} {t:TypeId} {v0 v1:Value} (h:Box7 w b t v0 v1):b<w.heap.size:=(Array.getElem?_eq_some_iff.1 h).1
theorem Box7.new (w:World) (t:TypeId) (v0 v1:Value) (b:Nat) (hb:w.heap.size=b):Box7 (w.alloc (.cells #[v0,v1] t)) b t v0 v1:=by subst hb;exact heap_alloc_new w _
theorem Box7.below {w w':World} {b C:Nat} {t:TypeId} {v0 v1:Value} (h:Box7 w b t v0 v1) (hb:Below C w w') (hC:b<C):Box7 w' b t v0 v1:=by
 unfold Box7;rw [hb.block b hC];exact h
theorem Box7.up {w w':World} {b:Nat} {t:TypeId} {v0 v1:Value} (h:Box7 w b t v0 v1) (hb:Below w.heap.size w w'):Box7 w' b t v0 v1:=h.below hb h.lt
def neP (es:List EdgeV) (pq:EdgeV→Bool) (k:Nat):Bool:=match es[k]? with | some x=>pq x | none=>false
theorem neP_at {es:List EdgeV} {pq:EdgeV→Bool} {k:Nat} {x:EdgeV} (h:es[k]?=some x):neP es pq k=pq x:=by simp [neP,h]
set_option maxRecDepth 100000 in
set_option maxHeartbeats 2000000 in
theorem idxFE_c (es:List EdgeV) (pq:EdgeV→Bool) (n:Nat) (a:Option Addr) (c:Nat) (hn:n≤1048576) (B:Nat) (w:World) (h:Es w w.heap.size a n es) (HC0:∀ x ∈ es,∀ u,Below w.heap.size w u→Calls Tryz.prog 125 #[.agg #[.int .i64 x.1,.int .i64 x.2],.pointer (some ⟨B,0,none⟩)] u fun e v=>e=.returned (.bool (pq x))∧Below u.heap.size u v) :
  Calls Tryz.prog 146 #[.slice a n c,.func (.func 125) #[] #[.pointer (some ⟨B,0,none⟩)]] w fun e w'=>e=.returned (.int .i64 (firstN (neP es pq) es.length))∧Below w.heap.size w w':=by
 have HC:=hideIt HC0
 have hlen:=h.1
 have HR:=hideIt h
 clear h HC0
 go_enter Tryz.func146,Tryz.ntmps146
 go_wp2
 go_loopw [8] (fun i wr=>∃ (k:Nat),k≤n∧i=.int .i64 (k:Int)∧Hid (∀ j,j<k→neP es pq j=false)∧Hid (Below w.heap.size w wr)) (fun i _=>n - (intOf i).toNat)
 case atStart=>exact ⟨0,by omega,rfl,fun j hj=>by omega,Below.refl _ _⟩
 case round =>
  obtain ⟨k,hk,rfl,HF,HB⟩:=hrel
  by_cases hlt:k<n
  ·rcases (HR.out.below HB.out (Nat.le_refl _)).2 with hz | ⟨b1,off,rfl,_,hc⟩
   ·omega
   ·obtain ⟨x,hx⟩:∃ x,es[k]?=some x:=⟨es[k]'(by omega),List.getElem?_eq_getElem (by omega)⟩
    obtain ⟨e0,e1⟩:=hc k x hx
    have q1:(0:Int)≤(k:Int):=by omega
    have q2:(k:Int)<(n:Int):=by omega
    have HC1:=hideIt (HC.out x (List.mem_of_getElem? hx) wr HB.out)
    have hcf:=neP_at (pq:=pq) hx
    clear hc
    cases hv:pq x with
    | true =>
     rw [hv] at HC1 hcf
     have hm:=hideIt (show firstN (neP es pq) es.length=(k:Int) from firstN_yes (by omega) hcf HF.out)
     clear hx hv HF hcf HC
     go_wp2_with (go_at_call 125;refine HC1.out.mono ?_;rintro e w1 ⟨rfl,hb⟩)
     go_ret
     exact ⟨retI hm.out,HB.out.trans (hb.mono HB.out.size)⟩
    | false =>
     rw [hv] at HC1 hcf
     have HF2:=hideIt (all_step HF.out hcf)
     clear hx hv HF hcf HC
     go_wp2_with (go_at_call 125;refine HC1.out.mono ?_;rintro e w1 ⟨rfl,hb⟩)
     exact ⟨⟨k+1,by omega,by go_num,HF2,HB.out.trans (hb.mono HB.out.size)⟩,by simp [intOf];omega⟩
  ·obtain rfl:k=n:=by omega
   have hm:=hideIt (show firstN (neP es pq) es.length = -1 from firstN_no (by rw [hlen];exact HF.out))
   clear HF
   go_wp2
   go_ret
   exact ⟨retI hm.out,HB.out⟩
theorem conFE_any (es:List EdgeV) (pq:EdgeV→Bool) (n:Nat) (a:Option Addr) (c:Nat) (hn:n≤1048576) (B:Nat) (w:World) (h:Es w w.heap.size a n es) (HC0:∀ x ∈ es,∀ u,Below w.heap.size w u→Calls Tryz.prog 125 #[.agg #[.int .i64 x.1,.int .i64 x.2],.pointer (some ⟨B,0,none⟩)] u fun e v=>e=.returned (.bool (pq x))∧Below u.heap.size u v) :
  Calls Tryz.prog 126 #[.slice a n c,.func (.func 125) #[] #[.pointer (some ⟨B,0,none⟩)]] w fun e w'=>e=.returned (.bool (es.any pq))∧Below w.heap.size w w':=by
 have HI:=hideIt (idxFE_c es pq n a c hn B w h HC0)
 have HA:Hid (decide (0≤firstN (neP es pq) es.length)=es.any pq):=by
  show _=_
  rw [Bool.eq_iff_iff,decide_eq_true_iff,List.any_eq_true]
  rcases firstN_cases (neP es pq) es.length with ⟨q,hq,hc,_,he⟩ | ⟨hall,he⟩
  ·rw [he]
   refine ⟨fun _=>⟨es[q],List.getElem_mem hq,?_⟩,fun _=>by omega⟩
   rw [neP_at (List.getElem?_eq_getElem hq)] at hc
   exact hc
  ·rw [he]
   refine ⟨fun h=>by omega,fun ⟨x,hx,hp⟩=>?_⟩
   obtain ⟨j,hj⟩:=List.mem_iff_getElem?.1 hx
   have:=hall j (List.getElem?_eq_some_iff.1 hj).1
   rw [neP_at hj,hp] at this
   cases this
 clear h HC0
 go_enter Tryz.func126,Tryz.ntmps126
 go_wp2_with (go_at_call 146;refine HI.out.mono ?_;rintro e w1 ⟨rfl,b1⟩)
 go_ret
 exact ⟨congrArg (fun b=>Ending.returned (.bool b)) HA.out,b1⟩
set_option maxRecDepth 100000 in
set_option maxHeartbeats 2000000 in
theorem idxFE_m (es:List EdgeV) (pq:EdgeV→Bool) (n:Nat) (a:Option Addr) (c:Nat) (hn:n≤1048576) (B:Nat) (w:World) (h:Es w w.heap.size a n es) (HC0:∀ x ∈ es,∀ u,Below w.heap.size w u→Calls Tryz.prog 142 #[.agg #[.int .i64 x.1,.int .i64 x.2],.pointer (some ⟨B,0,none⟩)] u fun e v=>e=.returned (.bool (pq x))∧Below u.heap.size u v) :
  Calls Tryz.prog 146 #[.slice a n c,.func (.func 142) #[] #[.pointer (some ⟨B,0,none⟩)]] w fun e w'=>e=.returned (.int .i64 (firstN (neP es pq) es.length))∧Below w.heap.size w w':=by
 have HC:=hideIt HC0
 have hlen:=h.1
 have HR:=hideIt h
 clear h HC0
 go_enter Tryz.func146,Tryz.ntmps146
 go_wp2
 go_loopw [8] (fun i wr=>∃ (k:Nat),k≤n∧i=.int .i64 (k:Int)∧Hid (∀ j,j<k→neP es pq j=false)∧Hid (Below w.heap.size w wr)) (fun i _=>n - (intOf i).toNat)
 case atStart=>exact ⟨0,by omega,rfl,fun j hj=>by omega,Below.refl _ _⟩
 case round =>
  obtain ⟨k,hk,rfl,HF,HB⟩:=hrel
  by_cases hlt:k<n
  ·rcases (HR.out.below HB.out (Nat.le_refl _)).2 with hz | ⟨b1,off,rfl,_,hc⟩
   ·omega
   ·obtain ⟨x,hx⟩:∃ x,es[k]?=some x:=⟨es[k]'(by omega),List.getElem?_eq_getElem (by omega)⟩
    obtain ⟨e0,e1⟩:=hc k x hx
    have q1:(0:Int)≤(k:Int):=by omega
    have q2:(k:Int)<(n:Int):=by omega
    have HC1:=hideIt (HC.out x (List.mem_of_getElem? hx) wr HB.out)
    have hcf:=neP_at (pq:=pq) hx
    clear hc
    cases hv:pq x with
    | true =>
     rw [hv] at HC1 hcf
     have hm:=hideIt (show firstN (neP es pq) es.length=(k:Int) from firstN_yes (by omega) hcf HF.out)
     clear hx hv HF hcf HC
     go_wp2_with (go_at_call 142;refine HC1.out.mono ?_;rintro e w1 ⟨rfl,hb⟩)
     go_ret
     exact ⟨retI hm.out,HB.out.trans (hb.mono HB.out.size)⟩
    | false =>
     rw [hv] at HC1 hcf
     have HF2:=hideIt (all_step HF.out hcf)
     clear hx hv HF hcf HC
     go_wp2_with (go_at_call 142;refine HC1.out.mono ?_;rintro e w1 ⟨rfl,hb⟩)
     exact ⟨⟨k+1,by omega,by go_num,HF2,HB.out.trans (hb.mono HB.out.size)⟩,by simp [intOf];omega⟩
  ·obtain rfl:k=n:=by omega
   have hm:=hideIt (show firstN (neP es pq) es.length = -1 from firstN_no (by rw [hlen];exact HF.out))
   clear HF
   go_wp2
   go_ret
   exact ⟨retI hm.out,HB.out⟩
theorem own_cutD {u:World} {lo e s g n c m:Nat} {xs:List Value} (h:u.ownsRow lo e s (.slice (some ⟨g,0,none⟩) n c) n xs) (hm:m≤n):u.ownsRow lo e s (.slice (some ⟨g,0,none⟩) m c) m (xs.take (m*s)):=by
 have hms:m*s≤n*s:=Nat.mul_le_mul_right s hm
 refine ⟨by rw [List.length_take,h.1];omega,?_⟩
 rcases h.2 with ⟨hv,_⟩ | ⟨g2,cap,cur,hv,hb,hg,h1,h2,h3,h4⟩
 ·simp at hv
 ·simp only [Value.slice.injEq,Option.some.injEq,Addr.mk.injEq,and_true,true_and] at hv
  obtain ⟨rfl,rfl⟩:=hv
  exact .inr ⟨g,c,cur,rfl,hb,hg,by omega,h2,h3,by rw [← h4,List.take_take,Nat.min_eq_left hms]⟩
theorem own_setCells {lo e s g n c:Nat}:∀ (vs:List Value) (o:Nat) (u:World) (xs:List Value),u.ownsRow lo e s (.slice (some ⟨g,0,none⟩) n c) n xs→∃ ys,(u.setCells g o vs).ownsRow lo e s (.slice (some ⟨g,0,none⟩) n c) n ys∧ys.take o=xs.take o∧u.grownBy (u.setCells g o vs) (some g)
 | [],o,u,xs,h=>⟨xs,h,rfl,grown_of_below (Below.refl _ _) _⟩
 | v :: vs,o,u,xs,h=>by
  obtain ⟨ys,h1,h2,h3⟩:=own_setCells vs (o+1) (u.setCell ⟨g,o,none⟩ v) (xs.set o v) (h.stored o v).1
  refine ⟨ys,h1,?_,grown_trans (grownSet u g o v) h3⟩
  have:=congrArg (List.take o) h2
  rw [List.take_take,List.take_take,Nat.min_eq_left (by omega),List.take_set_of_le (Nat.le_refl _)] at this
  exact this
theorem run_clear2 (w:World) (t e ty:TypeId) (ht:Tryz.prog.underlying t=some (.slice e)) (hv:∀ w,(zeroValue e).run Tryz.prog w=.ok (.agg #[.int .i64 0,.int .i64 0]) w) (b o n c:Nat) (hn:0<n)
  (hc:∀ j,j<n*2→(w.cell? ⟨b,o+j,none⟩).isSome=true) (hf:∀ j,j<n*2→w.frozen? ⟨b,o+j,none⟩=false) :
  (Builtin.clear_ #[t] ty #[.slice (some ⟨b,o,none⟩) n c]).run Tryz.prog w=.ok (.tuple #[]) (w.setCells b o (List.replicate (n*2) (.int .i64 0))):=by
 have hzc:(Builtin.zeroCells (Value.agg #[.int .i64 0,.int .i64 0]).cells n).toList=List.replicate (n*2) (.int .i64 0):=by
  apply List.ext_getElem
  ·simp [Builtin.zeroCells,Value.cells]
  ·intro i h1 h2
   simp only [Builtin.zeroCells,Value.cells,List.getElem_replicate,Array.getElem_toList,Array.getElem_map,Array.getElem_range]
   have:i % 2=0∨i % 2=1:=by omega
   rcases this with h | h
   ·show (#[Value.int .i64 0,Value.int .i64 0]:Array Value)[i % 2]! = _
    rw [h];rfl
   ·show (#[Value.int .i64 0,Value.int .i64 0]:Array Value)[i % 2]! = _
    rw [h];rfl
 have hst:=run_storeCells_cells (P:=Tryz.prog) b o (List.replicate (n*2) (.int .i64 0)) 0 w (by simpa using hc) (by simpa using hf) (by intro v hv';rw [List.eq_of_mem_replicate hv'];rfl)
 simp only [Nat.add_zero] at hst
 obtain ⟨m,rfl⟩:∃ m,n=m+1:=⟨n - 1,by omega⟩
 simp [Builtin.clear_,run_underlying ht,hv,hzc,hst]
theorem ecells_takeD (es:List EdgeV) (q:Nat):(ecells es).take (q*2)=ecells (es.take q):=by
 induction es generalizing q with
 | nil=>simp [ecells]
 | cons e es ih =>
  cases q with
  | zero=>simp [ecells]
  | succ q =>
   rw [show (q+1)*2=q*2+2 by omega]
   have:=ih q
   simp only [ecells,List.flatMap_cons,List.take_succ_cons] at this ⊢
   rw [← this]
   simp [ecell]
def kepE (es:List EdgeV) (pq:EdgeV→Bool) (j:Nat):List EdgeV:=(es.take j).filter fun e=>!pq e
theorem kepE_step {es:List EdgeV} {pq:EdgeV→Bool} {j:Nat} {x:EdgeV} (h:es[j]?=some x):kepE es pq (j+1)=kepE es pq j ++ (if pq x then [] else [x]):=by
 unfold kepE
 rw [List.take_add_one,h]
 cases hx:pq x <;> simp [hx]
theorem kepE_len (es:List EdgeV) (pq:EdgeV→Bool) (j:Nat):(kepE es pq j).length≤j:=by
 have h1:=List.length_filter_le (fun e=>!pq e) (es.take j)
 rw [List.length_take] at h1
 unfold kepE
 omega
theorem kepE_all {es:List EdgeV} {pq:EdgeV→Bool} {i:Nat} (h:∀ j,j<i→neP es pq j=false) (hi:i≤es.length):kepE es pq i=es.take i:=by
 unfold kepE
 rw [List.filter_eq_self]
 intro x hx
 obtain ⟨j,hj⟩:=List.mem_iff_getElem?.1 hx
 have hlt:j<i:=by have:=(List.getElem?_eq_some_iff.1 hj).1;rw [List.length_take] at this;omega
 rw [List.getElem?_take_of_lt hlt] at hj
 have:=h j hlt
 rw [neP_at hj] at this
 rw [this]
 rfl
structure DSt (w:World) (lo g n c:Nat) (es:List EdgeV) (pq:EdgeV→Bool) (B i j:Nat) (u:World):Prop where
 xs:∃ xs,u.ownsRow lo 107 2 (.slice (some ⟨g,0,none⟩) n c) n xs∧xs.take (i*2)=ecells (kepE es pq j)∧xs.drop (j*2)=(ecells es).drop (j*2)
 ij:i=(kepE es pq j).length
 gr:w.grownBy u (some g)
section
variable {w u:World} {lo g n c:Nat} {es:List EdgeV} {pq:EdgeV→Bool} {B i j:Nat}
theorem grown_below {a b d:World} {row:Option Nat} (h:a.grownBy b row) (k:Below b.heap.size b d):a.grownBy d row:=grown_trans h (grown_of_below k row)
theorem DSt.up {x:World} (h:DSt w lo g n c es pq B i j u) (hb:Below u.heap.size u x):DSt w lo g n c es pq B i j x:=by
 obtain ⟨xs,h1,h2,h3⟩:=h.xs
 exact ⟨⟨xs,own_up h1 hb,h2,h3⟩,h.ij,grown_below h.gr hb⟩
theorem DSt.cell (h:DSt w lo g n c es pq B i j u) (hj:j<n) {x:EdgeV} (hx:es[j]?=some x):u.cell? ⟨g,j*2,none⟩=some (.int .i64 x.1)∧u.cell? ⟨g,j*2+1,none⟩=some (.int .i64 x.2):=by
 obtain ⟨xs,h1,_,h3⟩:=h.xs
 obtain ⟨c0,c1⟩:=ecells_at es j x hx
 have e:∀ q,xs[j*2+q]?=(ecells es)[j*2+q]?:=fun q=>by
  have:=congrArg (fun l=>l[q]?) h3
  simpa using this
 refine ⟨?_,?_⟩
 ·rw [h1.cellAt (j*2) (by omega)]
  have:=e 0
  simp only [Nat.add_zero] at this
  rw [this]
  exact c0
 ·rw [h1.cellAt (j*2+1) (by omega),e 1]
  exact c1
theorem DSt.skip (h:DSt w lo g n c es pq B i j u) {x:EdgeV} (hx:es[j]?=some x) (hv:pq x=true):DSt w lo g n c es pq B i (j+1) u:=by
 obtain ⟨xs,h1,h2,h3⟩:=h.xs
 have e:=kepE_step (pq:=pq) hx
 rw [hv,if_pos rfl,List.append_nil] at e
 refine ⟨⟨xs,h1,by rw [e];exact h2,?_⟩,by rw [e];exact h.ij,h.gr⟩
 have:=congrArg (List.drop 2) h3
 rw [List.drop_drop,List.drop_drop] at this
 rw [show (j+1)*2=j*2+2 by omega]
 exact this
theorem ts1E (xs:List Value) (m:Nat) (a:Value) (h:m<xs.length):(xs.set m a).take (m+1)=xs.take m ++ [a]:=by
 rw [List.take_add_one,List.take_set_of_le (Nat.le_refl _),List.getElem?_set_self h]
 rfl
theorem DSt.keep (h:DSt w lo g n c es pq B i j u) (hj:j<n) {x:EdgeV} (hx:es[j]?=some x) (hv:pq x=false):DSt w lo g n c es pq B (i+1) (j+1) ((u.setCell ⟨g,i*2,none⟩ (.int .i64 x.1)).setCell ⟨g,i*2+1,none⟩ (.int .i64 x.2)):=by
 obtain ⟨xs,h1,h2,h3⟩:=h.xs
 have e:=kepE_step (pq:=pq) hx
 rw [hv,if_neg (by simp)] at e
 have hi:i≤j:=by rw [h.ij];exact kepE_len es pq j
 have hl:=h1.1
 refine ⟨⟨(xs.set (i*2) (.int .i64 x.1)).set (i*2+1) (.int .i64 x.2),((h1.stored (i*2) _).1.stored (i*2+1) _).1,?_,?_⟩,?_,grown_trans (grown_trans h.gr (grownSet u g (i*2) _)) (grownSet _ g (i*2+1) _)⟩
 ·rw [show (i+1)*2=i*2+1+1 by omega,ts1E _ (i*2+1) _ (by simp;omega),ts1E _ (i*2) _ (by omega),h2,e,ecells_append]
  simp [ecells,ecell]
 ·rw [List.drop_set_of_lt (by omega),List.drop_set_of_lt (by omega)]
  have:=congrArg (List.drop 2) h3
  rw [List.drop_drop,List.drop_drop] at this
  rw [show (j+1)*2=j*2+2 by omega]
  exact this
 ·rw [e,List.length_append,← h.ij]
  rfl
end
set_option maxRecDepth 100000 in
set_option maxHeartbeats 4000000 in
theorem delFE_any (es:List EdgeV) (pq:EdgeV→Bool) (lo g n c B:Nat) (hn:n≤1048576) (w:World) (h:w.ownsRow lo 107 2 (.slice (some ⟨g,0,none⟩) n c) n (ecells es)) (HC0:∀ x ∈ es,∀ u,w.grownBy u (some g)→Calls Tryz.prog 142 #[.agg #[.int .i64 x.1,.int .i64 x.2],.pointer (some ⟨B,0,none⟩)] u fun e v=>e=.returned (.bool (pq x))∧Below u.heap.size u v) :
  Calls Tryz.prog 141 #[.slice (some ⟨g,0,none⟩) n c,.func (.func 142) #[] #[.pointer (some ⟨B,0,none⟩)]] w fun e w'=>∃ m,e=.returned (.slice (some ⟨g,0,none⟩) m c)∧m≤n∧w'.ownsRow lo 107 2 (.slice (some ⟨g,0,none⟩) m c) m (ecells (kepE es pq n))∧w.grownBy w' (some g):=by
 obtain ⟨i0,hi,hz0,hz1,hz2⟩:=info_parts infoIE
 have hlen:es.length=n:=by have:=h.1;rw [ecells_length] at this;omega
 have hnc:n≤c∧c≤maxLen:=by
  rcases h.2 with ⟨hv,_⟩ | ⟨g2,cap,cur,hv,hb,hg,h1,h2,h3,h4⟩
  ·simp at hv
  ·simp only [Value.slice.injEq,Option.some.injEq,Addr.mk.injEq,and_true,true_and] at hv
   obtain ⟨rfl,rfl⟩:=hv
   exact ⟨h1,h2⟩
 have HI:=hideIt (idxFE_m es pq n (some ⟨g,0,none⟩) c hn B w (Es_of_own h) (fun x hx u hu=>HC0 x hx u (grown_of_below hu _)))
 have HC:=hideIt HC0
 have HO:=hideIt h
 clear h HC0
 rcases firstN_cases (neP es pq) es.length with ⟨q,hq,hc,hall,he⟩ | ⟨hall,he⟩
 case inr =>
  rw [he] at HI
  have HK:Hid (kepE es pq n=es):=by show _=_;rw [kepE_all (by rw [← hlen];exact hall) (by omega),List.take_of_length_le (by omega)]
  clear he hall
  go_enter Tryz.func141,Tryz.ntmps141
  go_wp2_with (go_at_call 146;refine HI.out.mono ?_;rintro e w1 ⟨rfl,b1⟩)
  go_ret
  exact ⟨n,rfl,Nat.le_refl _,by rw [HK.out];exact own_up HO.out b1,grown_of_below b1 _⟩
 case inl =>
  rw [he] at HI
  obtain ⟨x0,hx0⟩:∃ x,es[q]?=some x:=⟨es[q],List.getElem?_eq_getElem hq⟩
  have hn0:pq x0=true:=by rw [neP_at hx0] at hc;exact hc
  have hk0:=kepE_all (i:=q) hall (by omega)
  have HD:Hid (∀ u,Below w.heap.size w u→DSt w lo g n c es pq B q (q+1) u):=fun u hu =>
   DSt.skip (j:=q) ⟨⟨ecells es,own_up HO.out hu,by rw [hk0,ecells_takeD],rfl⟩,by rw [hk0,List.length_take];omega,grown_of_below hu _⟩ hx0 hn0
  have hqn:q<n:=by omega
  have e1:((q:Int) == -1)=false:=by simp
  clear he hall hc hx0 hn0 hk0 hq
  go_enter Tryz.func141,Tryz.ntmps141
  go_wp2_with (go_at_call 146;refine HI.out.mono ?_;rintro e w1 ⟨rfl,b1⟩;refine Hid.out ?_)
  refine (show ∀ {p:Prop},p→Hid p from fun h=>h) ?_
  have D1:=HD.out w1 b1
  have HD1:=hideIt D1
  clear HI HD b1 D1 HO
  go_wp2
  go_loopw [5,6] (fun iv jv wr=>∃ i j:Nat,iv=.int .i64 (i:Int)∧jv=.int .i64 (j:Int)∧j≤n∧i<j∧Hid (DSt w lo g n c es pq B i j wr)) (fun _ jv _=>n - (intOf jv).toNat)
  case atStart=>exact ⟨q,q+1,rfl,by go_num,by omega,by omega,HD1⟩
  case round =>
   obtain ⟨i,j,rfl,rfl,hj,hij,HS⟩:=hrel
   clear HD1
   by_cases hlt:j<n
   ·obtain ⟨x,hx⟩:∃ x,es[j]?=some x:=⟨es[j]'(by omega),List.getElem?_eq_getElem (by omega)⟩
    obtain ⟨c0,c1⟩:=HS.out.cell hlt hx
    have q1:(0:Int)≤(j:Int):=by omega
    have q2:(j:Int)<(n:Int):=by omega
    have q3:(0:Int)≤(i:Int):=by omega
    have q4:(i:Int)<(n:Int):=by omega
    have d1:decide ((j:Int)<(n:Int))=true:=decide_eq_true q2
    obtain ⟨W,hW⟩:∃ W,W=wr.alloc (.cells #[.int .i64 x.1,.int .i64 x.2] 107):=⟨_,rfl⟩
    have bA:Below wr.heap.size wr W:=by rw [hW];exact (Below.refl _ _).alloc (Nat.le_refl _) _
    have X0:Box7 W wr.heap.size 107 (.int .i64 x.1) (.int .i64 x.2):=by rw [hW];exact Box7.new _ _ _ _ _ rfl
    have SW:=HS.out.up bA
    have HCx:=hideIt (HC.out x (List.mem_of_getElem? hx) W SW.gr)
    have HSW:=hideIt SW
    have HX0:=hideIt X0
    have y0:=X0.cell0
    have y1:=X0.cell1
    have hg2:Hid (g<wr.heap.size):=by obtain ⟨xs,h1,_⟩:=HS.out.xs;exact (h1.lt g rfl).2
    clear SW X0 bA
    go_upto_region 8 with fail
    rw [← hW]
    clear hW c0 c1
    cases hv:pq x with
    | true =>
     rw [hv] at HCx
     have Hx:=hideIt hx
     have Hv:=hideIt hv
     clear hx hv
     go_wp2_with (go_at_call 142;refine HCx.out.mono ?_;rintro e w2 ⟨rfl,b2⟩;refine Hid.out ?_)
     refine (show ∀ {p:Prop},p→Hid p from fun h=>h) ?_
     have HS2:=hideIt ((HSW.out.up b2).skip Hx.out Hv.out)
     clear b2 HSW HCx HX0 y0 y1
     go_wp2
     exact ⟨⟨i,j+1,rfl,by go_num,by omega,by omega,HS2⟩,by simp [intOf];omega⟩
    | false =>
     rw [hv] at HCx
     have Hx:=hideIt hx
     have Hv:=hideIt hv
     clear hx hv
     go_wp2_with (go_at_call 142;refine HCx.out.mono ?_;rintro e w2 ⟨rfl,b2⟩;refine Hid.out ?_)
     refine (show ∀ {p:Prop},p→Hid p from fun h=>h) ?_
     have S2:=HSW.out.up b2
     have X2:=HX0.out.up b2
     have z0:=X2.cell0
     have z1:=X2.cell1
     obtain ⟨xs,o2,_,_⟩:=S2.xs
     have hl3:xs.length=n*2:=o2.1
     have p0:w2.cell? ⟨g,i*2,none⟩=some (xs[i*2]'(by omega)):=by rw [o2.cellAt (i*2) (by omega)];exact List.getElem?_eq_getElem (by omega)
     have p1:w2.cell? ⟨g,i*2+1,none⟩=some (xs[i*2+1]'(by omega)):=by rw [o2.cellAt (i*2+1) (by omega)];exact List.getElem?_eq_getElem (by omega)
     have f0:=o2.frozenAt (i*2)
     have f1:=o2.frozenAt (i*2+1)
     have HS2:=hideIt (S2.keep hlt Hx.out Hv.out)
     clear b2 HSW HCx HX0 y0 y1 S2 X2 o2
     go_wp2
     exact ⟨⟨i+1,j+1,by go_num,by go_num,by omega,by omega,HS2⟩,by simp [intOf];omega⟩
   ·obtain rfl:j=n:=by omega
    have d1:decide ((j:Int)<(j:Int))=false:=decide_eq_false (by omega)
    obtain ⟨xs,o2,t2,_⟩:=HS.out.xs
    have hl3:xs.length=j*2:=o2.1
    have hcl:∀ ty,(Builtin.clear_ #[25] ty #[.slice (some ⟨g,i*2,none⟩) (j - i) (c - i)]).run Tryz.prog wr=.ok (.tuple #[]) (wr.setCells g (i*2) (List.replicate ((j - i)*2) (.int .i64 0))):=fun ty =>
     run_clear2 wr 25 107 ty Tryz.underlying25 (fun u=>by kernel_rfl) g (i*2) (j - i) (c - i) (by omega) (fun y hy=>by rw [o2.cellAt (i*2+y) (by omega),List.getElem?_eq_getElem (by omega)];rfl) (fun y _=>o2.frozenAt (i*2+y))
    obtain ⟨ys,o3,t3,g3⟩:=own_setCells (List.replicate ((j - i)*2) (.int .i64 0)) (i*2) wr xs o2
    have o4:=own_cutD o3 (m:=i) (by omega)
    rw [t3,t2] at o4
    have HO4:=hideIt o4
    have HG:=hideIt (grown_trans HS.out.gr g3)
    have q1:(0:Int)≤(i:Int):=by omega
    have q2:(i:Int)≤(j:Int):=by omega
    have q3:(i:Int)≤(c:Int):=by omega
    clear o2 o3 o4 t2 t3 g3 HC HS
    go_wp2
    go_ret
    exact ⟨i,rfl,by omega,HO4.out,HG.out⟩
theorem BxA.all15 {u:World} {b:Nat} {h:Hd} {a1 a2 a3 a4 a5 a6:Option Addr} {n1 n2 n3 n4 n5 n6 k1 k2 k3 k4 k5 k6:Nat} (X:BxA u b 35 (hC h ⟨⟨a1,n1,k1⟩,⟨a2,n2,k2⟩,⟨a3,n3,k3⟩,⟨a4,n4,k4⟩,⟨a5,n5,k5⟩,⟨a6,n6,k6⟩⟩)) :
  u.cell? ⟨b,0,none⟩=some (.int .i64 h.N)∧u.cell? ⟨b,1,none⟩=some (.slice a1 n1 k1)∧u.cell? ⟨b,2,none⟩=some (.slice a2 n2 k2)∧u.cell? ⟨b,3,none⟩=some (.slice a3 n3 k3)∧u.cell? ⟨b,4,none⟩=some (.slice a4 n4 k4)∧u.cell? ⟨b,5,none⟩=some (.int .i64 h.i)∧u.cell? ⟨b,6,none⟩=some (.int .i64 h.o)∧u.cell? ⟨b,7,none⟩=some (.int .i64 h.a)∧u.cell? ⟨b,8,none⟩=some (.int .i64 h.b)∧u.cell? ⟨b,9,none⟩=some (.int .i64 h.sh)∧u.cell? ⟨b,10,none⟩=some (.int .i64 h.num)∧u.cell? ⟨b,11,none⟩=some (.int .i64 h.op)∧u.cell? ⟨b,12,none⟩=some (.slice a5 n5 k5)∧u.cell? ⟨b,13,none⟩=some (.int .i64 h.v)∧u.cell? ⟨b,14,none⟩=some (.slice a6 n6 k6) :=
 ⟨X.cell 0 rfl,X.cell 1 rfl,X.cell 2 rfl,X.cell 3 rfl,X.cell 4 rfl,X.cell 5 rfl,X.cell 6 rfl,X.cell 7 rfl,X.cell 8 rfl,X.cell 9 rfl,X.cell 10 rfl,X.cell 11 rfl,X.cell 12 rfl,X.cell 13 rfl,X.cell 14 rfl⟩
set_option maxRecDepth 100000 in
set_option maxHeartbeats 8000000 in
theorem ownOk_inv {S:Nat} {h:Hd} {p:Hp} (k:HInv S h) (w:World) (H:HIn w h p) :
  Calls Tryz.prog 103 #[.agg (hC h p)] w fun e w'=>e=.returned (.bool true)∧Below w.heap.size w w':=by
 have HE:Hid (h.own.length=p.o.n∧(p.o.n:Int)=h.N∧p.l.n=S∧p.o.n≤12):=by
  have:=k.lens H
  have:=k.n
  refine ⟨?_,?_,?_,?_⟩ <;> omega
 obtain ⟨⟨a1,n1,k1⟩,⟨a2,n2,k2⟩,⟨a3,n3,k3⟩,⟨a4,n4,k4⟩,⟨a5,n5,k5⟩,⟨a6,n6,k6⟩⟩:=p
 dsimp only at HE
 obtain ⟨W,hW⟩:∃ W,W=w.alloc (.cells (hC h ⟨⟨a1,n1,k1⟩,⟨a2,n2,k2⟩,⟨a3,n3,k3⟩,⟨a4,n4,k4⟩,⟨a5,n5,k5⟩,⟨a6,n6,k6⟩⟩) 35):=⟨_,rfl⟩
 have bW:Below w.heap.size w W:=by rw [hW];exact belA _ _
 have X:BxA W w.heap.size 35 (hC h ⟨⟨a1,n1,k1⟩,⟨a2,n2,k2⟩,⟨a3,n3,k3⟩,⟨a4,n4,k4⟩,⟨a5,n5,k5⟩,⟨a6,n6,k6⟩⟩):=by rw [hW];exact BxA.new _ _ _
 have HX:=hideIt X
 have HB:=hideIt bW
 have HI:Hid (Is W W.heap.size a1 n1 h.own):=hideIt (H.o.up bW)
 have HV:=hideIt k.own.2
 have n12:=HE.out.2.2.2
 have q1:W.cell? ⟨w.heap.size,1,none⟩=some (.slice a1 n1 k1):=X.cell 1 rfl
 clear X bW H k
 go_enter Tryz.func103,Tryz.ntmps103
 go_upto_region 1 with fail
 rw [← hW]
 clear hW
 go_wp2
 go_loopw [8] (fun i wr=>∃ j:Nat,j≤n1∧i=.int .i64 (j:Int)∧Hid (Below W.heap.size W wr)) (fun i _=>n1 - (intOf i).toNat)
 case atStart=>exact ⟨0,by omega,rfl,Below.refl _ _⟩
 case round =>
  obtain ⟨j,hj,rfl,hb⟩:=hrel
  obtain ⟨y0,y1,y2,y3,y4,y5,y6,y7,y8,y9,y10,y11,y12,y13,y14⟩:=(HX.out.up hb.out).all15
  clear q1
  by_cases hlt:j<n1
  ·rcases (HI.out.up hb.out).2 with h0 | ⟨b,off,rfl,hbl,hc⟩
   ·omega
   ·obtain ⟨x,hx⟩:∃ x,h.own[j]?=some x:=⟨h.own[j]'(by have:=HE.out;omega),List.getElem?_eq_getElem (by have:=HE.out;omega)⟩
    have cx:=hc j x hx
    have hv:=HV.out x (List.mem_of_getElem? hx)
    have b1:(0:Int)≤(j:Int):=by omega
    have b2:(j:Int)<(n1:Int):=by omega
    have HS:=hideIt (hasShard_any h ⟨⟨some ⟨b,off,none⟩,n1,k1⟩,⟨a2,n2,k2⟩,⟨a3,n3,k3⟩,⟨a4,n4,k4⟩,⟨a5,n5,k5⟩,⟨a6,n6,k6⟩⟩ x wr)
    rw [decide_eq_true (show 1≤x∧x≤(n3:Int) by have:=HE.out.2.2.1;omega)] at HS
    clear hc hx hv
    go_wp2_with (go_at_call 124;refine HS.out.mono ?_;rintro e w1 ⟨rfl,hb1⟩)
    exact ⟨⟨j+1,by omega,by go_num,hb.out.trans (hb1.mono hb.out.size)⟩,by simp [intOf];omega⟩
  ·obtain rfl:j=n1:=by omega
   have d1:decide ((j:Int)<(j:Int))=false:=by simp
   have d2:((j:Int) == h.N)=true:=by rw [HE.out.2.1];simp
   go_wp2
   go_ret
   exact ⟨rfl,HB.out.trans (hb.out.mono HB.out.size)⟩
theorem cutsIt_any {h:Hd} {p:Hp} (e:O.EdgeV) (B:Nat) (w:World) (hX:BxA w B 35 (hC h p)) (hI:Is w w.heap.size p.o.a p.o.n h.own) (h1:0≤e.1∧e.1<(p.o.n:Int)) (h2:0≤e.2∧e.2<(p.o.n:Int)) :
  Calls Tryz.prog 125 #[.agg #[.int .i64 e.1,.int .i64 e.2],.pointer (some ⟨B,0,none⟩)] w fun r w'=>r=.returned (.bool (O.atI h.own e.1 == O.atI h.own e.2))∧Below w.heap.size w w':=by
 obtain ⟨x,y⟩:=e
 obtain ⟨⟨a1,n1,k1⟩,⟨a2,n2,k2⟩,⟨a3,n3,k3⟩,⟨a4,n4,k4⟩,⟨a5,n5,k5⟩,⟨a6,n6,k6⟩⟩:=p
 dsimp only at h1 h2 hI ⊢
 have hl:=hI.1
 obtain ⟨i,rfl⟩:∃ i:Nat,x=(i:Int):=⟨x.toNat,by omega⟩
 obtain ⟨j,rfl⟩:∃ j:Nat,y=(j:Int):=⟨y.toNat,by omega⟩
 have m1:=(atI_mem (ls:=h.own) h1.1 (by omega)).2
 have m2:=(atI_mem (ls:=h.own) h2.1 (by omega)).2
 rw [Int.toNat_natCast] at m1 m2
 have hW:Below w.heap.size w (w.alloc (.cells #[.int .i64 (i:Int),.int .i64 (j:Int)] 107)):=belA _ _
 have Y:=hX.up hW
 have q1:(w.alloc (.cells #[.int .i64 (i:Int),.int .i64 (j:Int)] 107)).cell? ⟨B,1,none⟩=some (.slice a1 n1 k1):=Y.cell 1 rfl
 rcases (hI.up hW).2 with h0 | ⟨b,off,rfl,hbl,hc⟩
 ·omega
 ·have c1:=hc i _ m1
  have c2:=hc j _ m2
  have p1:(0:Int)≤(i:Int):=by omega
  have p2:(i:Int)<(n1:Int):=by omega
  have p3:(0:Int)≤(j:Int):=by omega
  have p4:(j:Int)<(n1:Int):=by omega
  have HW:=hideIt hW
  clear hX hI hl h1 h2 m1 m2 Y hc hW
  generalize O.atI h.own (i:Int)=x1 at *
  generalize O.atI h.own (j:Int)=x2 at *
  go_enter Tryz.func125,Tryz.ntmps125
  go_upto_region 1 with fail
  go_region
  all_goals
   go_wp2
   go_ret
   exact ⟨rfl,HW.out.drew⟩
set_option maxRecDepth 100000 in
set_option maxHeartbeats 8000000 in
theorem cuts_inv {S:Nat} {h:Hd} {p:Hp} (k:HInv S h) (w:World) (H:HIn w h p) :
  Calls Tryz.prog 104 #[.agg (hC h p)] w fun e w'=>e=.returned (.bool (ctB h))∧Below w.heap.size w w':=by
 have hmf:∀ (fn:Fn) (first cap:Array Value) (w:World),(Instr.makeFunc fn first cap).run Tryz.prog w=.ok (.func fn first cap) w:=fun _ _ _ _=>rfl
 have hl:=k.lens H
 obtain ⟨W,hW⟩:∃ W,W=w.alloc (.cells (hC h p) 35):=⟨_,rfl⟩
 have bW:Below w.heap.size w W:=by rw [hW];exact belA _ _
 have X:BxA W w.heap.size 35 (hC h p):=by rw [hW];exact BxA.new _ _ _
 have HX:=hideIt X
 have HB:=hideIt bW
 have HH:=hideIt (H.up bW)
 have HE:=hideIt (O.edgesOk_any h.N h.cuts p.c.n p.c.a p.c.c (by omega) W HH.out.c)
 have HC:Hid (∀ u,Below W.heap.size W u→Calls Tryz.prog 126 #[.slice p.c.a p.c.n p.c.c,.func (.func 125) #[] #[.pointer (some ⟨w.heap.size,0,none⟩)]] u fun e v=>e=.returned (.bool (h.cuts.any fun e=>O.atI h.own e.1 == O.atI h.own e.2))∧Below u.heap.size u v):=fun u hu =>
  conFE_any h.cuts _ p.c.n p.c.a p.c.c (by omega) w.heap.size u (HH.out.up hu).c fun x hx v hv=>by
   have hb:=O.chk_eB (by have:=k.cut;unfold O.eOk at this;rw [Bool.and_eq_true] at this;exact this.1) hx
   rw [O.eB_iff'] at hb
   exact cutsIt_any x w.heap.size v (HX.out.up (hu.trans (hv.mono hu.size))) ((HH.out.up hu).up hv).o (by omega) (by omega)
 have HA:Hid ((!(h.cuts.any fun e=>O.atI h.own e.1 == O.atI h.own e.2))=ctB h):=by
  show _=_
  unfold ctB
  rw [List.any_eq_not_all_not]
  simp
 have e1:(O.chk h.N h.cuts && decide (h.cuts.length≤66))=true:=k.cut
 rw [e1] at HE
 have q0:W.cell? ⟨w.heap.size,0,none⟩=some (.int .i64 h.N):=X.cell 0 rfl
 have q2:W.cell? ⟨w.heap.size,2,none⟩=some (.slice p.c.a p.c.n p.c.c):=X.cell 2 rfl
 clear X bW H k hl
 generalize (h.cuts.any fun e=>O.atI h.own e.1 == O.atI h.own e.2)=bb at *
 go_enter Tryz.func104,Tryz.ntmps104
 go_upto_region 1 with fail
 rw [← hW]
 clear hW
 go_wp2_with (first
  | (go_at_call 100;refine HE.out.mono ?_;rintro e w1 ⟨rfl,hb1⟩;have y2:w1.cell? ⟨w.heap.size,2,none⟩=some (.slice p.c.a p.c.n p.c.c):=(HX.out.up hb1).cell 2 rfl;have HC1:=hideIt (HC.out _ hb1))
  | (go_at_call 126;refine HC1.out.mono ?_;rintro e w2 ⟨rfl,hb2⟩))
 go_ret
 exact ⟨retB20 HA.out,HB.out.trans ((hb1.trans (hb2.mono hb1.size)).mono HB.out.size)⟩
theorem Ss.takeN {w:World} {B n j:Nat} {a:Option Addr} {ss:List Sd} (h:Ss w B a n ss) (hj:j≤n):Ss w B a j (ss.take j):=by
 have hl:=h.1
 refine ⟨by rw [List.length_take];omega,?_⟩
 rcases h.2 with h0 | ⟨b,off,e,hb,hc⟩
 ·exact .inl (by omega)
 ·refine .inr ⟨b,off,e,hb,fun i x hx=>hc i x ?_⟩
  have:=(List.getElem?_eq_some_iff.1 hx).1
  rw [List.length_take] at this
  rwa [List.getElem?_take_of_lt (by omega)] at hx
theorem isSaid_any (ss:List Sd) (id:Int) (n:Nat) (a:Option Addr) (c:Nat) (hn:n≤1048576) (w:World) (h:Ss w w.heap.size a n ss) :
  Calls Tryz.prog 90 #[.slice a n c,.int .i64 id] w fun e w'=>e=.returned (.bool (decide (0≤plc ss id)))∧Below w.heap.size w w':=by
 have HP:=hideIt (placeSaid_any ss id n a c hn w h)
 clear h
 go_enter Tryz.func90,Tryz.ntmps90
 go_wp2_with (go_at_call 109;refine HP.out.mono ?_;rintro e w1 ⟨rfl,hb1⟩)
 go_ret
 exact ⟨rfl,hb1⟩
theorem plc_take {ss:List Sd} {id:Int} {k:Nat} (h:plc ss id=(k:Int)):plc (ss.take k) id = -1:=plc_no fun j y hy=>by
 have hj:=(List.getElem?_eq_some_iff.1 hy).1
 rw [List.length_take] at hj
 rw [List.getElem?_take_of_lt (by omega)] at hy
 exact plc_fst h j y (by omega) hy
set_option maxRecDepth 100000 in
set_option maxHeartbeats 8000000 in
theorem saidOk_inv {S:Nat} {h:Hd} {p:Hp} (k:HInv S h) (w:World) (H:HIn w h p) (hsl:p.s.n≤p.s.c) :
  Calls Tryz.prog 105 #[.agg (hC h p)] w fun e w'=>e=.returned (.bool true)∧Below w.heap.size w w':=by
 have HE:Hid (h.said.length=p.s.n∧p.s.n≤80):=by
  have:=k.lens H
  exact ⟨by omega,by omega⟩
 obtain ⟨sO,sC,sL,sN,sE,⟨a6,n6,k6⟩⟩:=p
 dsimp only at HE hsl
 obtain ⟨W,hW⟩:∃ W,W=w.alloc (.cells (hC h ⟨sO,sC,sL,sN,sE,⟨a6,n6,k6⟩⟩) 35):=⟨_,rfl⟩
 have bW:Below w.heap.size w W:=by rw [hW];exact belA _ _
 have X:BxA W w.heap.size 35 (hC h ⟨sO,sC,sL,sN,sE,⟨a6,n6,k6⟩⟩):=by rw [hW];exact BxA.new _ _ _
 have HX:=hideIt X
 have HB:=hideIt bW
 have HI:Hid (Ss W W.heap.size a6 n6 h.said):=hideIt (H.s.up bW)
 have HV:=hideIt k.sd.2
 have n80:=HE.out.2
 have d80:decide (80<(n6:Int))=false:=decide_eq_false (by omega)
 have q1:W.cell? ⟨w.heap.size,14,none⟩=some (.slice a6 n6 k6):=X.cell 14 rfl
 clear X bW H k
 go_enter Tryz.func105,Tryz.ntmps105
 go_upto_region 1 with fail
 rw [← hW]
 clear hW
 go_wp2
 go_loopw [12] (fun i wr=>∃ j:Nat,j≤n6∧i=.int .i64 (j:Int)∧Hid (Below W.heap.size W wr)) (fun i _=>n6 - (intOf i).toNat)
 case atStart=>exact ⟨0,by omega,rfl,Below.refl _ _⟩
 case round =>
  obtain ⟨j,hj,rfl,hb⟩:=hrel
  clear q1
  by_cases hlt:j<n6
  ·obtain ⟨b1,off,x,rfl,hbl,hx,hat⟩:=(HI.out.up hb.out).at hlt
   obtain ⟨e0,e1,e2,e3,e4,e5⟩:=hat
   obtain ⟨v1,v2,v3⟩:=HV.out j x hx
   obtain ⟨W2,hW2⟩:∃ W2,W2=wr.alloc (.cells #[.int .i64 x.id,.int .i64 x.i,.int .i64 x.o,.int .i64 x.a,.int .i64 x.b,.int .i64 x.s] 82):=⟨_,rfl⟩
   have bW2:Below wr.heap.size wr W2:=by rw [hW2];exact belA _ _
   have XS:BxA W2 wr.heap.size 82 #[.int .i64 x.id,.int .i64 x.i,.int .i64 x.o,.int .i64 x.a,.int .i64 x.b,.int .i64 x.s]:=by rw [hW2];exact BxA.new _ _ _
   have z0:=XS.cell 0 rfl
   have z1:=XS.cell 1 rfl
   have z2:=XS.cell 5 rfl
   have y14:W2.cell? ⟨w.heap.size,14,none⟩=some (.slice (some ⟨b1,off,none⟩) n6 k6):=((HX.out.up hb.out).up bW2).cell 14 rfl
   have HIs:Hid (∀ u,Below W2.heap.size W2 u→Calls Tryz.prog 90 #[.slice (some ⟨b1,off,none⟩) j k6,.int .i64 x.id] u fun e v=>e=.returned (.bool false)∧Below u.heap.size u v):=fun u hu=>by
    have:=isSaid_any (h.said.take j) x.id j (some ⟨b1,off,none⟩) k6 (by omega) u ((((HI.out.up hb.out).up bW2).takeN (by omega)).up hu)
    rwa [plc_take v3] at this
   have HB2:=hideIt (hb.out.trans (bW2.mono hb.out.size))
   have q1:(0:Int)≤(j:Int):=by omega
   have q2:(j:Int)<(n6:Int):=by omega
   have q3:(j:Int)≤(n6:Int):=by omega
   have q4:(j:Int)≤(k6:Int):=by omega
   have r1:(x.id != x.i)=false:=by rw [v1];simp
   have r2:decide (x.s<1)=false:=decide_eq_false (by omega)
   have r3:decide (3<x.s)=false:=decide_eq_false (by omega)
   clear hx v1 v2 v3 XS bW2
   go_upto_region 6 with fail
   rw [← hW2]
   clear hW2
   go_region_with (go_at_call 90;refine (HIs.out _ (by first | exact Below.refl _ _ | exact (Below.refl _ _).drew)).mono ?_;rintro e w3 ⟨rfl,hb3⟩)
   all_goals
    go_wp2
    exact ⟨⟨j+1,by omega,by go_num,HB2.out.drew.trans (hb3.mono HB2.out.size)⟩,by simp [intOf];omega⟩
  ·obtain rfl:j=n6:=by omega
   have d1:decide ((j:Int)<(j:Int))=false:=by simp
   go_wp2
   go_ret
   exact ⟨rfl,HB.out.trans (hb.out.mono HB.out.size)⟩
structure HR (S:Nat) (w:World) (h:Hd) (p:Hp):Prop where
 inv:HInv S h
 inn:HIn w h p
 so:O.Sl p.o.a p.o.n p.o.c
 sc:O.Sl p.c.a p.c.n p.c.c
 sl:O.Sl p.l.a p.l.n p.l.c
 sn:O.Sl p.n.a p.n.n p.n.c
 se:O.Sl p.e.a p.e.n p.e.c
 ss:O.Sl p.s.a p.s.n p.s.c
theorem HR.up {S:Nat} {w u:World} {h:Hd} {p:Hp} (k:HR S w h p) (hb:Below w.heap.size w u):HR S u h p:=⟨k.inv,k.inn.up hb,k.so,k.sc,k.sl,k.sn,k.se,k.ss⟩
theorem HR.elen {S:Nat} {w:World} {h:Hd} {p:Hp} (k:HR S w h p):p.e.n≤66:=by
 have h1:=k.inn.e.1
 rcases k.inv.tk with t | t
 ·have:=t.2.2.2.2.2.2.2.1
  rw [this] at h1
  simp at h1
  omega
 ·have:=(O.oB_parts t.or).2.2.1.2
  dsimp only at this
  omega
theorem taskZero_no (i o a b sh num op v:Int) (a5:Option Addr) (n5 k5:Nat) (hi:1≤i) (w:World):Calls Tryz.prog 127 #[.agg #[.int .i64 i,.int .i64 o,.int .i64 a,.int .i64 b,.int .i64 sh,.int .i64 num,.int .i64 op,.slice a5 n5 k5,.int .i64 v]] w fun e w'=>e=.returned (.bool false)∧Below w.heap.size w w':=by
 have d1:(i == 0)=false:=by simp;omega
 go_enter Tryz.func127,Tryz.ntmps127
 go_wp2
 go_ret
 exact ⟨rfl,(Below.refl _ _).alloc (Nat.le_refl _) _⟩
theorem ordZero_yes (a5:Option Addr) (k5:Nat) (w:World):Calls Tryz.prog 147 #[.agg #[.int .i64 0,.int .i64 0,.slice a5 0 k5,.int .i64 0]] w fun e w'=>e=.returned (.bool true)∧Below w.heap.size w w':=by
 go_enter Tryz.func147,Tryz.ntmps147
 go_wp2
 go_ret
 exact ⟨rfl,(Below.refl _ _).alloc (Nat.le_refl _) _⟩
theorem taskZero_yes (a5:Option Addr) (k5:Nat) (w:World):Calls Tryz.prog 127 #[.agg #[.int .i64 0,.int .i64 0,.int .i64 0,.int .i64 0,.int .i64 0,.int .i64 0,.int .i64 0,.slice a5 0 k5,.int .i64 0]] w fun e w'=>e=.returned (.bool true)∧Below w.heap.size w w':=by
 have HO:=hideIt (ordZero_yes a5 k5)
 go_enter Tryz.func127,Tryz.ntmps127
 go_wp2_with (go_at_call 147;refine (HO.out _).mono ?_;rintro e w1 ⟨rfl,hb1⟩)
 go_ret
 exact ⟨rfl,((Below.refl _ _).alloc (Nat.le_refl _) _).trans (hb1.mono (by simp))⟩
set_option maxRecDepth 100000 in
set_option maxHeartbeats 8000000 in
theorem taskOk_inv {S:Nat} {h:Hd} {p:Hp} (w:World) (R:HR S w h p) :
  Calls Tryz.prog 106 #[.agg (hC h p)] w fun e w'=>e=.returned (.bool true)∧Below w.heap.size w w':=by
 have hl:=R.inv.lens R.inn
 have he:=R.elen
 rcases R.inv.tk with t | t
 ·have h5:=R.inn.e.1
  obtain ⟨N,own,cuts,lab,nums,i,o,a,b,sh,num,op,es,v,said⟩:=h
  obtain ⟨sO,sC,sL,sN,⟨a5,n5,k5⟩,sS⟩:=p
  obtain ⟨t1,t2,t3,t4,t5,t6,t7,t8,t9⟩:=t
  dsimp only at t1 t2 t3 t4 t5 t6 t7 t8 t9 h5
  subst t1 t2 t3 t4 t5 t6 t7 t8 t9
  obtain rfl:0=n5:=h5
  have HO:=hideIt (taskZero_yes a5 k5)
  clear R hl he
  obtain ⟨W,hW⟩:∃ W,W=w.alloc (.cells (hC ⟨N,own,cuts,lab,nums,0,0,0,0,0,0,0,[],0,said⟩ ⟨sO,sC,sL,sN,⟨a5,0,k5⟩,sS⟩) 35):=⟨_,rfl⟩
  have bW:Below w.heap.size w W:=by rw [hW];exact belA _ _
  have X:BxA W w.heap.size 35 (hC ⟨N,own,cuts,lab,nums,0,0,0,0,0,0,0,[],0,said⟩ ⟨sO,sC,sL,sN,⟨a5,0,k5⟩,sS⟩):=by rw [hW];exact BxA.new _ _ _
  have HB:=hideIt bW
  have y5:W.cell? ⟨w.heap.size,5,none⟩=some (.int .i64 0):=X.cell 5 rfl
  have y6:W.cell? ⟨w.heap.size,6,none⟩=some (.int .i64 0):=X.cell 6 rfl
  have y7:W.cell? ⟨w.heap.size,7,none⟩=some (.int .i64 0):=X.cell 7 rfl
  have y8:W.cell? ⟨w.heap.size,8,none⟩=some (.int .i64 0):=X.cell 8 rfl
  have y9:W.cell? ⟨w.heap.size,9,none⟩=some (.int .i64 0):=X.cell 9 rfl
  have y10:W.cell? ⟨w.heap.size,10,none⟩=some (.int .i64 0):=X.cell 10 rfl
  have y11:W.cell? ⟨w.heap.size,11,none⟩=some (.int .i64 0):=X.cell 11 rfl
  have y12:W.cell? ⟨w.heap.size,12,none⟩=some (.slice a5 0 k5):=X.cell 12 rfl
  have y13:W.cell? ⟨w.heap.size,13,none⟩=some (.int .i64 0):=X.cell 13 rfl
  clear X bW
  go_enter Tryz.func106,Tryz.ntmps106
  go_upto_region 1 with fail
  rw [← hW]
  clear hW
  go_wp2_with (go_at_call 127;refine (HO.out _).mono ?_;rintro e w1 ⟨rfl,hb1⟩)
  go_ret
  exact ⟨rfl,HB.out.trans (((belA _ _).trans (hb1.mono (by simp))).mono HB.out.size)⟩
 ·have hcap:=R.ss
  have hsl:p.s.n≤p.s.c:=hcap.1
  obtain ⟨⟨a1,n1,k1⟩,⟨a2,n2,k2⟩,⟨a3,n3,k3⟩,⟨a4,n4,k4⟩,⟨a5,n5,k5⟩,⟨a6,n6,k6⟩⟩:=p
  obtain ⟨N,own,cuts,lab,nums,i,o,a,b,sh,num,op,es,v,said⟩:=h
  have s1:=t.sh
  dsimp only at hl he hsl s1
  obtain ⟨s,rfl⟩:∃ s:Nat,sh=(s:Int)+1:=⟨(sh - 1).toNat,by omega⟩
  have tor:=t.or
  have tpl:=t.pl
  have to3:=t.o3
  have tnu:=t.nu
  have tid:=t.id
  have isd:=R.inv.sd.1
  have ss3:=R.inv.s
  have inu:=R.inv.num
  dsimp only at tor tpl to3 tnu tid isd inu
  rw [show (s:Int)+1 - 1=(s:Int) by omega] at tnu
  obtain ⟨W,hW⟩:∃ W,W=(w.alloc (.cells (hC ⟨N,own,cuts,lab,nums,i,o,a,b,(s:Int)+1,num,op,es,v,said⟩ ⟨⟨a1,n1,k1⟩,⟨a2,n2,k2⟩,⟨a3,n3,k3⟩,⟨a4,n4,k4⟩,⟨a5,n5,k5⟩,⟨a6,n6,k6⟩⟩) 35)).alloc (.cells #[.int .i64 i,.int .i64 o,.int .i64 a,.int .i64 b,.int .i64 ((s:Int)+1),.int .i64 num,.int .i64 op,.slice a5 n5 k5,.int .i64 v] 32):=⟨_,rfl⟩
  have X0:=BxA.new w 35 (hC ⟨N,own,cuts,lab,nums,i,o,a,b,(s:Int)+1,num,op,es,v,said⟩ ⟨⟨a1,n1,k1⟩,⟨a2,n2,k2⟩,⟨a3,n3,k3⟩,⟨a4,n4,k4⟩,⟨a5,n5,k5⟩,⟨a6,n6,k6⟩⟩)
  have bW:Below w.heap.size w W:=by rw [hW];exact (belA _ _).alloc (by simp) _
  have X:BxA W w.heap.size 35 (hC ⟨N,own,cuts,lab,nums,i,o,a,b,(s:Int)+1,num,op,es,v,said⟩ ⟨⟨a1,n1,k1⟩,⟨a2,n2,k2⟩,⟨a3,n3,k3⟩,⟨a4,n4,k4⟩,⟨a5,n5,k5⟩,⟨a6,n6,k6⟩⟩):=by rw [hW];exact X0.up (belA _ _)
  have T:BxA W (w.heap.size+1) 32 #[.int .i64 i,.int .i64 o,.int .i64 a,.int .i64 b,.int .i64 ((s:Int)+1),.int .i64 num,.int .i64 op,.slice a5 n5 k5,.int .i64 v]:=by
   have:=BxA.new (w.alloc (.cells (hC ⟨N,own,cuts,lab,nums,i,o,a,b,(s:Int)+1,num,op,es,v,said⟩ ⟨⟨a1,n1,k1⟩,⟨a2,n2,k2⟩,⟨a3,n3,k3⟩,⟨a4,n4,k4⟩,⟨a5,n5,k5⟩,⟨a6,n6,k6⟩⟩) 35)) 32 #[.int .i64 i,.int .i64 o,.int .i64 a,.int .i64 b,.int .i64 ((s:Int)+1),.int .i64 num,.int .i64 op,.slice a5 n5 k5,.int .i64 v]
   rw [show (w.alloc (.cells (hC ⟨N,own,cuts,lab,nums,i,o,a,b,(s:Int)+1,num,op,es,v,said⟩ ⟨⟨a1,n1,k1⟩,⟨a2,n2,k2⟩,⟨a3,n3,k3⟩,⟨a4,n4,k4⟩,⟨a5,n5,k5⟩,⟨a6,n6,k6⟩⟩) 35)).heap.size=w.heap.size+1 by simp] at this
   rw [hW];exact this
  have HB:=hideIt bW
  have HI:=hideIt (R.inn.up bW)
  have HZ:=hideIt (taskZero_no i o a b ((s:Int)+1) num op v a5 n5 k5 tid.1)
  have q1:(0:Int)≤(s:Int):=by omega
  have q2:(s:Int)<(n4:Int):=by omega
  have hm:=(atI_mem (ls:=nums) (v:=(s:Int)) q1 (by have:=hl.2.2.2.2.2.2.2.2;omega)).2
  rw [Int.toNat_natCast] at hm
  have hmb:=inu.2 _ (atI_mem (ls:=nums) (v:=(s:Int)) q1 (by have:=hl.2.2.2.2.2.2.2.2;omega)).1
  obtain ⟨bn,on,e4,hbn,hcn⟩:∃ bn on,a4=some ⟨bn,on,none⟩∧bn<W.heap.size∧W.cell? ⟨bn,on+s,none⟩=some (.int .i64 (O.atI nums ((s:Int)))):=by
   rcases HI.out.n.2 with h0 | ⟨bn,on,e,hb,hc⟩
   ·dsimp only at h0;omega
   ·exact ⟨bn,on,e,hb,hc _ _ hm⟩
  subst e4
  have HX:=hideIt X
  have HT:=hideIt T
  have HC:Hid (∀ u,Below W.heap.size W u→(u.cell? ⟨w.heap.size,0,none⟩=some (.int .i64 N)∧u.cell? ⟨w.heap.size,4,none⟩=some (.slice (some ⟨bn,on,none⟩) n4 k4)∧u.cell? ⟨w.heap.size,14,none⟩=some (.slice a6 n6 k6))∧(u.cell? ⟨w.heap.size+1,0,none⟩=some (.int .i64 i)∧u.cell? ⟨w.heap.size+1,1,none⟩=some (.int .i64 o)∧u.cell? ⟨w.heap.size+1,4,none⟩=some (.int .i64 ((s:Int)+1))∧u.cell? ⟨w.heap.size+1,5,none⟩=some (.int .i64 num)∧u.cell? ⟨w.heap.size+1,6,none⟩=some (.int .i64 op)∧u.cell? ⟨w.heap.size+1,7,none⟩=some (.slice a5 n5 k5)∧u.cell? ⟨w.heap.size+1,8,none⟩=some (.int .i64 v))∧u.cell? ⟨bn,on+s,none⟩=some (.int .i64 (O.atI nums ((s:Int))))):=fun u hu =>
   ⟨⟨(HX.out.up hu).cell 0 rfl,(HX.out.up hu).cell 4 rfl,(HX.out.up hu).cell 14 rfl⟩,⟨(HT.out.up hu).cell 0 rfl,(HT.out.up hu).cell 1 rfl,(HT.out.up hu).cell 4 rfl,(HT.out.up hu).cell 5 rfl,(HT.out.up hu).cell 6 rfl,(HT.out.up hu).cell 7 rfl,(HT.out.up hu).cell 8 rfl⟩,by rw [hu.cell (p:=⟨bn,on+s,none⟩) hbn];exact hcn⟩
  have H1:Hid (∀ u,Below W.heap.size W u→Calls Tryz.prog 124 #[.agg (hC ⟨N,own,cuts,lab,nums,i,o,a,b,(s:Int)+1,num,op,es,v,said⟩ ⟨⟨a1,n1,k1⟩,⟨a2,n2,k2⟩,⟨a3,n3,k3⟩,⟨some ⟨bn,on,none⟩,n4,k4⟩,⟨a5,n5,k5⟩,⟨a6,n6,k6⟩⟩),.int .i64 ((s:Int)+1)] u fun e v=>e=.returned (.bool true)∧Below W.heap.size W v):=fun u hu =>
   (hasShard_any _ _ _ u).mono fun e v ⟨h1,h2⟩=>⟨by rw [h1,decide_eq_true (show 1≤(s:Int)+1∧(s:Int)+1≤(n3:Int) by omega)],hu.trans (h2.mono hu.size)⟩
  have H2:Hid (∀ u,Below W.heap.size W u→Calls Tryz.prog 128 #[.int .i64 N,.agg #[.int .i64 num,.int .i64 op,.slice a5 n5 k5,.int .i64 v]] u fun e v=>e=.returned (.bool true)∧Below W.heap.size W v):=fun u hu =>
   (O.iOrderOk_any N num op es v n5 a5 k5 (by omega) u (HI.out.up hu).e).mono fun e v ⟨h1,h2⟩=>⟨by rw [h1,tor],hu.trans (h2.mono hu.size)⟩
  have H3:Hid (∀ u,Below W.heap.size W u→Calls Tryz.prog 90 #[.slice a6 n6 k6,.int .i64 i] u fun e v=>e=.returned (.bool false)∧Below W.heap.size W v):=fun u hu =>
   (isSaid_any said i n6 a6 k6 (by omega) u (HI.out.up hu).s).mono fun e v ⟨h1,h2⟩=>⟨by rw [h1,tpl];rfl,hu.trans (h2.mono hu.size)⟩
  have o3:(o != 3)=true:=by have:=to3;simpa using this
  have o4:(num == O.atI nums ((s:Int))+1)=true:=by rw [tnu];simp
  have b1:O.atI nums ((s:Int))≤1000:=by split at hmb <;> omega
  have b2:0≤O.atI nums ((s:Int)):=hmb.1
  have hAll:Hid (∀ u,Below W.heap.size W u→BxA u w.heap.size 35 (hC ⟨N,own,cuts,lab,nums,i,o,a,b,(s:Int)+1,num,op,es,v,said⟩ ⟨⟨a1,n1,k1⟩,⟨a2,n2,k2⟩,⟨a3,n3,k3⟩,⟨some ⟨bn,on,none⟩,n4,k4⟩,⟨a5,n5,k5⟩,⟨a6,n6,k6⟩⟩)):=fun u hu=>HX.out.up hu
  have w0:IntKind.i64.wrap (s:Int)=(s:Int):=by rw [IntKind.wrap_i64];omega
  have w1:IntKind.i64.wrap ((s:Int)+1 - 1)=(s:Int):=by rw [IntKind.wrap_i64];omega
  have w2:IntKind.i64.wrap (O.atI nums ((s:Int))+1)=O.atI nums ((s:Int))+1:=by rw [IntKind.wrap_i64];omega
  generalize O.atI nums ((s:Int))=xnum at *
  obtain ⟨y0,y1,y2,y3,y4,y5,y6,y7,y8,y9,y10,y11,y12,y13,y14⟩:=X0.all15
  obtain ⟨_,⟨z0,z1,z4,z5,z6,z7,z8⟩,_⟩:=HC.out W (Below.refl _ _)
  have z2:W.cell? ⟨w.heap.size+1,2,none⟩=some (.int .i64 a):=T.cell 2 rfl
  have z3:W.cell? ⟨w.heap.size+1,3,none⟩=some (.int .i64 b):=T.cell 3 rfl
  clear X T bW R t hl he hcap hsl hm hmb hcn X0 tnu tor tpl to3 tid isd inu ss3
  go_enter Tryz.func106,Tryz.ntmps106
  go_upto_region 2 with fail
  rw [← hW]
  clear hW y0 y1 y2 y3 y4 y5 y6 y7 y8 y9 y10 y11 y12 y13 y14
  go_wp2_with (go_at_call 127;refine (HZ.out _).mono ?_;rintro e w1 ⟨rfl,c1⟩;refine Hid.out ?_)
  refine hidp20 ?_
  have HS:∀ u,Below W.heap.size W u→u.cell? ⟨w.heap.size,0,none⟩=some (.int .i64 N)∧u.cell? ⟨w.heap.size,1,none⟩=some (.slice a1 n1 k1)∧u.cell? ⟨w.heap.size,2,none⟩=some (.slice a2 n2 k2)∧u.cell? ⟨w.heap.size,3,none⟩=some (.slice a3 n3 k3)∧u.cell? ⟨w.heap.size,4,none⟩=some (.slice (some ⟨bn,on,none⟩) n4 k4)∧u.cell? ⟨w.heap.size,5,none⟩=some (.int .i64 i)∧u.cell? ⟨w.heap.size,6,none⟩=some (.int .i64 o)∧u.cell? ⟨w.heap.size,7,none⟩=some (.int .i64 a)∧u.cell? ⟨w.heap.size,8,none⟩=some (.int .i64 b)∧u.cell? ⟨w.heap.size,9,none⟩=some (.int .i64 ((s:Int)+1))∧u.cell? ⟨w.heap.size,10,none⟩=some (.int .i64 num)∧u.cell? ⟨w.heap.size,11,none⟩=some (.int .i64 op)∧u.cell? ⟨w.heap.size,12,none⟩=some (.slice a5 n5 k5)∧u.cell? ⟨w.heap.size,13,none⟩=some (.int .i64 v)∧u.cell? ⟨w.heap.size,14,none⟩=some (.slice a6 n6 k6)∧u.cell? ⟨w.heap.size+1,0,none⟩=some (.int .i64 i)∧u.cell? ⟨w.heap.size+1,1,none⟩=some (.int .i64 o)∧u.cell? ⟨w.heap.size+1,4,none⟩=some (.int .i64 ((s:Int)+1))∧u.cell? ⟨w.heap.size+1,5,none⟩=some (.int .i64 num)∧u.cell? ⟨w.heap.size+1,6,none⟩=some (.int .i64 op)∧u.cell? ⟨w.heap.size+1,7,none⟩=some (.slice a5 n5 k5)∧u.cell? ⟨w.heap.size+1,8,none⟩=some (.int .i64 v)∧u.cell? ⟨bn,on+s,none⟩=some (.int .i64 xnum)∧Below W.heap.size W u:=fun u hu=>by
   obtain ⟨y0,y1,y2,y3,y4,y5,y6,y7,y8,y9,y10,y11,y12,y13,y14⟩:=(hAll.out u hu).all15
   obtain ⟨_,⟨z0,z1,z4,z5,z6,z7,z8⟩,zn⟩:=HC.out u hu
   exact ⟨y0,y1,y2,y3,y4,y5,y6,y7,y8,y9,y10,y11,y12,y13,y14,z0,z1,z4,z5,z6,z7,z8,zn,hu⟩
  have HS:=hideIt HS
  clear z0 z1 z2 z3 z4 z5 z6 z7 z8 HC hAll HZ
  go_upto_region 4 with fail
  go_region_held3 (fun u=>u.cell? ⟨w.heap.size,0,none⟩=some (.int .i64 N)∧u.cell? ⟨w.heap.size,1,none⟩=some (.slice a1 n1 k1)∧u.cell? ⟨w.heap.size,2,none⟩=some (.slice a2 n2 k2)∧u.cell? ⟨w.heap.size,3,none⟩=some (.slice a3 n3 k3)∧u.cell? ⟨w.heap.size,4,none⟩=some (.slice (some ⟨bn,on,none⟩) n4 k4)∧u.cell? ⟨w.heap.size,5,none⟩=some (.int .i64 i)∧u.cell? ⟨w.heap.size,6,none⟩=some (.int .i64 o)∧u.cell? ⟨w.heap.size,7,none⟩=some (.int .i64 a)∧u.cell? ⟨w.heap.size,8,none⟩=some (.int .i64 b)∧u.cell? ⟨w.heap.size,9,none⟩=some (.int .i64 ((s:Int)+1))∧u.cell? ⟨w.heap.size,10,none⟩=some (.int .i64 num)∧u.cell? ⟨w.heap.size,11,none⟩=some (.int .i64 op)∧u.cell? ⟨w.heap.size,12,none⟩=some (.slice a5 n5 k5)∧u.cell? ⟨w.heap.size,13,none⟩=some (.int .i64 v)∧u.cell? ⟨w.heap.size,14,none⟩=some (.slice a6 n6 k6)∧u.cell? ⟨w.heap.size+1,0,none⟩=some (.int .i64 i)∧u.cell? ⟨w.heap.size+1,1,none⟩=some (.int .i64 o)∧u.cell? ⟨w.heap.size+1,4,none⟩=some (.int .i64 ((s:Int)+1))∧u.cell? ⟨w.heap.size+1,5,none⟩=some (.int .i64 num)∧u.cell? ⟨w.heap.size+1,6,none⟩=some (.int .i64 op)∧u.cell? ⟨w.heap.size+1,7,none⟩=some (.slice a5 n5 k5)∧u.cell? ⟨w.heap.size+1,8,none⟩=some (.int .i64 v)∧u.cell? ⟨bn,on+s,none⟩=some (.int .i64 xnum)∧Below W.heap.size W u) (exact HS.out _ (by first | assumption | exact c1.drew))
   (first
   | (go_at_call 124;refine (H1.out _ (by first | assumption | exact c1.drew)).mono ?_;rintro e w2 ⟨rfl,c2⟩)
   | (go_at_call 128;refine (H2.out _ (by first | assumption | exact c1.drew)).mono ?_;rintro e w3 ⟨rfl,c3⟩)
   | (go_at_call 90;refine (H3.out _ (by first | assumption | exact c1.drew)).mono ?_;rintro e w4 ⟨rfl,c4⟩))
  all_goals
   go_wp2
   go_ret
   exact ⟨rfl,HB.out.trans (c4.mono HB.out.size)⟩
set_option maxRecDepth 100000 in
set_option maxHeartbeats 8000000 in
theorem iHeadOk_inv {S:Nat} {h:Hd} {p:Hp} (w:World) (R:HR S w h p) :
  Calls Tryz.prog 87 #[.agg (hC h p)] w fun e w'=>e=.returned (.bool (ctB h))∧Below w.heap.size w w':=by
 obtain ⟨⟨a1,n1,k1⟩,⟨a2,n2,k2⟩,⟨a3,n3,k3⟩,⟨a4,n4,k4⟩,⟨a5,n5,k5⟩,⟨a6,n6,k6⟩⟩:=p
 obtain ⟨p,hp⟩:∃ p:Hp,p=⟨⟨a1,n1,k1⟩,⟨a2,n2,k2⟩,⟨a3,n3,k3⟩,⟨a4,n4,k4⟩,⟨a5,n5,k5⟩,⟨a6,n6,k6⟩⟩:=⟨_,rfl⟩
 rw [← hp] at R ⊢
 obtain ⟨W,hW⟩:∃ W,W=w.alloc (.cells (hC h p) 35):=⟨_,rfl⟩
 have bW:Below w.heap.size w W:=by rw [hW];exact belA _ _
 have X:BxA W w.heap.size 35 (hC h p):=by rw [hW];exact BxA.new _ _ _
 have HX:=hideIt X
 have HB:=hideIt bW
 have HH:=hideIt (R.up bW)
 have HV:=hideIt (O.vertsOk_any h.N)
 rw [decide_eq_true R.inv.n] at HV
 have HC:Hid (∀ u,Below W.heap.size W u→∀ (Q:Prop),(u.cell? ⟨w.heap.size,0,none⟩=some (.int .i64 h.N)→u.cell? ⟨w.heap.size,1,none⟩=some (.slice a1 n1 k1)→u.cell? ⟨w.heap.size,2,none⟩=some (.slice a2 n2 k2)→u.cell? ⟨w.heap.size,3,none⟩=some (.slice a3 n3 k3)→u.cell? ⟨w.heap.size,4,none⟩=some (.slice a4 n4 k4)→u.cell? ⟨w.heap.size,5,none⟩=some (.int .i64 h.i)→u.cell? ⟨w.heap.size,6,none⟩=some (.int .i64 h.o)→u.cell? ⟨w.heap.size,7,none⟩=some (.int .i64 h.a)→u.cell? ⟨w.heap.size,8,none⟩=some (.int .i64 h.b)→u.cell? ⟨w.heap.size,9,none⟩=some (.int .i64 h.sh)→u.cell? ⟨w.heap.size,10,none⟩=some (.int .i64 h.num)→u.cell? ⟨w.heap.size,11,none⟩=some (.int .i64 h.op)→u.cell? ⟨w.heap.size,12,none⟩=some (.slice a5 n5 k5)→u.cell? ⟨w.heap.size,13,none⟩=some (.int .i64 h.v)→u.cell? ⟨w.heap.size,14,none⟩=some (.slice a6 n6 k6)→Q)→Q):=fun u hu Q hq=>by
  have Y:=HX.out.up hu
  rw [hp] at Y
  obtain ⟨y0,y1,y2,y3,y4,y5,y6,y7,y8,y9,y10,y11,y12,y13,y14⟩:=Y.all15
  exact hq y0 y1 y2 y3 y4 y5 y6 y7 y8 y9 y10 y11 y12 y13 y14
 have G:∀ {f:FuncId} {u:World} {b:Bool},Below W.heap.size W u→Calls Tryz.prog f #[.agg (hC h p)] u (fun e v=>e=.returned (.bool b)∧Below u.heap.size u v)→Calls Tryz.prog f #[.agg (hC h ⟨⟨a1,n1,k1⟩,⟨a2,n2,k2⟩,⟨a3,n3,k3⟩,⟨a4,n4,k4⟩,⟨a5,n5,k5⟩,⟨a6,n6,k6⟩⟩)] u (fun e v=>e=.returned (.bool b)∧Below W.heap.size W v):=fun hu hc=>by
  rw [hp] at hc
  exact hc.mono fun e v h2=>⟨h2.1,hu.trans (h2.2.mono hu.size)⟩
 have H1:=hideIt (fun (u:World) (hu:Below W.heap.size W u)=>G hu (shardsOk_inv (HH.out.up hu).inv u (HH.out.up hu).inn))
 have H2:=hideIt (fun (u:World) (hu:Below W.heap.size W u)=>G hu (ownOk_inv (HH.out.up hu).inv u (HH.out.up hu).inn))
 have H3:=hideIt (fun (u:World) (hu:Below W.heap.size W u)=>G hu (cuts_inv (HH.out.up hu).inv u (HH.out.up hu).inn))
 have H4:=hideIt (fun (u:World) (hu:Below W.heap.size W u)=>G hu (saidOk_inv (HH.out.up hu).inv u (HH.out.up hu).inn (HH.out.up hu).ss.1))
 have H5:=hideIt (fun (u:World) (hu:Below W.heap.size W u)=>G hu (taskOk_inv u (HH.out.up hu)))
 have b0:=hideIt (Below.refl W.heap.size W)
 clear X bW R G
 rw [hp] at hW ⊢
 clear hp HX HH
 cases hct:ctB h with
 | true =>
  rw [hct] at H3
  clear hct
  refine HC.out W b0.out _ ?_
  intro y0 y1 y2 y3 y4 y5 y6 y7 y8 y9 y10 y11 y12 y13 y14
  go_enter Tryz.func87,Tryz.ntmps87
  go_upto_region 1 with fail
  rw [← hW]
  clear hW
  go_wp2_with (first
   | (go_at_call 60;refine (HV.out _).mono ?_;rintro e w1 ⟨rfl,rfl⟩)
   | (go_at_call 102;refine (H1.out _ b0.out).mono ?_;rintro e w2 ⟨rfl,b2⟩;refine HC.out _ b2 _ ?_;intro y0 y1 y2 y3 y4 y5 y6 y7 y8 y9 y10 y11 y12 y13 y14)
   | (go_at_call 103;refine (H2.out _ b2).mono ?_;rintro e w3 ⟨rfl,b3⟩;refine HC.out _ b3 _ ?_;intro y0 y1 y2 y3 y4 y5 y6 y7 y8 y9 y10 y11 y12 y13 y14)
   | (go_at_call 104;refine (H3.out _ b3).mono ?_;rintro e w4 ⟨rfl,b4⟩;refine HC.out _ b4 _ ?_;intro y0 y1 y2 y3 y4 y5 y6 y7 y8 y9 y10 y11 y12 y13 y14)
   | (go_at_call 105;refine (H4.out _ b4).mono ?_;rintro e w5 ⟨rfl,b5⟩;refine HC.out _ b5 _ ?_;intro y0 y1 y2 y3 y4 y5 y6 y7 y8 y9 y10 y11 y12 y13 y14)
   | (go_at_call 106;refine (H5.out _ b5).mono ?_;rintro e w6 ⟨rfl,b6⟩))
  go_ret
  exact ⟨rfl,HB.out.trans (b6.mono HB.out.size)⟩
 | false =>
  rw [hct] at H3
  clear hct
  refine HC.out W b0.out _ ?_
  intro y0 y1 y2 y3 y4 y5 y6 y7 y8 y9 y10 y11 y12 y13 y14
  go_enter Tryz.func87,Tryz.ntmps87
  go_upto_region 1 with fail
  rw [← hW]
  clear hW
  go_wp2_with (first
   | (go_at_call 60;refine (HV.out _).mono ?_;rintro e w1 ⟨rfl,rfl⟩)
   | (go_at_call 102;refine (H1.out _ b0.out).mono ?_;rintro e w2 ⟨rfl,b2⟩;refine HC.out _ b2 _ ?_;intro y0 y1 y2 y3 y4 y5 y6 y7 y8 y9 y10 y11 y12 y13 y14)
   | (go_at_call 103;refine (H2.out _ b2).mono ?_;rintro e w3 ⟨rfl,b3⟩;refine HC.out _ b3 _ ?_;intro y0 y1 y2 y3 y4 y5 y6 y7 y8 y9 y10 y11 y12 y13 y14)
   | (go_at_call 104;refine (H3.out _ b3).mono ?_;rintro e w4 ⟨rfl,b4⟩))
  go_ret
  exact ⟨rfl,HB.out.trans (b4.mono HB.out.size)⟩
theorem GrowS_zero (w:World):Calls Tryz.prog 130 #[.slice none 0 0,.int .i64 0] w fun e w'=>e=.returned (.slice none 0 0)∧w'=w:=by
 go_enter Tryz.func130,Tryz.ntmps130
 go_wp2
 go_ret
 exact ⟨rfl,rfl⟩
theorem GrowS_some (n:Nat) (hn0:0<n) (hn:n≤10000000) (w:World) :
  Calls Tryz.prog 130 #[.slice none 0 0,.int .i64 (n:Int)] w fun e w'=>∃ a' c',e=.returned (.slice a' 0 c')∧w'.ownsRow w.heap.size 82 6 (.slice a' 0 c') 0 []∧Below w.heap.size w w':=by
 obtain ⟨i0,hi,hz0,hz1,hz2⟩:=info_parts infoSd
 have hold:(Builtin.firstCells i0.size 0 (.slice none 0 0)).run Tryz.prog w.drew=.ok ([]:List Value).toArray w.drew:=run_firstCells_none w.drew i0.size 0 0 0
 have hrz:∀ ty,(Builtin.append_ #[33,3] ty #[.slice none 0 0,.int .i64 (n:Int)]).run Tryz.prog w=_:=fun ty =>
  Lib.run_append_grow_zeros w 33 3 ty 82 i0 _ .i64 .i64 Tryz.underlying33 Tryz.underlying3 hi hz0 none 0 0 [] hold n hn0 (by rw [hz1];omega) (by omega) (by omega)
   (by rw [hz2];omega) (by rw [Nat.zero_add];exact growslice_fits (by omega) (by rw [hz2];omega))
 have hGn:0+n≤grownCap w (0+n) 0 82:=grownCap_ge w _ _ _
 have hGm:grownCap w (0+n) 0 82≤maxLen:=grownCap_le_maxLen w (0+n) 0 82 (by unfold maxLen;omega)
 obtain ⟨G,hG⟩:∃ G,G=grownCap w (0+n) 0 82:=⟨_,rfl⟩
 rw [← hG] at hGn hGm
 have hrz2:∀ ty,(Builtin.append_ #[33,3] ty #[.slice none 0 0,.int .i64 (n:Int)]).run Tryz.prog w=.ok (.slice (some ⟨w.heap.size,0,none⟩) n G) (w.drew.alloc (.cells (Builtin.zeroCells #[.int .i64 0,.int .i64 0,.int .i64 0,.int .i64 0,.int .i64 0,.int .i64 0] n ++ Builtin.zeroCells #[.int .i64 0,.int .i64 0,.int .i64 0,.int .i64 0,.int .i64 0,.int .i64 0] (G - n)) 82)):=fun ty=>by
  rw [hrz ty,← hG]
  simp [Value.cells]
 have hsz:(Builtin.zeroCells #[.int .i64 0,.int .i64 0,.int .i64 0,.int .i64 0,.int .i64 0,.int .i64 0] n ++ Builtin.zeroCells #[.int .i64 0,.int .i64 0,.int .i64 0,.int .i64 0,.int .i64 0,.int .i64 0] (G - n)).size=G*6:=by
  simp [Builtin.zeroCells]
  omega
 have HO:=hideIt (show (w.drew.alloc (.cells (Builtin.zeroCells #[.int .i64 0,.int .i64 0,.int .i64 0,.int .i64 0,.int .i64 0,.int .i64 0] n ++ Builtin.zeroCells #[.int .i64 0,.int .i64 0,.int .i64 0,.int .i64 0,.int .i64 0,.int .i64 0] (G - n)) 82)).ownsRow w.heap.size 82 6 (.slice (some ⟨w.heap.size,0,none⟩) 0 G) 0 [] from
  ⟨rfl,.inr ⟨w.heap.size,G,_,rfl,Nat.le_refl _,heap_alloc_new w.drew _,by omega,hGm,hsz,rfl⟩⟩)
 have HB:=hideIt (show Below w.heap.size w (w.drew.alloc (.cells (Builtin.zeroCells #[.int .i64 0,.int .i64 0,.int .i64 0,.int .i64 0,.int .i64 0,.int .i64 0] n ++ Builtin.zeroCells #[.int .i64 0,.int .i64 0,.int .i64 0,.int .i64 0,.int .i64 0,.int .i64 0] (G - n)) 82)) from (Below.refl _ _).drew.alloc (Nat.le_refl _) _)
 generalize (w.drew.alloc (.cells (Builtin.zeroCells #[.int .i64 0,.int .i64 0,.int .i64 0,.int .i64 0,.int .i64 0,.int .i64 0] n ++ Builtin.zeroCells #[.int .i64 0,.int .i64 0,.int .i64 0,.int .i64 0,.int .i64 0,.int .i64 0] (G - n)) 82))=W at hrz2 HO HB
 have g1:(0:Int)≤(G:Int):=by omega
 have d0:decide ((0:Int)<(n:Int))=true:=decide_eq_true (by omega)
 have d1:decide ((n:Int)<0)=false:=decide_eq_false (by omega)
 unfold maxLen at hGm
 clear hrz hold hG hsz
 go_enter Tryz.func130,Tryz.ntmps130
 go_wp2_with (at_builtin;refine Lib.wpList_append_run _ rfl _ _ _ _ rfl _ _ rfl rfl _ _ (hrz2 _) ?_)
 all_goals
  go_ret
  exact ⟨_,_,rfl,HO.out,HB.out⟩
structure PartS where
 a:Option Addr
 m:Nat
 c:Nat
 es:List Sd
def PartsS (w:World) (b:Nat) (ps:List PartS):Prop :=
 b<w.heap.size∧∀ (j:Nat) (p:PartS),ps[j]?=some p→w.cell? ⟨b,j,none⟩=some (.slice p.a p.m p.c)∧Ss w w.heap.size p.a p.m p.es∧(p.a=none→p.m=0∧p.c=0)
def pLenS (ps:List PartS):Nat:=(ps.map fun p=>p.m).sum
def pAllS (ps:List PartS):List Sd:=ps.flatMap fun p=>p.es
theorem pLenS_snoc (ps:List PartS) (p:PartS):pLenS (ps ++ [p])=pLenS ps+p.m:=by simp [pLenS]
theorem pAllS_snoc (ps:List PartS) (p:PartS):pAllS (ps ++ [p])=pAllS ps ++ p.es:=by simp [pAllS]
theorem pLenS_take (ps:List PartS) (k:Nat):pLenS (ps.take k)≤pLenS ps:=by
 have h:=congrArg pLenS (List.take_append_drop k ps)
 have e:∀ a b:List PartS,pLenS (a ++ b)=pLenS a+pLenS b:=fun a b=>by simp [pLenS]
 rw [e] at h
 omega
theorem Ss.news {w:World} {B b off n:Nat} {es:List Sd} (h:Ss w B (some ⟨b,off,none⟩) n es):∀ j u,(scells es)[j]?=some u→w.cell? ((⟨b,off,none⟩:Addr).add j)=some u:=by
 intro j u hj
 have hl:j<es.length*6:=by have:=(List.getElem?_eq_some_iff.1 hj).1;rw [scells_length] at this;exact this
 have hn:=h.1
 rcases h.2 with h0 | ⟨b',off',hb,_,hc⟩
 ·omega
 ·simp at hb
  obtain ⟨rfl,rfl⟩:=hb
  obtain ⟨f,hf⟩:∃ f,es[j / 6]?=some f:=⟨es[j / 6]'(by omega),List.getElem?_eq_getElem (by omega)⟩
  obtain ⟨c0,c1,c2,c3,c4,c5⟩:=hc _ f hf
  have d:=scells_at es _ f hf
  rw [show ((⟨b,off,none⟩:Addr).add j)=⟨b,off+j,none⟩ by by_cases h0:j=0 <;> simp [Addr.add,h0]]
  have hd:=d (j % 6) (by omega)
  rw [show j / 6*6+j % 6=j by omega] at hd
  rw [hd] at hj
  have e:∀ q,j % 6=q→off+j=off+j / 6*6+q:=fun q hq=>by omega
  have hm:j % 6<6:=Nat.mod_lt _ (by omega)
  rcases (show j % 6=0∨j % 6=1∨j % 6=2∨j % 6=3∨j % 6=4∨j % 6=5 by omega) with q | q | q | q | q | q
  all_goals
   rw [q] at hj
   simp [scell] at hj
   rw [e _ q,← hj]
   first | exact c0 | exact c1 | exact c2 | exact c3 | exact c4 | exact c5
theorem scells_app (xs ys:List Sd):scells (xs ++ ys)=scells xs ++ scells ys:=by simp [scells]
theorem scells_one {es:List Sd}:∀ u ∈ scells es,u.oneCell'=true:=by
 intro u hu
 simp only [scells,List.mem_flatMap] at hu
 obtain ⟨e,_,he⟩:=hu
 simp [scell] at he
 rcases he with rfl | rfl | rfl | rfl | rfl | rfl <;> rfl
set_option maxRecDepth 100000 in
set_option maxHeartbeats 2000000 in
theorem ConcatS_any (ps:List PartS) (b k0:Nat) (hk0:ps.length=k0) (hsm:k0≤10) (w:World) (h:PartsS w b ps) (hlen:pLenS ps≤3000000) :
  Calls Tryz.prog 108 #[.slice (some ⟨b,0,none⟩) k0 k0] w fun e w'=>∃ a m c,e=.returned (.slice a m c)∧w'.ownsRow w.heap.size 82 6 (.slice a m c) m (scells (pAllS ps))∧Below w.heap.size w w':=by
 obtain ⟨i0,hi,hz0,hz1,hz2⟩:=info_parts infoSd
 have HP:=hideIt h
 have HL:=hideIt hlen
 have HK:=hideIt hk0
 have hbw:=h.1
 clear h hlen hk0
 have HG:Hid (∀ n:Nat,n≤3000000→Calls Tryz.prog 130 #[.slice none 0 0,.int .i64 (n:Int)] w fun e w'=>∃ a' c',e=.returned (.slice a' 0 c')∧w'.ownsRow w.heap.size 82 6 (.slice a' 0 c') 0 []∧Below w.heap.size w w'):=fun n hn=>by
  by_cases h0:n=0
  ·subst h0
   exact (GrowS_zero w).mono fun _ _ ⟨he,hw⟩=>⟨_,_,he,by rw [hw];exact World.ownsRow_nil _ _ _ _,by rw [hw];exact Below.refl _ _⟩
  ·exact GrowS_some n (by omega) (by omega) w
 go_enter Tryz.func108,Tryz.ntmps108
 go_wp2
 go_loopw [3,11] (fun s i wr=>∃ (k q:Nat),k≤k0∧i=.int .i64 (k:Int)∧s=.int .i64 (q:Int)∧Hid (q=pLenS (ps.take k))∧q≤3000000∧wr=w) (fun _ i _=>k0 - (intOf i).toNat)
 case atStart=>exact ⟨0,0,by omega,rfl,rfl,by show _=_;simp [pLenS],by omega,rfl⟩
 case round =>
  obtain ⟨k,q,hk,rfl,rfl,hq,hq1,hw⟩:=hrel
  have hw':=hw.symm
  subst hw'
  clear hw
  by_cases hlt:k<k0
  ·obtain ⟨p,hp⟩:∃ p,ps[k]?=some p:=⟨ps[k]'(by have:=HK.out;omega),List.getElem?_eq_getElem _⟩
   obtain ⟨c0,_,_⟩:=HP.out.2 k p hp
   have HQ:Hid (q+p.m=pLenS (ps.take (k+1))):=by show _=_;rw [take_snocF ps k p hp,pLenS_snoc,hq.out]
   have hqm:q+p.m≤3000000:=by have:=HQ.out;have:=pLenS_take ps (k+1);have:=HL.out;omega
   have b1:(0:Int)≤(k:Int):=by omega
   have b2:(k:Int)<(k0:Int):=by omega
   clear hq hp
   go_wp2
   exact ⟨⟨k+1,q+p.m,by omega,by go_num,by go_num,HQ,hqm,by first | trivial | rfl⟩,by simp [intOf];omega⟩
  ·obtain rfl:k=k0:=by omega
   have HQ:Hid (q=pLenS ps):=by show _=_;rw [hq.out,List.take_of_length_le (by have:=HK.out;omega)]
   clear hq
   have HG1:=hideIt (HG.out q hq1)
   clear HG
   go_wp2_with (go_at_call 130;refine HG1.out.mono ?_;rintro e w1 ⟨a1,c1,rfl,hown1,hb1⟩;refine Hid.out ?_)
   refine (show ∀ {p:Prop},p→Hid p from fun h=>h) ?_
   clear HG1
   have HO1:=hideIt hown1
   clear hown1
   go_wp2
   go_loopw [6,27] (fun v i wr=>∃ (j m:Nat) (a':Option Addr) (c':Nat),j≤k∧i=.int .i64 (j:Int)∧v=.slice a' m c'∧Hid (m=pLenS (ps.take j))∧wr.ownsRow w.heap.size 82 6 (.slice a' m c') m (scells (pAllS (ps.take j)))∧Below w.heap.size w wr) (fun _ i _=>k - (intOf i).toNat)
   case atStart=>exact ⟨0,0,a1,c1,by omega,rfl,rfl,by show _=_;simp [pLenS],by simpa [pAllS,scells] using HO1.out,hb1⟩
   case round =>
    obtain ⟨j,m,a',c',hj,rfl,rfl,hm,hown,hb⟩:=hrel
    by_cases hlt2:j<k
    ·obtain ⟨p,hp⟩:∃ p,ps[j]?=some p:=⟨ps[j]'(by have:=HK.out;omega),List.getElem?_eq_getElem _⟩
     obtain ⟨c0,hes,hnil⟩:=HP.out.2 j p hp
     have c1:wr.cell? ⟨b,j,none⟩=some (.slice p.a p.m p.c):=by rw [hb.cell hbw];exact c0
     have HM:Hid (m+p.m=pLenS (ps.take (j+1))):=by show _=_;rw [take_snocF ps j p hp,pLenS_snoc,hm.out]
     have HA:Hid (scells (pAllS (ps.take (j+1)))=scells (pAllS (ps.take j)) ++ scells p.es):=by show _=_;rw [take_snocF ps j p hp,pAllS_snoc,scells_app]
     have hmp:m+p.m≤3000000:=by have:=HM.out;have:=pLenS_take ps (j+1);have:=HL.out;omega
     have b1:(0:Int)≤(j:Int):=by omega
     have b2:(j:Int)<(k:Int):=by omega
     have hesw:=(hes.below hb (Nat.le_refl _)).mono hb.size
     have hl2:(scells p.es).length=p.m*6:=by rw [scells_length,hes.1]
     obtain ⟨pa,pm,pc,pes⟩:=p
     dsimp only at *
     clear hm hp c0 hes
     cases pa with
     | none =>
      obtain ⟨rfl,rfl⟩:=hnil rfl
      have HO2:Hid (wr.ownsRow w.heap.size 82 6 (.slice a' m c') m (scells (pAllS (ps.take (j+1))))):=by
       have e0:pes=[]:=List.length_eq_zero_iff.1 hesw.1
       show World.ownsRow _ _ _ _ _ _ _
       rw [HA.out,e0]
       simpa [scells] using hown
      clear hnil
      go_wp2_with (at_builtin;refine wpList_append_own_none rfl _ _ 33 rfl w.heap.size 82 i0 6 Tryz.underlying33 hi _ _ _ rfl hown rfl ?_)
      exact ⟨⟨j+1,m,a',c',by omega,by go_num,rfl,HM,HO2.out,hb⟩,by simp [intOf];omega⟩
     | some ad =>
      have hnews:∀ q u,(scells pes)[q]?=some u→wr.cell? (ad.add q)=some u:=by
       rcases hesw.2 with h0 | ⟨bb,oo,hbb,_⟩
       ·intro q u hq
        have e0:pes=[]:=List.length_eq_zero_iff.1 (by rw [hesw.1];exact h0)
        rw [e0] at hq
        simp [scells] at hq
       ·simp at hbb
        subst hbb
        exact hesw.news
      clear hnil
      go_wp2_with (at_builtin;refine wpList_append_own _ rfl _ _ 33 rfl w.heap.size 82 i0 _ 6 48 Tryz.underlying33 hi hz0 hz1 hz2 rfl (by decide) _ _ _ rfl hown ad pm pc (scells pes) rfl hl2 hnews scells_one (by unfold maxLen;omega) (by omega) hb.size ?_)
      intro v1 w1 hown1 hg1 hn1
      have hb1:Below w.heap.size w w1:=hb.grown hg1 hb.size (fun q hq=>(hown.lt q hq).1)
      rw [← HA.out] at hown1
      obtain ⟨a2,c2,rfl⟩:=own_form hown1
      have HO2:=hideIt hown1
      clear hown1 hown hg1 hn1 hnews
      go_wp2
      exact ⟨⟨j+1,m+pm,a2,c2,by omega,by go_num,rfl,HM,HO2.out,hb1⟩,by simp [intOf];omega⟩
    ·obtain rfl:j=k:=by omega
     have e:ps.take j=ps:=List.take_of_length_le (by have:=HK.out;omega)
     rw [e] at hown
     have HO2:=hideIt hown
     clear hown e hm
     go_wp2
     go_ret
     exact ⟨a',m,c',rfl,HO2.out,hb⟩
end Go.Proofs.YtnagchanokbgdaaGreat
