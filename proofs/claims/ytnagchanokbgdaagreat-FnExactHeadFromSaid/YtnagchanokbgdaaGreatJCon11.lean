/- The program's reader of parts: edges, a flag, labels; whether it has ended. The specification's OrderOk. What lies in memory while an order is read, and what is answered then. What an order wants done, as the program has it. Whether what an order wants done is right, as the program tells it. slices.Concat of any number of lists of edges; slices.Concat of two lists of such lists. -/
import Derived.Test.YtnagchanokbgdaaGreatJRd10
import Derived.Test.YtnagchanokbgdaaGreatJIGraph
import Derived.Test.YtnagchanokbgdaaGreatJUn11
namespace Go.Proofs.YtnagchanokbgdaaGreat.O
open Go.RowKit Vt
abbrev ordV (num op:Int) (a:Option Addr) (k c:Nat) (v:Int):Value:=.agg #[.int .i64 num,.int .i64 op,.slice a k c,.int .i64 v]
theorem oB_n {n:Int} {o:OrdV} (h:¬ (1≤n∧n≤12)):oB n o=false:=by unfold oB;rw [decide_eq_false h];rfl
theorem oB_num {n:Int} {o:OrdV} (h:¬ (1≤o.num∧o.num≤100000)):oB n o=false:=by unfold oB;rw [decide_eq_false h];simp
theorem oB_es {n:Int} {o:OrdV} (h:eOk n o.es=false):oB n o=false:=by unfold oB;rw [h];simp
theorem oB_op {n:Int} {o:OrdV} (h1:1≤n∧n≤12) (h2:1≤o.num∧o.num≤100000) (h3:eOk n o.es=true):oB n o=decide (OpOk n o):=by unfold oB;rw [h3,decide_eq_true h1,decide_eq_true h2];rfl
theorem oB_not {n:Int} {o:OrdV} (h:¬ OpOk n o):oB n o=false:=by unfold oB;rw [decide_eq_false h];simp
theorem bel1 (w:World) (o:Obj):Below w.heap.size w (w.alloc o):=(Below.refl _ _).alloc (Nat.le_refl _) _
theorem rett {b c:Bool} (h:b=c):Ending.returned (.bool b)=Ending.returned (.bool c):=by rw [h]
set_option maxRecDepth 100000 in
set_option maxHeartbeats 4000000 in
theorem sOrderOk_any (n num op:Int) (es:List EdgeV) (v:Int) (k:Nat) (a:Option Addr) (c:Nat) (hk:k≤1048576) (w:World) (h:Es w w.heap.size a k es) :
  Calls Tryz.prog 98 #[.int .i64 n,ordV num op a k c v] w fun e w'=>e=.returned (.bool (oB n ⟨num,op,es,v⟩))∧Below w.heap.size w w':=by
 unfold ordV
 have hlen:es.length=k:=h.1
 have HI:=hideIt l01In_any
 have HT:Hid (Calls Tryz.prog 73 #[.int .i64 n,.slice a k c] (w.alloc (.cells #[.int .i64 num,.int .i64 op,.slice a k c,.int .i64 v] 30)) fun e w'=>e=.returned (.bool (eOk n es))∧Below w.heap.size w w' ∧
   w'.cell? ⟨w.heap.size,1,none⟩=some (.int .i64 op)∧w'.cell? ⟨w.heap.size,2,none⟩=some (.slice a k c)∧w'.cell? ⟨w.heap.size,3,none⟩=some (.int .i64 v)) :=
  (l05Edges_any n es k a c hk (w.alloc (.cells #[.int .i64 num,.int .i64 op,.slice a k c,.int .i64 v] 30)) ((h.alloc (Nat.le_refl _) _).mono (by simp))).mono fun _ _ ⟨he,hb⟩ =>
   ⟨he,(bel1 _ _).trans (hb.mono (by simp)),by rw [hb.cell (by simp)];simp,by rw [hb.cell (by simp)];simp,by rw [hb.cell (by simp)];simp⟩
 have B0:Hid (Below w.heap.size w (w.alloc (.cells #[.int .i64 num,.int .i64 op,.slice a k c,.int .i64 v] 30))):=(Below.refl _ _).alloc (Nat.le_refl _) _
 clear h
 by_cases h1:1≤n∧n≤12
 ·have r1:decide (1≤n∧n≤12)=true:=by simpa using h1
  by_cases h2:1≤num∧num≤100000
  ·have r2:decide (1≤num∧num≤100000)=true:=by simpa using h2
   by_cases h3:1≤op∧op≤4
   ·have r3:decide (1≤op∧op≤4)=true:=by simpa using h3
    cases hE:eOk n es with
    | true =>
     rw [hE] at HT
     have HB:=hideIt (oB_op (o:=⟨num,op,es,v⟩) h1 h2 hE)
     rcases (show op=3∨op=4∨op=1∨op=2 by omega) with rfl | rfl | rfl | rfl
     ·by_cases h0:k=0
      ·subst h0
       go_enter Tryz.func98,Tryz.ntmps98
       go_wp2_with (first | (go_at_call 44;refine (HI.out _ _ _ _).mono ?_;rintro e w1 ⟨rfl,rfl⟩) | (go_at_call 73;refine HT.out.mono ?_;rintro e w2 ⟨rfl,hb2,q1,q2,q3⟩))
       go_ret
       exact ⟨rett (by rw [HB.out,← Bool.decide_and];apply decide_eq_decide.2;unfold OpOk;dsimp only;omega),hb2⟩
      ·have e0:((k:Int) == 0)=false:=by simp;omega
       go_enter Tryz.func98,Tryz.ntmps98
       go_wp2_with (first | (go_at_call 44;refine (HI.out _ _ _ _).mono ?_;rintro e w1 ⟨rfl,rfl⟩) | (go_at_call 73;refine HT.out.mono ?_;rintro e w2 ⟨rfl,hb2,q1,q2,q3⟩))
       go_ret
       exact ⟨rett (by rw [HB.out];symm;apply decide_eq_false;unfold OpOk;dsimp only;omega),hb2⟩
     ·by_cases h0:0<k
      ·have e0:decide (0<(k:Int))=true:=by simp;omega
       by_cases hv:v=0
       ·subst hv
        go_enter Tryz.func98,Tryz.ntmps98
        go_wp2_with (first | (go_at_call 44;refine (HI.out _ _ _ _).mono ?_;rintro e w1 ⟨rfl,rfl⟩) | (go_at_call 73;refine HT.out.mono ?_;rintro e w2 ⟨rfl,hb2,q1,q2,q3⟩))
        go_ret
        exact ⟨rett (by rw [HB.out];symm;apply decide_eq_true;unfold OpOk;dsimp only;omega),hb2⟩
       ·have e1:(v == 0)=false:=by simpa using hv
        go_enter Tryz.func98,Tryz.ntmps98
        go_wp2_with (first | (go_at_call 44;refine (HI.out _ _ _ _).mono ?_;rintro e w1 ⟨rfl,rfl⟩) | (go_at_call 73;refine HT.out.mono ?_;rintro e w2 ⟨rfl,hb2,q1,q2,q3⟩))
        go_ret
        exact ⟨rett (by rw [HB.out];symm;apply decide_eq_false;unfold OpOk;dsimp only;omega),hb2⟩
      ·have e0:decide (0<(k:Int))=false:=by simp;omega
       go_enter Tryz.func98,Tryz.ntmps98
       go_wp2_with (first | (go_at_call 44;refine (HI.out _ _ _ _).mono ?_;rintro e w1 ⟨rfl,rfl⟩) | (go_at_call 73;refine HT.out.mono ?_;rintro e w2 ⟨rfl,hb2,q1,q2,q3⟩))
       go_ret
       exact ⟨rett (by rw [HB.out];symm;apply decide_eq_false;unfold OpOk;dsimp only;omega),hb2⟩
     ·by_cases h0:k=1
      ·subst h0
       by_cases hv:v=0
       ·subst hv
        go_enter Tryz.func98,Tryz.ntmps98
        go_wp2_with (first | (go_at_call 44;refine (HI.out _ _ _ _).mono ?_;rintro e w1 ⟨rfl,rfl⟩) | (go_at_call 73;refine HT.out.mono ?_;rintro e w2 ⟨rfl,hb2,q1,q2,q3⟩))
        go_ret
        exact ⟨rett (by rw [HB.out];symm;apply decide_eq_true;unfold OpOk;dsimp only;omega),hb2⟩
       ·have e1:(v == 0)=false:=by simpa using hv
        go_enter Tryz.func98,Tryz.ntmps98
        go_wp2_with (first | (go_at_call 44;refine (HI.out _ _ _ _).mono ?_;rintro e w1 ⟨rfl,rfl⟩) | (go_at_call 73;refine HT.out.mono ?_;rintro e w2 ⟨rfl,hb2,q1,q2,q3⟩))
        go_ret
        exact ⟨rett (by rw [HB.out];symm;apply decide_eq_false;unfold OpOk;dsimp only;omega),hb2⟩
      ·have e0:((k:Int) == 1)=false:=by simp;omega
       go_enter Tryz.func98,Tryz.ntmps98
       go_wp2_with (first | (go_at_call 44;refine (HI.out _ _ _ _).mono ?_;rintro e w1 ⟨rfl,rfl⟩) | (go_at_call 73;refine HT.out.mono ?_;rintro e w2 ⟨rfl,hb2,q1,q2,q3⟩))
       go_ret
       exact ⟨rett (by rw [HB.out];symm;apply decide_eq_false;unfold OpOk;dsimp only;omega),hb2⟩
     ·by_cases h0:k=1
      ·subst h0
       by_cases hv:v=0
       ·subst hv
        go_enter Tryz.func98,Tryz.ntmps98
        go_wp2_with (first | (go_at_call 44;refine (HI.out _ _ _ _).mono ?_;rintro e w1 ⟨rfl,rfl⟩) | (go_at_call 73;refine HT.out.mono ?_;rintro e w2 ⟨rfl,hb2,q1,q2,q3⟩))
        go_ret
        exact ⟨rett (by rw [HB.out];symm;apply decide_eq_true;unfold OpOk;dsimp only;omega),hb2⟩
       ·have e1:(v == 0)=false:=by simpa using hv
        go_enter Tryz.func98,Tryz.ntmps98
        go_wp2_with (first | (go_at_call 44;refine (HI.out _ _ _ _).mono ?_;rintro e w1 ⟨rfl,rfl⟩) | (go_at_call 73;refine HT.out.mono ?_;rintro e w2 ⟨rfl,hb2,q1,q2,q3⟩))
        go_ret
        exact ⟨rett (by rw [HB.out];symm;apply decide_eq_false;unfold OpOk;dsimp only;omega),hb2⟩
      ·have e0:((k:Int) == 1)=false:=by simp;omega
       go_enter Tryz.func98,Tryz.ntmps98
       go_wp2_with (first | (go_at_call 44;refine (HI.out _ _ _ _).mono ?_;rintro e w1 ⟨rfl,rfl⟩) | (go_at_call 73;refine HT.out.mono ?_;rintro e w2 ⟨rfl,hb2,q1,q2,q3⟩))
       go_ret
       exact ⟨rett (by rw [HB.out];symm;apply decide_eq_false;unfold OpOk;dsimp only;omega),hb2⟩
    | false =>
     rw [hE] at HT
     have HB:=hideIt (oB_es (o:=⟨num,op,es,v⟩) hE)
     go_enter Tryz.func98,Tryz.ntmps98
     go_wp2_with (first | (go_at_call 44;refine (HI.out _ _ _ _).mono ?_;rintro e w1 ⟨rfl,rfl⟩) | (go_at_call 73;refine HT.out.mono ?_;rintro e w2 ⟨rfl,hb2,q1,q2,q3⟩))
     go_ret
     exact ⟨rett HB.out.symm,hb2⟩
   ·have r3:decide (1≤op∧op≤4)=false:=by simpa using h3
    have HB:=hideIt (oB_not (n:=n) (o:=⟨num,op,es,v⟩) (by unfold OpOk;dsimp only;omega))
    clear HT
    go_enter Tryz.func98,Tryz.ntmps98
    go_wp2_with (go_at_call 44;refine (HI.out _ _ _ _).mono ?_;rintro e w1 ⟨rfl,rfl⟩)
    go_ret
    exact ⟨rett HB.out.symm,B0.out⟩
  ·have r2:decide (1≤num∧num≤100000)=false:=by simpa using h2
   have HB:=hideIt (oB_num (n:=n) (o:=⟨num,op,es,v⟩) h2)
   clear HT
   go_enter Tryz.func98,Tryz.ntmps98
   go_wp2_with (go_at_call 44;refine (HI.out _ _ _ _).mono ?_;rintro e w1 ⟨rfl,rfl⟩)
   go_ret
   exact ⟨rett HB.out.symm,B0.out⟩
 ·have r1:decide (1≤n∧n≤12)=false:=by simpa using h1
  have HB:=hideIt (oB_n (o:=⟨num,op,es,v⟩) h1)
  clear HT
  go_enter Tryz.func98,Tryz.ntmps98
  go_wp2_with (go_at_call 44;refine (HI.out _ _ _ _).mono ?_;rintro e w1 ⟨rfl,rfl⟩)
  go_ret
  exact ⟨rett HB.out.symm,B0.out⟩
section
variable {e:Prop} {t:TypeId} {w W W':World} {G O R:Nat} {s:ByteArray} {st st':Option (List UInt8)} {num op:Int} {a:Option Addr} {k c:Nat} {v:Int}
end
theorem numOk_any (x:Int) (w:World):Calls Tryz.prog 88 #[.int .i64 x] w fun e w'=>e=.returned (.bool (decide (1≤x∧x≤100000)))∧w'=w:=by
 by_cases h1:1≤x
 ·have d1:decide (1≤x)=true:=by simpa using h1
  go_enter Tryz.func88,Tryz.ntmps88
  go_wp2
  go_ret
  exact ⟨by simp [h1],rfl⟩
 ·have d1:decide (1≤x)=false:=by simpa using h1
  go_enter Tryz.func88,Tryz.ntmps88
  go_wp2
  go_ret
  exact ⟨by simp,rfl⟩
theorem commandOf_rel (num v:Int) (a:Option Addr) (c:Nat) (w:World) :
  Calls Tryz.prog 149 #[ordV num 3 a 0 c v] w fun e w'=>e=.returned (.iface 188 (.agg #[.int .i64 v]))∧Below w.heap.size w w':=by
 unfold ordV
 go_enter Tryz.func149,Tryz.ntmps149
 go_wp2
 go_ret
 exact ⟨rfl,bel1 _ _⟩
theorem commandOf_v (num op v:Int) (a:Option Addr) (k c:Nat) (hv:v≠0) (ho:¬ (op=3∧k=0)) (w:World) :
  Calls Tryz.prog 149 #[ordV num op a k c v] w fun e w'=>e=.returned .nilIface∧Below w.heap.size w w':=by
 unfold ordV
 have e1:(v != 0)=true:=by simpa using hv
 by_cases h3:op=3
 ·subst h3
  have e0:((k:Int) == 0)=false:=by simp;omega
  go_enter Tryz.func149,Tryz.ntmps149
  go_wp2
  go_ret
  exact ⟨rfl,bel1 _ _⟩
 ·have e0:(op == 3)=false:=by simpa using h3
  go_enter Tryz.func149,Tryz.ntmps149
  go_wp2
  go_ret
  exact ⟨rfl,bel1 _ _⟩
theorem commandOf_add (num:Int) (e:EdgeV) (b off:Nat) (c:Nat) (w:World) (c0:w.cell? ⟨b,off,none⟩=some (.int .i64 e.1)) (c1:w.cell? ⟨b,off+1,none⟩=some (.int .i64 e.2)) (hb:b<w.heap.size) :
  Calls Tryz.prog 149 #[ordV num 1 (some ⟨b,off,none⟩) 1 c 0] w fun x w'=>x=.returned (.iface 185 (.agg #[.int .i64 e.1,.int .i64 e.2]))∧Below w.heap.size w w':=by
 unfold ordV
 have e0:(w.alloc (.cells #[.int .i64 num,.int .i64 1,.slice (some ⟨b,off,none⟩) 1 c,.int .i64 0] 30)).cell? ⟨b,off,none⟩=some (.int .i64 e.1):=by rw [World.cell?_of_block (w:=w) (Below.heap_alloc w _ b hb)];exact c0
 have e1:(w.alloc (.cells #[.int .i64 num,.int .i64 1,.slice (some ⟨b,off,none⟩) 1 c,.int .i64 0] 30)).cell? ⟨b,off+1,none⟩=some (.int .i64 e.2):=by rw [World.cell?_of_block (w:=w) (Below.heap_alloc w _ b hb)];exact c1
 clear c0 c1
 go_enter Tryz.func149,Tryz.ntmps149
 go_wp2
 go_ret
 exact ⟨rfl,bel1 _ _⟩
theorem commandOf_take (num:Int) (e:EdgeV) (b off:Nat) (c:Nat) (w:World) (c0:w.cell? ⟨b,off,none⟩=some (.int .i64 e.1)) (c1:w.cell? ⟨b,off+1,none⟩=some (.int .i64 e.2)) (hb:b<w.heap.size) :
  Calls Tryz.prog 149 #[ordV num 2 (some ⟨b,off,none⟩) 1 c 0] w fun x w'=>x=.returned (.iface 186 (.agg #[.int .i64 e.1,.int .i64 e.2]))∧Below w.heap.size w w':=by
 unfold ordV
 have e0:(w.alloc (.cells #[.int .i64 num,.int .i64 2,.slice (some ⟨b,off,none⟩) 1 c,.int .i64 0] 30)).cell? ⟨b,off,none⟩=some (.int .i64 e.1):=by rw [World.cell?_of_block (w:=w) (Below.heap_alloc w _ b hb)];exact c0
 have e1:(w.alloc (.cells #[.int .i64 num,.int .i64 2,.slice (some ⟨b,off,none⟩) 1 c,.int .i64 0] 30)).cell? ⟨b,off+1,none⟩=some (.int .i64 e.2):=by rw [World.cell?_of_block (w:=w) (Below.heap_alloc w _ b hb)];exact c1
 clear c0 c1
 go_enter Tryz.func149,Tryz.ntmps149
 go_wp2
 go_ret
 exact ⟨rfl,bel1 _ _⟩
theorem commandOf_acc (num:Int) (a:Option Addr) (k c:Nat) (hk:0<k) (w:World) :
  Calls Tryz.prog 149 #[ordV num 4 a k c 0] w fun x w'=>x=.returned (.iface 190 (.agg #[.slice a k c]))∧Below w.heap.size w w':=by
 unfold ordV
 have e0:decide (0<(k:Int))=true:=by simp;omega
 go_enter Tryz.func149,Tryz.ntmps149
 go_wp2
 go_ret
 exact ⟨rfl,bel1 _ _⟩
theorem commandOf_no (num op:Int) (a:Option Addr) (k c:Nat) (h3:¬ (op=3∧k=0)) (h1:¬ (op=1∧k=1)) (h2:¬ (op=2∧k=1)) (h4:¬ (op=4∧0<k)) (w:World) :
  Calls Tryz.prog 149 #[ordV num op a k c 0] w fun x w'=>x=.returned .nilIface∧Below w.heap.size w w':=by
 unfold ordV
 by_cases o3:op=3
 ·subst o3
  have e0:((k:Int) == 0)=false:=by simp;omega
  go_enter Tryz.func149,Tryz.ntmps149
  go_wp2
  go_ret
  exact ⟨rfl,bel1 _ _⟩
 ·by_cases o1:op=1
  ·subst o1
   have e0:((k:Int) == 1)=false:=by simp;omega
   go_enter Tryz.func149,Tryz.ntmps149
   go_wp2
   go_ret
   exact ⟨rfl,bel1 _ _⟩
  ·by_cases o2:op=2
   ·subst o2
    have e0:((k:Int) == 1)=false:=by simp;omega
    go_enter Tryz.func149,Tryz.ntmps149
    go_wp2
    go_ret
    exact ⟨rfl,bel1 _ _⟩
   ·by_cases o4:op=4
    ·subst o4
     have e0:decide (0<(k:Int))=false:=by simp;omega
     go_enter Tryz.func149,Tryz.ntmps149
     go_wp2
     go_ret
     exact ⟨rfl,bel1 _ _⟩
    ·have q3:(op == 3)=false:=by simpa using o3
     have q1:(op == 1)=false:=by simpa using o1
     have q2:(op == 2)=false:=by simpa using o2
     have q4:(op == 4)=false:=by simpa using o4
     go_enter Tryz.func149,Tryz.ntmps149
     go_wp2
     go_ret
     exact ⟨rfl,bel1 _ _⟩
theorem ta_yes_add (x y:Value) (w:World):(Instr.typeAssert (.iface 185 (.agg #[x,y])) 167 185 true).run Tryz.prog w=.ok (.tuple #[.agg #[x,y],.bool true]) w:=by kernel_rfl
theorem ta_no_ta (x y:Value) (w:World):(Instr.typeAssert (.iface 186 (.agg #[x,y])) 167 185 true).run Tryz.prog w=.ok (.tuple #[.agg #[.int .i64 0,.int .i64 0],.bool false]) w:=by kernel_rfl
theorem ta_yes_ta (x y:Value) (w:World):(Instr.typeAssert (.iface 186 (.agg #[x,y])) 167 186 true).run Tryz.prog w=.ok (.tuple #[.agg #[x,y],.bool true]) w:=by kernel_rfl
theorem ta_no_re1 (x:Value) (w:World):(Instr.typeAssert (.iface 188 (.agg #[x])) 167 185 true).run Tryz.prog w=.ok (.tuple #[.agg #[.int .i64 0,.int .i64 0],.bool false]) w:=by kernel_rfl
theorem ta_no_re2 (x:Value) (w:World):(Instr.typeAssert (.iface 188 (.agg #[x])) 167 186 true).run Tryz.prog w=.ok (.tuple #[.agg #[.int .i64 0,.int .i64 0],.bool false]) w:=by kernel_rfl
theorem ta_yes_re (x:Value) (w:World):(Instr.typeAssert (.iface 188 (.agg #[x])) 167 188 true).run Tryz.prog w=.ok (.tuple #[.agg #[x],.bool true]) w:=by kernel_rfl
theorem ta_no_ac1 (x:Value) (w:World):(Instr.typeAssert (.iface 190 (.agg #[x])) 167 185 true).run Tryz.prog w=.ok (.tuple #[.agg #[.int .i64 0,.int .i64 0],.bool false]) w:=by kernel_rfl
theorem ta_no_ac2 (x:Value) (w:World):(Instr.typeAssert (.iface 190 (.agg #[x])) 167 186 true).run Tryz.prog w=.ok (.tuple #[.agg #[.int .i64 0,.int .i64 0],.bool false]) w:=by kernel_rfl
theorem ta_no_ac3 (x:Value) (w:World):(Instr.typeAssert (.iface 190 (.agg #[x])) 167 188 true).run Tryz.prog w=.ok (.tuple #[.agg #[.int .i64 0],.bool false]) w:=by kernel_rfl
theorem ta_yes_ac (x:Value) (w:World):(Instr.typeAssert (.iface 190 (.agg #[x])) 167 190 true).run Tryz.prog w=.ok (.tuple #[.agg #[x],.bool true]) w:=by kernel_rfl
theorem ta_nil1 (w:World):(Instr.typeAssert .nilIface 167 185 true).run Tryz.prog w=.ok (.tuple #[.agg #[.int .i64 0,.int .i64 0],.bool false]) w:=by kernel_rfl
theorem ta_nil2 (w:World):(Instr.typeAssert .nilIface 167 186 true).run Tryz.prog w=.ok (.tuple #[.agg #[.int .i64 0,.int .i64 0],.bool false]) w:=by kernel_rfl
theorem ta_nil3 (w:World):(Instr.typeAssert .nilIface 167 188 true).run Tryz.prog w=.ok (.tuple #[.agg #[.int .i64 0],.bool false]) w:=by kernel_rfl
theorem ta_nil4 (w:World):(Instr.typeAssert .nilIface 167 190 true).run Tryz.prog w=.ok (.tuple #[.agg #[.slice none 0 0],.bool false]) w:=by kernel_rfl
theorem commandOk_nil (n:Int) (w:World) :
  Calls Tryz.prog 148 #[.int .i64 n,.nilIface] w fun e w'=>e=.returned (.bool false)∧Below w.heap.size w w':=by
 have t1:=ta_nil1;have t2:=ta_nil2;have t3:=ta_nil3;have t4:=ta_nil4
 go_enter Tryz.func148,Tryz.ntmps148
 go_wp2
 go_ret
 exact ⟨rfl,Below.refl _ _⟩
theorem commandOk_rel (n v:Int) (w:World) :
  Calls Tryz.prog 148 #[.int .i64 n,.iface 188 (.agg #[.int .i64 v])] w fun e w'=>e=.returned (.bool (decide (0≤v∧v<n)))∧Below w.heap.size w w':=by
 have t1:=ta_no_re1 (.int .i64 v);have t2:=ta_no_re2 (.int .i64 v);have t3:=ta_yes_re (.int .i64 v)
 by_cases h:0≤v
 ·have d1:decide (0≤v)=true:=by simpa using h
  go_enter Tryz.func148,Tryz.ntmps148
  go_wp2
  go_ret
  exact ⟨by simp [h],bel1 _ _⟩
 ·have d1:decide (0≤v)=false:=by simpa using h
  go_enter Tryz.func148,Tryz.ntmps148
  go_wp2
  go_ret
  exact ⟨by simp,bel1 _ _⟩
theorem commandOk_add (n:Int) (f:EdgeV) (w:World) :
  Calls Tryz.prog 148 #[.int .i64 n,.iface 185 (.agg #[.int .i64 f.1,.int .i64 f.2])] w fun e w'=>e=.returned (.bool (eB n f))∧Below w.heap.size w w':=by
 have t1:=ta_yes_add (.int .i64 f.1) (.int .i64 f.2)
 have HE:=hideIt (iEdgeOk_any n f)
 go_enter Tryz.func148,Tryz.ntmps148
 go_wp2_with (go_at_call 121;refine (HE.out _).mono ?_;rintro e w1 ⟨rfl,hb⟩)
 go_ret
 exact ⟨rfl,(bel1 _ _).trans (hb.mono (by simp))⟩
theorem commandOk_take (n:Int) (f:EdgeV) (w:World) :
  Calls Tryz.prog 148 #[.int .i64 n,.iface 186 (.agg #[.int .i64 f.1,.int .i64 f.2])] w fun e w'=>e=.returned (.bool (eB n f))∧Below w.heap.size w w':=by
 have t1:=ta_no_ta (.int .i64 f.1) (.int .i64 f.2)
 have t2:=ta_yes_ta (.int .i64 f.1) (.int .i64 f.2)
 have HE:=hideIt (iEdgeOk_any n f)
 go_enter Tryz.func148,Tryz.ntmps148
 go_wp2_with (go_at_call 121;refine (HE.out _).mono ?_;rintro e w1 ⟨rfl,hb⟩)
 go_ret
 exact ⟨rfl,(bel1 _ _).trans (hb.mono (by simp))⟩
theorem commandOk_acc (n:Int) (es:List EdgeV) (k:Nat) (a:Option Addr) (c:Nat) (hk:k≤1048576) (w:World) (h:Es w w.heap.size a k es) :
  Calls Tryz.prog 148 #[.int .i64 n,.iface 190 (.agg #[.slice a k c])] w fun e w'=>e=.returned (.bool (eOk n es))∧Below w.heap.size w w':=by
 have t1:=ta_no_ac1 (.slice a k c);have t2:=ta_no_ac2 (.slice a k c);have t3:=ta_no_ac3 (.slice a k c);have t4:=ta_yes_ac (.slice a k c)
 have HT:=hideIt (edgesOk_any n es k a c hk (w.alloc (.cells #[.slice a k c] 190)) ((h.alloc (Nat.le_refl _) _).mono (by simp)))
 clear h
 go_enter Tryz.func148,Tryz.ntmps148
 go_wp2_with (go_at_call 100;refine HT.out.mono ?_;rintro e w1 ⟨rfl,hb⟩)
 go_ret
 exact ⟨rfl,(bel1 _ _).trans (hb.mono (by simp))⟩
theorem eOk_nil (n:Int):eOk n []=true:=rfl
theorem eOk_one (n:Int) (f:EdgeV):eOk n [f]=eB n f:=by
 unfold eOk chk
 simp [chkAt]
theorem cmd_ok (num op:Int) (es:List EdgeV) (v:Int) (k:Nat) (a:Option Addr) (c:Nat) (hk:k≤1048576) (w:World) (h:Es w w.heap.size a k es) :
  Calls Tryz.prog 149 #[ordV num op a k c v] w fun e w'=>∃ cv,e=.returned cv∧Below w.heap.size w w' ∧
   Hid (∀ n,Calls Tryz.prog 148 #[.int .i64 n,cv] w' fun e w''=>e=.returned (.bool (eOk n es && decide (OpOk n ⟨num,op,es,v⟩)))∧Below w'.heap.size w' w''):=by
 have hlen:=h.1
 by_cases h3:op=3∧k=0
 ·obtain ⟨rfl,rfl⟩:=h3
  have e0:es=[]:=List.length_eq_zero_iff.1 hlen
  subst e0
  refine (commandOf_rel num v a c w).mono ?_
  rintro e w' ⟨rfl,hb⟩
  refine ⟨_,rfl,hb,fun n=>(commandOk_rel n v w').mono ?_⟩
  rintro e w'' ⟨rfl,hb'⟩
  exact ⟨rett (by rw [eOk_nil,Bool.true_and];apply decide_eq_decide.2;unfold OpOk;dsimp only [List.length_nil];omega),hb'⟩
 ·by_cases hv:v=0
  ·subst hv
   by_cases h1:(op=1∨op=2)∧k=1
   ·obtain ⟨ho,rfl⟩:=h1
    obtain ⟨f,rfl⟩:=List.length_eq_one_iff.1 hlen
    rcases h.2 with h0 | ⟨b,off,rfl,hb0,hc⟩
    ·omega
    ·obtain ⟨c0,c1⟩:=hc 0 f rfl
     rw [Nat.zero_mul,Nat.add_zero] at c0 c1
     have fin:∀ n,(eOk n [f] && decide (OpOk n ⟨num,op,[f],0⟩))=eB n f:=fun n=>by
      rw [eOk_one,decide_eq_true (by unfold OpOk;dsimp only [List.length_cons,List.length_nil];omega),Bool.and_true]
     rcases ho with rfl | rfl
     ·refine (commandOf_add num f b off c w c0 c1 hb0).mono ?_
      rintro e w' ⟨rfl,hb⟩
      refine ⟨_,rfl,hb,fun n=>(commandOk_add n f w').mono ?_⟩
      rintro e w'' ⟨rfl,hb'⟩
      exact ⟨rett (fin n).symm,hb'⟩
     ·refine (commandOf_take num f b off c w c0 c1 hb0).mono ?_
      rintro e w' ⟨rfl,hb⟩
      refine ⟨_,rfl,hb,fun n=>(commandOk_take n f w').mono ?_⟩
      rintro e w'' ⟨rfl,hb'⟩
      exact ⟨rett (fin n).symm,hb'⟩
   ·by_cases h4:op=4∧0<k
    ·obtain ⟨rfl,h4⟩:=h4
     refine (commandOf_acc num a k c h4 w).mono ?_
     rintro e w' ⟨rfl,hb⟩
     refine ⟨_,rfl,hb,fun n=>(commandOk_acc n es k a c hk w' (h.up hb)).mono ?_⟩
     rintro e w'' ⟨rfl,hb'⟩
     exact ⟨rett (by rw [decide_eq_true (by unfold OpOk;dsimp only;omega),Bool.and_true]),hb'⟩
    ·refine (commandOf_no num op a k c h3 (by omega) (by omega) (by omega) w).mono ?_
     rintro e w' ⟨rfl,hb⟩
     refine ⟨_,rfl,hb,fun n=>(commandOk_nil n w').mono ?_⟩
     rintro e w'' ⟨rfl,hb'⟩
     exact ⟨rett (by rw [decide_eq_false (by unfold OpOk;dsimp only;omega),Bool.and_false]),hb'⟩
  ·refine (commandOf_v num op v a k c hv h3 w).mono ?_
   rintro e w' ⟨rfl,hb⟩
   refine ⟨_,rfl,hb,fun n=>(commandOk_nil n w').mono ?_⟩
   rintro e w'' ⟨rfl,hb'⟩
   exact ⟨rett (by rw [decide_eq_false (by unfold OpOk;dsimp only;omega),Bool.and_false]),hb'⟩
set_option maxRecDepth 100000 in
set_option maxHeartbeats 4000000 in
theorem iOrderOk_any (n num op:Int) (es:List EdgeV) (v:Int) (k:Nat) (a:Option Addr) (c:Nat) (hk:k≤1048576) (w:World) (h:Es w w.heap.size a k es) :
  Calls Tryz.prog 128 #[.int .i64 n,ordV num op a k c v] w fun e w'=>e=.returned (.bool (oB n ⟨num,op,es,v⟩))∧Below w.heap.size w w':=by
 have HV:=hideIt vertsOk_any
 have HN:=hideIt numOk_any
 have HC:=hideIt (cmd_ok num op es v k a c hk (w.alloc (.cells #[.int .i64 num,.int .i64 op,.slice a k c,.int .i64 v] 30)) ((h.alloc (Nat.le_refl _) _).mono (by simp)))
 unfold ordV at HC ⊢
 clear h
 by_cases h1:1≤n∧n≤12
 ·have r1:decide (1≤n∧n≤12)=true:=by simpa using h1
  by_cases h2:1≤num∧num≤100000
  ·have r2:decide (1≤num∧num≤100000)=true:=by simpa using h2
   have HB:Hid (oB n ⟨num,op,es,v⟩=(eOk n es && decide (OpOk n ⟨num,op,es,v⟩))):=by
    show _=_
    unfold oB;dsimp only;rw [r1,r2];rfl
   go_enter Tryz.func128,Tryz.ntmps128
   go_wp2_with (first | (go_at_call 60;refine (HV.out _ _).mono ?_;rintro e w1 ⟨rfl,rfl⟩) | (go_at_call 88;refine (HN.out _ _).mono ?_;rintro e w1 ⟨rfl,rfl⟩) | (go_at_call 149;refine HC.out.mono ?_;rintro e w2 ⟨cv,rfl,hb2,HD⟩) | (go_at_call 148;refine (HD.out _).mono ?_;rintro e w3 ⟨rfl,hb3⟩))
   go_ret
   exact ⟨rett HB.out.symm,(bel1 _ _).trans ((hb2.trans (hb3.mono hb2.size)).mono (by simp))⟩
  ·have r2:decide (1≤num∧num≤100000)=false:=by simpa using h2
   have HB:=hideIt (oB_num (n:=n) (o:=⟨num,op,es,v⟩) h2)
   clear HC
   go_enter Tryz.func128,Tryz.ntmps128
   go_wp2_with (first | (go_at_call 60;refine (HV.out _ _).mono ?_;rintro e w1 ⟨rfl,rfl⟩) | (go_at_call 88;refine (HN.out _ _).mono ?_;rintro e w1 ⟨rfl,rfl⟩))
   go_ret
   exact ⟨rett HB.out.symm,bel1 _ _⟩
 ·have r1:decide (1≤n∧n≤12)=false:=by simpa using h1
  have HB:=hideIt (oB_n (o:=⟨num,op,es,v⟩) h1)
  clear HC
  go_enter Tryz.func128,Tryz.ntmps128
  go_wp2_with (go_at_call 60;refine (HV.out _ _).mono ?_;rintro e w1 ⟨rfl,rfl⟩)
  go_ret
  exact ⟨rett HB.out.symm,bel1 _ _⟩
end Go.Proofs.YtnagchanokbgdaaGreat.O
namespace Go.Proofs.YtnagchanokbgdaaGreat.O
open Go.RowKit
set_option maxRecDepth 100000 in
set_option maxHeartbeats 2000000 in
theorem ConcatN_any (ps:List Part) (b k0 cp:Nat) (hk0:ps.length=k0) (hsm:k0≤3000000) (w:World) (h:Parts w b ps) (hlen:pLen ps≤3000000) :
  Calls Tryz.prog 107 #[.slice (some ⟨b,0,none⟩) k0 cp] w fun e w'=>∃ a m c,e=.returned (.slice a m c)∧w'.ownsRow w.heap.size 107 2 (.slice a m c) m (ecells (pAll ps))∧Below w.heap.size w w':=by
 obtain ⟨i0,hi,hz0,hz1,hz2⟩:=info_parts infoIE
 have HP:=hideIt h
 have HL:=hideIt hlen
 have HK:=hideIt hk0
 have hbw:=h.1
 clear h hlen hk0
 have HG:Hid (∀ n:Nat,n≤3000000→Calls Tryz.prog 129 #[.slice none 0 0,.int .i64 (n:Int)] w fun e w'=>∃ a' c',e=.returned (.slice a' 0 c')∧w'.ownsRow w.heap.size 107 2 (.slice a' 0 c') 0 []∧Below w.heap.size w w'):=fun n hn=>by
  by_cases h0:n=0
  ·subst h0
   exact (Grow_zero w).mono fun _ _ ⟨he,hw⟩=>⟨_,_,he,by rw [hw];exact World.ownsRow_nil _ _ _ _,by rw [hw];exact Below.refl _ _⟩
  ·exact Grow_some n (by omega) (by omega) w
 go_enter Tryz.func107,Tryz.ntmps107
 go_wp2
 go_loopw [3,11] (fun s i wr=>∃ (k q:Nat),k≤k0∧i=.int .i64 (k:Int)∧s=.int .i64 (q:Int)∧Hid (q=pLen (ps.take k))∧q≤3000000∧wr=w) (fun _ i _=>k0 - (intOf i).toNat)
 case atStart=>exact ⟨0,0,by omega,rfl,rfl,by show _=_;simp [pLen],by omega,rfl⟩
 case round =>
  obtain ⟨k,q,hk,rfl,rfl,hq,hq1,hw⟩:=hrel
  have hw':=hw.symm
  subst hw'
  clear hw
  by_cases hlt:k<k0
  ·obtain ⟨p,hp⟩:∃ p,ps[k]?=some p:=⟨ps[k]'(by have:=HK.out;omega),List.getElem?_eq_getElem _⟩
   obtain ⟨c0,_,_⟩:=HP.out.2 k p hp
   have HQ:Hid (q+p.m=pLen (ps.take (k+1))):=by show _=_;rw [take_snocF ps k p hp,pLen_snoc,hq.out]
   have hqm:q+p.m≤3000000:=by have:=HQ.out;have:=pLen_take ps (k+1);have:=HL.out;omega
   have b1:(0:Int)≤(k:Int):=by omega
   have b2:(k:Int)<(k0:Int):=by omega
   clear hq hp
   go_wp2
   exact ⟨⟨k+1,q+p.m,by omega,by go_num,by go_num,HQ,hqm,by first | trivial | rfl⟩,by simp [intOf];omega⟩
  ·obtain rfl:k=k0:=by omega
   have HQ:Hid (q=pLen ps):=by show _=_;rw [hq.out,List.take_of_length_le (by have:=HK.out;omega)]
   clear hq
   have HG1:=hideIt (HG.out q hq1)
   clear HG
   go_wp2_with (go_at_call 129;refine HG1.out.mono ?_;rintro e w1 ⟨a1,c1,rfl,hown1,hb1⟩;refine Hid.out ?_)
   refine (show ∀ {p:Prop},p→Hid p from fun h=>h) ?_
   clear HG1
   have HO1:=hideIt hown1
   clear hown1
   go_wp2
   go_loopw [6,27] (fun v i wr=>∃ (j m:Nat) (a':Option Addr) (c':Nat),j≤k∧i=.int .i64 (j:Int)∧v=.slice a' m c'∧Hid (m=pLen (ps.take j))∧wr.ownsRow w.heap.size 107 2 (.slice a' m c') m (ecells (pAll (ps.take j)))∧Below w.heap.size w wr) (fun _ i _=>k - (intOf i).toNat)
   case atStart=>exact ⟨0,0,a1,c1,by omega,rfl,rfl,by show _=_;simp [pLen],by simpa [pAll,ecells] using HO1.out,hb1⟩
   case round =>
    obtain ⟨j,m,a',c',hj,rfl,rfl,hm,hown,hb⟩:=hrel
    by_cases hlt2:j<k
    ·obtain ⟨p,hp⟩:∃ p,ps[j]?=some p:=⟨ps[j]'(by have:=HK.out;omega),List.getElem?_eq_getElem _⟩
     obtain ⟨c0,hes,hnil⟩:=HP.out.2 j p hp
     have c1:wr.cell? ⟨b,j,none⟩=some (.slice p.a p.m p.c):=by rw [hb.cell hbw];exact c0
     have HM:Hid (m+p.m=pLen (ps.take (j+1))):=by show _=_;rw [take_snocF ps j p hp,pLen_snoc,hm.out]
     have HA:Hid (ecells (pAll (ps.take (j+1)))=ecells (pAll (ps.take j)) ++ ecells p.es):=by show _=_;rw [take_snocF ps j p hp,pAll_snoc,ecells_append]
     have hmp:m+p.m≤3000000:=by have:=HM.out;have:=pLen_take ps (j+1);have:=HL.out;omega
     have b1:(0:Int)≤(j:Int):=by omega
     have b2:(j:Int)<(k:Int):=by omega
     have hesw:=(hes.below hb (Nat.le_refl _)).mono hb.size
     have hl2:(ecells p.es).length=p.m*2:=by rw [ecells_length,hes.1]
     obtain ⟨pa,pm,pc,pes⟩:=p
     dsimp only at *
     clear hm hp c0 hes
     cases pa with
     | none =>
      obtain ⟨rfl,rfl⟩:=hnil rfl
      have HO2:Hid (wr.ownsRow w.heap.size 107 2 (.slice a' m c') m (ecells (pAll (ps.take (j+1))))):=by
       have e0:pes=[]:=List.length_eq_zero_iff.1 hesw.1
       show World.ownsRow _ _ _ _ _ _ _
       rw [HA.out,e0]
       simpa [ecells] using hown
      clear hnil
      go_wp2_with (at_builtin;refine wpList_append_own_none rfl _ _ 25 rfl w.heap.size 107 i0 2 Tryz.underlying25 hi _ _ _ rfl hown rfl ?_)
      exact ⟨⟨j+1,m,a',c',by omega,by go_num,rfl,HM,HO2.out,hb⟩,by simp [intOf];omega⟩
     | some ad =>
      have hnews:∀ q u,(ecells pes)[q]?=some u→wr.cell? (ad.add q)=some u:=by
       rcases hesw.2 with h0 | ⟨bb,oo,hbb,_⟩
       ·intro q u hq
        have e0:pes=[]:=List.length_eq_zero_iff.1 (by rw [hesw.1];exact h0)
        rw [e0] at hq
        simp [ecells] at hq
       ·simp at hbb
        subst hbb
        exact hesw.news
      clear hnil
      go_wp2_with (at_builtin;refine wpList_append_own _ rfl _ _ 25 rfl w.heap.size 107 i0 _ 2 16 Tryz.underlying25 hi hz0 hz1 hz2 rfl (by decide) _ _ _ rfl hown ad pm pc (ecells pes) rfl hl2 hnews ecells_one (by unfold maxLen;omega) (by omega) hb.size ?_)
      intro v1 w1 hown1 hg1 hn1
      have hb1:Below w.heap.size w w1:=hb.grown hg1 hb.size (fun q hq=>(hown.lt q hq).1)
      rw [← HA.out] at hown1
      obtain ⟨a2,c2,rfl⟩:=own_form hown1
      have HO2:=hideIt hown1
      clear hown1 hown hg1 hn1 hnews
      go_wp2
      exact ⟨⟨j+1,m+pm,a2,c2,by omega,by go_num,rfl,HM,HO2.out,hb1⟩,by simp [intOf];omega⟩
    ·obtain rfl:j=k:=by omega
     have e:ps.take j=ps:=List.take_of_length_le (by have:=HK.out;omega)
     rw [e] at hown
     have HO2:=hideIt hown
     clear hown e hm
     go_wp2
     go_ret
     exact ⟨a',m,c',rfl,HO2.out,hb⟩
def Vs (w:World) (B:Nat) (a:Option Addr) (n:Nat) (vs:List Value):Prop :=
 vs.length=n∧(n=0∨∃ b off,a=some ⟨b,off,none⟩∧b<B∧∀ (j:Nat) (v:Value),vs[j]?=some v→w.cell? ⟨b,off+j,none⟩=some v)
theorem Vs.below {w w':World} {B C:Nat} {a:Option Addr} {n:Nat} {vs:List Value} (h:Vs w B a n vs) (hb:Below C w w') (hB:B≤C):Vs w' B a n vs:=by
 refine ⟨h.1,h.2.imp id ?_⟩
 rintro ⟨b,off,h1,h2,h3⟩
 exact ⟨b,off,h1,h2,fun j x hx=>by rw [hb.cell (p:=⟨b,_,none⟩) (by show b<_;omega)];exact h3 j x hx⟩
theorem Vs.mono {w:World} {B C:Nat} {a:Option Addr} {n:Nat} {vs:List Value} (h:Vs w B a n vs) (hB:B≤C):Vs w C a n vs:=by
 refine ⟨h.1,h.2.imp id ?_⟩
 rintro ⟨b,off,h1,h2,h3⟩
 exact ⟨b,off,h1,by omega,h3⟩
def Hdr (vs:List Value):Prop:=∀ v ∈ vs,∃ a m c,v=.slice a m c
theorem Hdr.one {vs:List Value} (h:Hdr vs):∀ u ∈ vs,u.oneCell'=true:=fun u hu=>by obtain ⟨a,m,c,rfl⟩:=h u hu;rfl
theorem infoSE:(Tryz.prog.info? 25).map (fun i=>(i.zero,i.size,i.bytes))=some (some (.slice none 0 0),1,24):=by kernel_rfl
theorem Vs.news {w:World} {B b off n:Nat} {vs:List Value} (h:Vs w B (some ⟨b,off,none⟩) n vs):∀ j u,vs[j]?=some u→w.cell? ((⟨b,off,none⟩:Addr).add j)=some u:=by
 intro j u hj
 have hl:j<vs.length:=(List.getElem?_eq_some_iff.1 hj).1
 have hn:=h.1
 rcases h.2 with h0 | ⟨b',off',hb,_,hc⟩
 ·omega
 ·simp at hb
  obtain ⟨rfl,rfl⟩:=hb
  rw [show ((⟨b,off,none⟩:Addr).add j)=⟨b,off+j,none⟩ by by_cases h0:j=0 <;> simp [Addr.add,h0]]
  exact hc j u hj
structure PartV where
 a:Option Addr
 m:Nat
 c:Nat
 es:List Value
def PartsV (w:World) (b:Nat) (ps:List PartV):Prop :=
 b<w.heap.size∧∀ (j:Nat) (p:PartV),ps[j]?=some p→w.cell? ⟨b,j,none⟩=some (.slice p.a p.m p.c)∧(Vs w w.heap.size p.a p.m p.es∧Hdr p.es)∧(p.a=none→p.m=0∧p.c=0)
def vLen (ps:List PartV):Nat:=(ps.map fun p=>p.m).sum
def vAll (ps:List PartV):List Value:=ps.flatMap fun p=>p.es
theorem vLen_snoc (ps:List PartV) (p:PartV):vLen (ps ++ [p])=vLen ps+p.m:=by simp [vLen]
theorem vAll_snoc (ps:List PartV) (p:PartV):vAll (ps ++ [p])=vAll ps ++ p.es:=by simp [vAll]
theorem vLen_take (ps:List PartV) (k:Nat):vLen (ps.take k)≤vLen ps:=by
 have h:=congrArg vLen (List.take_append_drop k ps)
 have e:∀ a b:List PartV,vLen (a ++ b)=vLen a+vLen b:=fun a b=>by simp [vLen]
 rw [e] at h
 omega
theorem GrowV_zero (w:World):Calls Tryz.prog 163 #[.slice none 0 0,.int .i64 0] w fun e w'=>e=.returned (.slice none 0 0)∧w'=w:=by
 go_enter Tryz.func163,Tryz.ntmps163
 go_wp2
 go_ret
 exact ⟨rfl,rfl⟩
theorem GrowV_some (n:Nat) (hn0:0<n) (hn:n≤10000000) (w:World) :
  Calls Tryz.prog 163 #[.slice none 0 0,.int .i64 (n:Int)] w fun e w'=>∃ a' c',e=.returned (.slice a' 0 c')∧w'.ownsRow w.heap.size 25 1 (.slice a' 0 c') 0 []∧Below w.heap.size w w':=by
 obtain ⟨i0,hi,hz0,hz1,hz2⟩:=info_parts infoSE
 have hold:(Builtin.firstCells i0.size 0 (.slice none 0 0)).run Tryz.prog w.drew=.ok ([]:List Value).toArray w.drew:=run_firstCells_none w.drew i0.size 0 0 0
 have hrz:∀ ty,(Builtin.append_ #[151,3] ty #[.slice none 0 0,.int .i64 (n:Int)]).run Tryz.prog w=_:=fun ty =>
  Lib.run_append_grow_zeros w 151 3 ty 25 i0 _ .i64 .i64 Tryz.underlying151 Tryz.underlying3 hi hz0 none 0 0 [] hold n hn0 (by rw [hz1];omega) (by omega) (by omega)
   (by rw [hz2];omega) (by rw [Nat.zero_add];exact growslice_fits (by omega) (by rw [hz2];omega))
 have hGn:0+n≤grownCap w (0+n) 0 25:=grownCap_ge w _ _ _
 have hGm:grownCap w (0+n) 0 25≤maxLen:=grownCap_le_maxLen w (0+n) 0 25 (by unfold maxLen;omega)
 obtain ⟨G,hG⟩:∃ G,G=grownCap w (0+n) 0 25:=⟨_,rfl⟩
 rw [← hG] at hGn hGm
 have hrz2:∀ ty,(Builtin.append_ #[151,3] ty #[.slice none 0 0,.int .i64 (n:Int)]).run Tryz.prog w=.ok (.slice (some ⟨w.heap.size,0,none⟩) n G) (w.drew.alloc (.cells (Builtin.zeroCells #[.slice none 0 0] n ++ Builtin.zeroCells #[.slice none 0 0] (G - n)) 25)):=fun ty=>by
  rw [hrz ty,← hG]
  simp [Value.cells]
 have hsz:(Builtin.zeroCells #[.slice none 0 0] n ++ Builtin.zeroCells #[.slice none 0 0] (G - n)).size=G*1:=by
  simp [Builtin.zeroCells]
  omega
 have HO:=hideIt (show (w.drew.alloc (.cells (Builtin.zeroCells #[.slice none 0 0] n ++ Builtin.zeroCells #[.slice none 0 0] (G - n)) 25)).ownsRow w.heap.size 25 1 (.slice (some ⟨w.heap.size,0,none⟩) 0 G) 0 [] from
  ⟨rfl,.inr ⟨w.heap.size,G,_,rfl,Nat.le_refl _,heap_alloc_new w.drew _,by omega,hGm,hsz,rfl⟩⟩)
 have HB:=hideIt (show Below w.heap.size w (w.drew.alloc (.cells (Builtin.zeroCells #[.slice none 0 0] n ++ Builtin.zeroCells #[.slice none 0 0] (G - n)) 25)) from (Below.refl _ _).drew.alloc (Nat.le_refl _) _)
 generalize (w.drew.alloc (.cells (Builtin.zeroCells #[.slice none 0 0] n ++ Builtin.zeroCells #[.slice none 0 0] (G - n)) 25))=W at hrz2 HO HB
 have g1:(0:Int)≤(G:Int):=by omega
 have d0:decide ((0:Int)<(n:Int))=true:=decide_eq_true (by omega)
 have d1:decide ((n:Int)<0)=false:=decide_eq_false (by omega)
 unfold maxLen at hGm
 clear hrz hold hG hsz
 go_enter Tryz.func163,Tryz.ntmps163
 go_wp2_with (at_builtin;refine Lib.wpList_append_run _ rfl _ _ _ _ rfl _ _ rfl rfl _ _ (hrz2 _) ?_)
 all_goals
  go_ret
  exact ⟨_,_,rfl,HO.out,HB.out⟩
set_option maxRecDepth 100000 in
set_option maxHeartbeats 2000000 in
theorem ConcatV_any (ps:List PartV) (b k0:Nat) (hk0:ps.length=k0) (hsm:k0≤10) (w:World) (h:PartsV w b ps) (hlen:vLen ps≤3000000) :
  Calls Tryz.prog 159 #[.slice (some ⟨b,0,none⟩) k0 k0] w fun e w'=>∃ a m c,e=.returned (.slice a m c)∧w'.ownsRow w.heap.size 25 1 (.slice a m c) m (vAll ps)∧Below w.heap.size w w':=by
 obtain ⟨i0,hi,hz0,hz1,hz2⟩:=info_parts infoSE
 have HP:=hideIt h
 have HL:=hideIt hlen
 have HK:=hideIt hk0
 have hbw:=h.1
 clear h hlen hk0
 have HG:Hid (∀ n:Nat,n≤3000000→Calls Tryz.prog 163 #[.slice none 0 0,.int .i64 (n:Int)] w fun e w'=>∃ a' c',e=.returned (.slice a' 0 c')∧w'.ownsRow w.heap.size 25 1 (.slice a' 0 c') 0 []∧Below w.heap.size w w'):=fun n hn=>by
  by_cases h0:n=0
  ·subst h0
   exact (GrowV_zero w).mono fun _ _ ⟨he,hw⟩=>⟨_,_,he,by rw [hw];exact World.ownsRow_nil _ _ _ _,by rw [hw];exact Below.refl _ _⟩
  ·exact GrowV_some n (by omega) (by omega) w
 go_enter Tryz.func159,Tryz.ntmps159
 go_wp2
 go_loopw [3,11] (fun s i wr=>∃ (k q:Nat),k≤k0∧i=.int .i64 (k:Int)∧s=.int .i64 (q:Int)∧Hid (q=vLen (ps.take k))∧q≤3000000∧wr=w) (fun _ i _=>k0 - (intOf i).toNat)
 case atStart=>exact ⟨0,0,by omega,rfl,rfl,by show _=_;simp [vLen],by omega,rfl⟩
 case round =>
  obtain ⟨k,q,hk,rfl,rfl,hq,hq1,hw⟩:=hrel
  have hw':=hw.symm
  subst hw'
  clear hw
  by_cases hlt:k<k0
  ·obtain ⟨p,hp⟩:∃ p,ps[k]?=some p:=⟨ps[k]'(by have:=HK.out;omega),List.getElem?_eq_getElem _⟩
   obtain ⟨c0,_,_⟩:=HP.out.2 k p hp
   have HQ:Hid (q+p.m=vLen (ps.take (k+1))):=by show _=_;rw [take_snocF ps k p hp,vLen_snoc,hq.out]
   have hqm:q+p.m≤3000000:=by have:=HQ.out;have:=vLen_take ps (k+1);have:=HL.out;omega
   have b1:(0:Int)≤(k:Int):=by omega
   have b2:(k:Int)<(k0:Int):=by omega
   clear hq hp
   go_wp2
   exact ⟨⟨k+1,q+p.m,by omega,by go_num,by go_num,HQ,hqm,by first | trivial | rfl⟩,by simp [intOf];omega⟩
  ·obtain rfl:k=k0:=by omega
   have HQ:Hid (q=vLen ps):=by show _=_;rw [hq.out,List.take_of_length_le (by have:=HK.out;omega)]
   clear hq
   have HG1:=hideIt (HG.out q hq1)
   clear HG
   go_wp2_with (go_at_call 163;refine HG1.out.mono ?_;rintro e w1 ⟨a1,c1,rfl,hown1,hb1⟩;refine Hid.out ?_)
   refine (show ∀ {p:Prop},p→Hid p from fun h=>h) ?_
   clear HG1
   have HO1:=hideIt hown1
   clear hown1
   go_wp2
   go_loopw [6,27] (fun v i wr=>∃ (j m:Nat) (a':Option Addr) (c':Nat),j≤k∧i=.int .i64 (j:Int)∧v=.slice a' m c'∧Hid (m=vLen (ps.take j))∧wr.ownsRow w.heap.size 25 1 (.slice a' m c') m (vAll (ps.take j))∧Below w.heap.size w wr) (fun _ i _=>k - (intOf i).toNat)
   case atStart=>exact ⟨0,0,a1,c1,by omega,rfl,rfl,by show _=_;simp [vLen],by simpa [vAll] using HO1.out,hb1⟩
   case round =>
    obtain ⟨j,m,a',c',hj,rfl,rfl,hm,hown,hb⟩:=hrel
    by_cases hlt2:j<k
    ·obtain ⟨p,hp⟩:∃ p,ps[j]?=some p:=⟨ps[j]'(by have:=HK.out;omega),List.getElem?_eq_getElem _⟩
     obtain ⟨c0,hes,hnil⟩:=HP.out.2 j p hp
     have c1:wr.cell? ⟨b,j,none⟩=some (.slice p.a p.m p.c):=by rw [hb.cell hbw];exact c0
     have HM:Hid (m+p.m=vLen (ps.take (j+1))):=by show _=_;rw [take_snocF ps j p hp,vLen_snoc,hm.out]
     have HA:Hid (vAll (ps.take (j+1))=vAll (ps.take j) ++ p.es):=by show _=_;rw [take_snocF ps j p hp,vAll_snoc]
     have hmp:m+p.m≤3000000:=by have:=HM.out;have:=vLen_take ps (j+1);have:=HL.out;omega
     have b1:(0:Int)≤(j:Int):=by omega
     have b2:(j:Int)<(k:Int):=by omega
     have hesw:=(hes.1.below hb (Nat.le_refl _)).mono hb.size
     have hhdr:=hes.2
     have hl2:p.es.length=p.m*1:=by rw [hes.1.1];omega
     obtain ⟨pa,pm,pc,pes⟩:=p
     dsimp only at *
     clear hm hp c0 hes
     cases pa with
     | none =>
      obtain ⟨rfl,rfl⟩:=hnil rfl
      have HO2:Hid (wr.ownsRow w.heap.size 25 1 (.slice a' m c') m (vAll (ps.take (j+1)))):=by
       have e0:pes=[]:=List.length_eq_zero_iff.1 hesw.1
       show World.ownsRow _ _ _ _ _ _ _
       rw [HA.out,e0]
       simpa using hown
      clear hnil
      go_wp2_with (at_builtin;refine wpList_append_own_none rfl _ _ 151 rfl w.heap.size 25 i0 1 Tryz.underlying151 hi _ _ _ rfl hown rfl ?_)
      exact ⟨⟨j+1,m,a',c',by omega,by go_num,rfl,HM,HO2.out,hb⟩,by simp [intOf];omega⟩
     | some ad =>
      have hnews:∀ q u,pes[q]?=some u→wr.cell? (ad.add q)=some u:=by
       rcases hesw.2 with h0 | ⟨bb,oo,hbb,_⟩
       ·intro q u hq
        have e0:pes=[]:=List.length_eq_zero_iff.1 (by rw [hesw.1];exact h0)
        rw [e0] at hq
        simp at hq
       ·simp at hbb
        subst hbb
        exact hesw.news
      clear hnil
      go_wp2_with (at_builtin;refine wpList_append_own _ rfl _ _ 151 rfl w.heap.size 25 i0 _ 1 24 Tryz.underlying151 hi hz0 hz1 hz2 rfl (by decide) _ _ _ rfl hown ad pm pc pes rfl hl2 hnews hhdr.one (by unfold maxLen;omega) (by omega) hb.size ?_)
      intro v1 w1 hown1 hg1 hn1
      have hb1:Below w.heap.size w w1:=hb.grown hg1 hb.size (fun q hq=>(hown.lt q hq).1)
      rw [← HA.out] at hown1
      obtain ⟨a2,c2,rfl⟩:=own_form hown1
      have HO2:=hideIt hown1
      clear hown1 hown hg1 hn1 hnews
      go_wp2
      exact ⟨⟨j+1,m+pm,a2,c2,by omega,by go_num,rfl,HM,HO2.out,hb1⟩,by simp [intOf];omega⟩
    ·obtain rfl:j=k:=by omega
     have e:ps.take j=ps:=List.take_of_length_le (by have:=HK.out;omega)
     rw [e] at hown
     have HO2:=hideIt hown
     clear hown e hm
     go_wp2
     go_ret
     exact ⟨a',m,c',rfl,HO2.out,hb⟩
end Go.Proofs.YtnagchanokbgdaaGreat.O
