/- The program's copy of a head that records lead to. A list laid anew by append onto an empty one. A list laid anew by append onto an empty one: of numbers, of edges, of what is said. The specification's copy of a head that records lead to. -/
import Derived.Test.YtnagchanokbgdaaGreatJHx20
import Derived.Test.YtnagchanokbgdaaGreatJSq1
import Derived.Test.YtnagchanokbgdaaGreatJVerts
import Derived.Laws.AppendOwnNone
import Derived.Deep.AppendLies
namespace Go.Proofs.YtnagchanokbgdaaGreat
open Go.RowKit
theorem set_otherB20 {y:World} {b b' i j:Nat} {v:Value} (hne:b≠b'):(y.setCell ⟨b',j,none⟩ v).cell? ⟨b,i,none⟩=y.cell? ⟨b,i,none⟩:=World.cell?_of_block (w:=y) (Below.heap_setCell _ _ _ _ (by show b≠b';exact hne))
structure CpR (w:World) (h:Hd) (nO nC nN nE nS p1 c1:Nat) (p2:Option Addr) (c2 p3 c3:Nat) (p5:Option Addr) (c5:Nat) (p4:Option Addr) (c4:Nat) (x:World):Prop where
 o:x.ownsRow (w.heap.size+3) 3 1 (.slice (some ⟨p1,0,none⟩) nO c1) nO (ic h.own)
 c:x.ownsRow (w.heap.size+3) 107 2 (.slice p2 nC c2) nC (O.ecells h.cuts)
 n:x.ownsRow (w.heap.size+3) 3 1 (.slice (some ⟨p3,0,none⟩) nN c3) nN (ic h.nums)
 e:x.ownsRow (w.heap.size+3) 107 2 (.slice p5 nE c5) nE (O.ecells h.es)
 s:x.ownsRow (w.heap.size+3) 82 6 (.slice p4 nS c4) nS (scells h.said)
theorem CpR.up {w x y:World} {h:Hd} {nO nC nN nE nS p1 c1:Nat} {p2:Option Addr} {c2 p3 c3:Nat} {p5:Option Addr} {c5:Nat} {p4:Option Addr} {c4:Nat} (k:CpR w h nO nC nN nE nS p1 c1 p2 c2 p3 c3 p5 c5 p4 c4 x) (hb:Below x.heap.size x y):CpR w h nO nC nN nE nS p1 c1 p2 c2 p3 c3 p5 c5 p4 c4 y:=⟨own_up k.o hb,own_up k.c hb,own_up k.n hb,own_up k.e hb,own_up k.s hb⟩
theorem CpR.set {w x:World} {h:Hd} {nO nC nN nE nS p1 c1:Nat} {p2:Option Addr} {c2 p3 c3:Nat} {p5:Option Addr} {c5:Nat} {p4:Option Addr} {c4:Nat} (k:CpR w h nO nC nN nE nS p1 c1 p2 c2 p3 c3 p5 c5 p4 c4 x) (off:Nat) (v:Value):CpR w h nO nC nN nE nS p1 c1 p2 c2 p3 c3 p5 c5 p4 c4 (x.setCell ⟨w.heap.size+1+1,off,none⟩ v):=⟨own_lowA k.o (by omega),own_lowA k.c (by omega),own_lowA k.n (by omega),own_lowA k.e (by omega),own_lowA k.s (by omega)⟩
theorem own_rowNe {x:World} {B e s n B' g m c:Nat} {y:Value} {ys xs:List Value} (h:x.ownsRow B e s y n ys) (hr:x.ownsRow B' 24 1 (.slice (some ⟨g,0,none⟩) m c) m xs) (he:e≠24) (off:Nat) (v:Value):(x.setCell ⟨g,off,none⟩ v).ownsRow B e s y n ys:=by
 refine World.ownsRow.kept h (grownSet x g off v) ?_
 cases hb:y.ownBlock with
 | none=>exact .inl rfl
 | some b=>exact .inr fun e=>rowsNe h hr he b hb (show some g=some b from e.symm)
theorem CpR.row {w x:World} {h:Hd} {nO nC nN nE nS p1 c1:Nat} {p2:Option Addr} {c2 p3 c3:Nat} {p5:Option Addr} {c5:Nat} {p4:Option Addr} {c4:Nat} (k:CpR w h nO nC nN nE nS p1 c1 p2 c2 p3 c3 p5 c5 p4 c4 x) {B g m c:Nat} {xs:List Value} (hr:x.ownsRow B 24 1 (.slice (some ⟨g,0,none⟩) m c) m xs) (off:Nat) (v:Value):CpR w h nO nC nN nE nS p1 c1 p2 c2 p3 c3 p5 c5 p4 c4 (x.setCell ⟨g,off,none⟩ v) :=
 ⟨own_rowNe k.o hr (by decide) off v,own_rowNe k.c hr (by decide) off v,own_rowNe k.n hr (by decide) off v,own_rowNe k.e hr (by decide) off v,own_rowNe k.s hr (by decide) off v⟩
set_option maxRecDepth 100000 in
set_option maxHeartbeats 16000000 in
theorem headCopy_inv {S:Nat} {h:Hd} {p:Hp} (w:World) (R0:HR S w h p) :
  Calls Tryz.prog 89 #[.agg (hC h p)] w fun e w'=>∃ p' R,e=.returned (.agg (hC h p'))∧HW w' w.heap.size h p' R∧Below w.heap.size w w':=by
 have hln:=R0.inv.lens R0.inn
 have hel:=R0.elen
 have hsS:=R0.inv.s
 have hN1:=R0.inv.n
 obtain ⟨pO,pC,⟨aL,nL,cL⟩,pN,pE,pS⟩:=p
 dsimp only at hln hel
 obtain ⟨w2,hw2⟩:=ex0 (((w.alloc (.cells (hC h ⟨pO,pC,⟨aL,nL,cL⟩,pN,pE,pS⟩) 35)).alloc (.cells #[.int .i64 0,.slice none 0 0,.slice none 0 0,.slice none 0 0,.slice none 0 0,.int .i64 0,.int .i64 0,.int .i64 0,.int .i64 0,.int .i64 0,.int .i64 0,.int .i64 0,.slice none 0 0,.int .i64 0,.slice none 0 0] 35)).alloc (.cells #[.int .i64 h.N,.slice pO.a pO.n pO.c,.slice pC.a pC.n pC.c,.slice aL nL cL,.slice pN.a pN.n pN.c,.int .i64 h.i,.int .i64 h.o,.int .i64 h.a,.int .i64 h.b,.int .i64 h.sh,.int .i64 h.num,.int .i64 h.op,.slice pE.a pE.n pE.c,.int .i64 h.v,.slice pS.a pS.n pS.c] 35))
 have B2:CpB w h ⟨pO,pC,⟨aL,nL,cL⟩,pN,pE,pS⟩ ⟨pO,pC,⟨aL,nL,cL⟩,pN,pE,pS⟩ w2:=by
  have h0:=((BxA.new w 35 (hC h ⟨pO,pC,⟨aL,nL,cL⟩,pN,pE,pS⟩)).up (belA _ (.cells #[.int .i64 0,.slice none 0 0,.slice none 0 0,.slice none 0 0,.slice none 0 0,.int .i64 0,.int .i64 0,.int .i64 0,.int .i64 0,.int .i64 0,.int .i64 0,.int .i64 0,.slice none 0 0,.int .i64 0,.slice none 0 0] 35))).up (belA _ (.cells #[.int .i64 h.N,.slice pO.a pO.n pO.c,.slice pC.a pC.n pC.c,.slice aL nL cL,.slice pN.a pN.n pN.c,.int .i64 h.i,.int .i64 h.o,.int .i64 h.a,.int .i64 h.b,.int .i64 h.sh,.int .i64 h.num,.int .i64 h.op,.slice pE.a pE.n pE.c,.int .i64 h.v,.slice pS.a pS.n pS.c] 35))
  have h1:=(BxA.new (w.alloc (.cells (hC h ⟨pO,pC,⟨aL,nL,cL⟩,pN,pE,pS⟩) 35)) 35 #[.int .i64 0,.slice none 0 0,.slice none 0 0,.slice none 0 0,.slice none 0 0,.int .i64 0,.int .i64 0,.int .i64 0,.int .i64 0,.int .i64 0,.int .i64 0,.int .i64 0,.slice none 0 0,.int .i64 0,.slice none 0 0]).up (belA _ (.cells #[.int .i64 h.N,.slice pO.a pO.n pO.c,.slice pC.a pC.n pC.c,.slice aL nL cL,.slice pN.a pN.n pN.c,.int .i64 h.i,.int .i64 h.o,.int .i64 h.a,.int .i64 h.b,.int .i64 h.sh,.int .i64 h.num,.int .i64 h.op,.slice pE.a pE.n pE.c,.int .i64 h.v,.slice pS.a pS.n pS.c] 35))
  have h2:=BxA.new ((w.alloc (.cells (hC h ⟨pO,pC,⟨aL,nL,cL⟩,pN,pE,pS⟩) 35)).alloc (.cells #[.int .i64 0,.slice none 0 0,.slice none 0 0,.slice none 0 0,.slice none 0 0,.int .i64 0,.int .i64 0,.int .i64 0,.int .i64 0,.int .i64 0,.int .i64 0,.int .i64 0,.slice none 0 0,.int .i64 0,.slice none 0 0] 35)) 35 #[.int .i64 h.N,.slice pO.a pO.n pO.c,.slice pC.a pC.n pC.c,.slice aL nL cL,.slice pN.a pN.n pN.c,.int .i64 h.i,.int .i64 h.o,.int .i64 h.a,.int .i64 h.b,.int .i64 h.sh,.int .i64 h.num,.int .i64 h.op,.slice pE.a pE.n pE.c,.int .i64 h.v,.slice pS.a pS.n pS.c]
  rw [show (w.alloc (.cells (hC h ⟨pO,pC,⟨aL,nL,cL⟩,pN,pE,pS⟩) 35)).heap.size=w.heap.size+1 by simp] at h1
  rw [show ((w.alloc (.cells (hC h ⟨pO,pC,⟨aL,nL,cL⟩,pN,pE,pS⟩) 35)).alloc (.cells #[.int .i64 0,.slice none 0 0,.slice none 0 0,.slice none 0 0,.slice none 0 0,.int .i64 0,.int .i64 0,.int .i64 0,.int .i64 0,.int .i64 0,.int .i64 0,.int .i64 0,.slice none 0 0,.int .i64 0,.slice none 0 0] 35)).heap.size=w.heap.size+1+1 by simp] at h2
  rw [hw2]
  exact ⟨h2,h0,h1,(((Below.refl _ _).alloc (Nat.le_refl _) _).alloc (by simp) _).alloc (by simp;omega) _⟩
 have HLt:Hid (w.heap.size+3≤w2.heap.size):=B2.lt
 have BR:Hid (∀ u,Good w2 u→CpB w h ⟨pO,pC,⟨aL,nL,cL⟩,pN,pE,pS⟩ ⟨pO,pC,⟨aL,nL,cL⟩,pN,pE,pS⟩ u):=fun u hu=>B2.up hu
 have HC:Hid (∀ u,Good w2 u→u.cell? ⟨w.heap.size,1,none⟩=some (.slice pO.a pO.n pO.c)∧u.cell? ⟨w.heap.size,2,none⟩=some (.slice pC.a pC.n pC.c)∧u.cell? ⟨w.heap.size,4,none⟩=some (.slice pN.a pN.n pN.c)∧u.cell? ⟨w.heap.size,14,none⟩=some (.slice pS.a pS.n pS.c)):=fun u hu=>⟨(B2.up hu).h.cell 1 rfl,(B2.up hu).h.cell 2 rfl,(B2.up hu).h.cell 4 rfl,(B2.up hu).h.cell 14 rfl⟩
 have HSt:Hid (∀ (y:World) (j:Nat) (v:Value),(y.cell? ⟨w.heap.size,1,none⟩=some (.slice pO.a pO.n pO.c)∧y.cell? ⟨w.heap.size,2,none⟩=some (.slice pC.a pC.n pC.c)∧y.cell? ⟨w.heap.size,4,none⟩=some (.slice pN.a pN.n pN.c)∧y.cell? ⟨w.heap.size,14,none⟩=some (.slice pS.a pS.n pS.c))→(fun u=>u.cell? ⟨w.heap.size,1,none⟩=some (.slice pO.a pO.n pO.c)∧u.cell? ⟨w.heap.size,2,none⟩=some (.slice pC.a pC.n pC.c)∧u.cell? ⟨w.heap.size,4,none⟩=some (.slice pN.a pN.n pN.c)∧u.cell? ⟨w.heap.size,14,none⟩=some (.slice pS.a pS.n pS.c)) (y.setCell ⟨w.heap.size+1+1,j,none⟩ v)):=fun y j v hy=>by
  have hne:w.heap.size≠w.heap.size+1+1:=by omega
  dsimp only
  rw [set_otherB20 hne,set_otherB20 hne,set_otherB20 hne,set_otherB20 hne]
  exact hy
 have hS2:=HC.out _ (Good.refl w2).drew
 have HIn:Hid (∀ u,Below w.heap.size w u→HIn u h ⟨pO,pC,⟨aL,nL,cL⟩,pN,pE,pS⟩):=fun u hu=>R0.inn.up hu
 have HG2:Hid (∀ u,Good w2 u→Below w.heap.size w u):=fun u hu=>Below.trans B2.f (Below.mono hu B2.f.size)
 have HzE:Hid (pE.a=none→pE.n=0∧pE.c=0):=sl_nil R0.se
 have HE66:Hid (pE.n≤3000000):=by show _≤_;omega
 have HCo:Hid (∀ (u:World) (b:Nat),Good w2 u→(u.cell? ⟨b,0,none⟩=some (.slice pO.a pO.n pO.c)∧b<u.heap.size)→Calls Tryz.prog 94 #[.slice (some ⟨b,0,none⟩) 1 1] u fun e v=>∃ g c,e=.returned (.slice (some ⟨g,0,none⟩) pO.n c)∧v.ownsRow u.heap.size 3 1 (.slice (some ⟨g,0,none⟩) pO.n c) pO.n (ic h.own)∧Below u.heap.size u v):=fun u b hu hc =>
  con1I20 _ pO.a pO.n pO.c (by omega) (by omega) (sl_nil R0.so) b u (HIn.out u (HG2.out u hu)).o hc
 have HCn:Hid (∀ (u:World) (b:Nat),Good w2 u→(u.cell? ⟨b,0,none⟩=some (.slice pN.a pN.n pN.c)∧b<u.heap.size)→Calls Tryz.prog 94 #[.slice (some ⟨b,0,none⟩) 1 1] u fun e v=>∃ g c,e=.returned (.slice (some ⟨g,0,none⟩) pN.n c)∧v.ownsRow u.heap.size 3 1 (.slice (some ⟨g,0,none⟩) pN.n c) pN.n (ic h.nums)∧Below u.heap.size u v):=fun u b hu hc =>
  con1I20 _ pN.a pN.n pN.c (by omega) (by omega) (sl_nil R0.sn) b u (HIn.out u (HG2.out u hu)).n hc
 have HCe:Hid (∀ (u:World) (b:Nat),Good w2 u→(u.cell? ⟨b,0,none⟩=some (.slice pC.a pC.n pC.c)∧b<u.heap.size)→Calls Tryz.prog 107 #[.slice (some ⟨b,0,none⟩) 1 1] u fun e v=>∃ a c,e=.returned (.slice a pC.n c)∧v.ownsRow u.heap.size 107 2 (.slice a pC.n c) pC.n (O.ecells h.cuts)∧Below u.heap.size u v):=fun u b hu hc =>
  con1E20 _ pC.a pC.n pC.c (by omega) (sl_nil R0.sc) b u (HIn.out u (HG2.out u hu)).c hc
 have HCs:Hid (∀ (u:World) (b:Nat),Good w2 u→(u.cell? ⟨b,0,none⟩=some (.slice pS.a pS.n pS.c)∧b<u.heap.size)→Calls Tryz.prog 108 #[.slice (some ⟨b,0,none⟩) 1 1] u fun e v=>∃ a c,e=.returned (.slice a pS.n c)∧v.ownsRow u.heap.size 82 6 (.slice a pS.n c) pS.n (scells h.said)∧Below u.heap.size u v):=fun u b hu hc =>
  con1S20 _ pS.a pS.n pS.c (by omega) (sl_nil R0.ss) b u (HIn.out u (HG2.out u hu)).s hc
 have HL:Hid (h.lab.length=nL∧nL=S∧(∀ l ∈ h.lab,(l.length:Int)=h.N)):=⟨hln.2.2.2.2.2.2.2.1,hln.2.2.1,fun l hl=>(O.lB_bytes hN1.2 (R0.inv.lab.2 l hl)).1⟩
 have hsh:nL≤3:=by omega
 obtain ⟨i1,hi',hy0,hy1,hy2⟩:=info_parts infoIT
 have hmk:∀ u:World,(Instr.makeSlice 26 (.int .i64 (nL:Int)) (.int .i64 (nL:Int))).run Tryz.prog u =
   .ok (.slice (some ⟨u.heap.size,0,none⟩) nL nL) (u.alloc (.cells (madeCells #[.slice none 0 0] nL) 24)):=fun u=>by
  have h:=run_make (P:=Tryz.prog) u 26 24 i1 _ Tryz.underlying26 hi' hy0 .i64 .i64 (nL:Int) (nL:Int) (by omega) (by omega) (by rw [hy2];omega) (by omega)
  rw [Int.toNat_natCast] at h
  simpa [hy1,Value.cells] using h
 have HN12:=hideIt hN1
 obtain ⟨y0,y1,y2,y3,y4,y5,y6,y7,y8,y9,y10,y11,y12,y13,y14⟩:=(((BxA.new w 35 (hC h ⟨pO,pC,⟨aL,nL,cL⟩,pN,pE,pS⟩)).up (belA _ (.cells #[.int .i64 0,.slice none 0 0,.slice none 0 0,.slice none 0 0,.slice none 0 0,.int .i64 0,.int .i64 0,.int .i64 0,.int .i64 0,.int .i64 0,.int .i64 0,.int .i64 0,.slice none 0 0,.int .i64 0,.slice none 0 0] 35)))).all15p
 clear R0 B2 hln hel hsS hN1
 go_enter Tryz.func89,Tryz.ntmps89
 go_upto_region 2 with fail
 rw [← hw2]
 clear hw2 y0 y1 y2 y3 y4 y5 y6 y7 y8 y9 y10 y11 y12 y13 y14
 (
  apply viaT
  intro t2_3_6_7_10_11_14_15_16_
  apply viaT
  intro t2_3_6_7_10_11_14_16_
  apply viaT
  intro t2_3_6_7_10_11_14_15_
  apply viaT
  intro t2_3_6_7_10_11_16_
  apply viaT
  intro t2_3_6_7_10_14_16_
  apply viaT
  intro t2_3_6_7_10_11_14_
  apply viaT
  intro t2_3_6_7_10_16_
  apply viaT
  intro t2_3_6_7_14_16_
  apply viaT
  intro t2_3_6_10_14_16_
  apply viaT
  intro t2_3_6_7_10_11_
  apply viaT
  intro t2_3_6_7_10_14_
  apply viaT
  intro t2_3_6_7_16_
  apply viaT
  intro t2_3_6_10_16_
  apply viaT
  intro t2_3_6_14_16_
  apply viaT
  intro t2_3_10_14_16_
  apply viaT
  intro t2_3_6_7_10_
  apply viaT
  intro t2_3_6_7_14_
  apply viaT
  intro t2_3_6_10_14_
  apply viaT
  intro t2_3_6_16_
  apply viaT
  intro t2_3_10_16_
  apply viaT
  intro t2_3_14_16_
  apply viaT
  intro t2_3_6_7_
  apply viaT
  intro t2_3_6_10_
  apply viaT
  intro t2_3_6_14_
  apply viaT
  intro t2_3_10_14_
  apply viaT
  intro t2_6_10_14_
  apply viaT
  intro t2_3_16_
  apply viaT
  intro t2_3_6_
  apply viaT
  intro t2_3_10_
  apply viaT
  intro t2_3_14_
  apply viaT
  intro t2_6_10_
  apply viaT
  intro t2_6_14_
  apply viaT
  intro t2_10_14_
  apply viaT
  intro t6_10_14_
  apply viaT
  intro t2_3_
  apply viaT
  intro t2_6_
  apply viaT
  intro t2_10_
  apply viaT
  intro t2_14_
  apply viaT
  intro t6_10_
  apply viaT
  intro t6_14_
  apply viaT
  intro t10_14_
  apply viaT
  intro t2_
  apply viaT
  intro t6_
  apply viaT
  intro t10_
  apply viaT
  intro t14_
  focus (
  refine wp_region_held_drew (S:=(fun u=>u.cell? ⟨w.heap.size,1,none⟩=some (.slice pO.a pO.n pO.c)∧u.cell? ⟨w.heap.size,2,none⟩=some (.slice pC.a pC.n pC.c)∧u.cell? ⟨w.heap.size,4,none⟩=some (.slice pN.a pN.n pN.c)∧u.cell? ⟨w.heap.size,14,none⟩=some (.slice pS.a pS.n pS.c))) (by kernel_rfl) hS2 (fun hHeld=>?_)
  refine tq0 (i:=0) (v:=?_) rfl ?_ (by assumption) ?_
  rotate_left
  ·intro w hSw;(try dsimp only at hSw);go_simp;try with_reducible rfl
  try simp only [Act.put,pU0]
  refine tq0 (i:=1) (v:=?_) rfl ?_ (by assumption) ?_
  rotate_left
  ·intro w hSw;(try dsimp only at hSw);go_simp;try with_reducible rfl
  try simp only [Act.put,pU0]
  refine tq0 (i:=4) (v:=?_) rfl ?_ (by assumption) ?_
  rotate_left
  ·intro w hSw;(try dsimp only at hSw);go_simp;try with_reducible rfl
  try simp only [Act.put,pU0]
  refine tq0 (i:=5) (v:=?_) rfl ?_ (by assumption) ?_
  rotate_left
  ·intro w hSw;(try dsimp only at hSw);go_simp;try with_reducible rfl
  try simp only [Act.put,pU0]
  refine tq0 (i:=8) (v:=?_) rfl ?_ (by assumption) ?_
  rotate_left
  ·intro w hSw;(try dsimp only at hSw);go_simp;try with_reducible rfl
  try simp only [Act.put,pU0]
  refine tq0 (i:=9) (v:=?_) rfl ?_ (by assumption) ?_
  rotate_left
  ·intro w hSw;(try dsimp only at hSw);go_simp;try with_reducible rfl
  try simp only [Act.put,pU0]
  refine tq0 (i:=12) (v:=?_) rfl ?_ (by assumption) ?_
  rotate_left
  ·intro w hSw;(try dsimp only at hSw);go_simp;try with_reducible rfl
  try simp only [Act.put,pU0]
  refine tq0 (i:=13) (v:=?_) rfl ?_ (by assumption) ?_
  rotate_left
  ·intro w hSw;(try dsimp only at hSw);go_simp;try with_reducible rfl
  try simp only [Act.put,pU0]
  obtain ⟨y,hy⟩:=ex0 (w2.drew)
  have GU:Good w2 y:=by rw [hy];exact (Good.refl _).drew
  rw [← hy]
  clear hy hHeld
  refine wpAnyH_ready (rs:=[2,6,10,14]) (by kernel_rfl) (by simp) ?_
  refine AllReadyH.cons rfl (fun K hK=>?_) (AllReadyH.cons rfl (fun K hK=>?_) (AllReadyH.cons rfl (fun K hK=>?_) (AllReadyH.cons rfl (fun K hK=>?_) AllReadyH.nil)))
  focus (
  go_simp
  refine hK.out _ _ (HC.out _ (GU.alloc _)) (fun hHeld=>?_)
  clear hK K
  try simp only [Act.put,pU0]
  obtain ⟨z,hz⟩:=ex0 (y.alloc (.cells #[.slice pO.a pO.n pO.c] 24))
  have gg:=bz0 hz
  have P1:=pz0 hz
  replace GU:=Good.up GU gg
  rw [← hz]
  clear hz gg hHeld
  generalize y.heap.size=bA at *
  refine lstH (l':=#[true,true,true,false,true,true,false,false,true,true,false,false,true,true,false,false,false,false,false,false,false,false,false,false]) (by kernel_rfl) ?_
  have F:=And.intro GU P1
  clear GU P1
  revert F
  revert bA
  revert z
  exact t2_.out
  )
  focus (
  go_simp
  refine hK.out _ _ (HC.out _ (GU.alloc _)) (fun hHeld=>?_)
  clear hK K
  try simp only [Act.put,pU0]
  obtain ⟨z,hz⟩:=ex0 (y.alloc (.cells #[.slice pC.a pC.n pC.c] 25))
  have gg:=bz0 hz
  have P2:=pz0 hz
  replace GU:=Good.up GU gg
  rw [← hz]
  clear hz gg hHeld
  generalize y.heap.size=bB at *
  refine lstH (l':=#[true,true,false,false,true,true,true,false,true,true,false,false,true,true,false,false,false,false,false,false,false,false,false,false]) (by kernel_rfl) ?_
  have F:=And.intro GU P2
  clear GU P2
  revert F
  revert bB
  revert z
  exact t6_.out
  )
  focus (
  go_simp
  refine hK.out _ _ (HC.out _ (GU.alloc _)) (fun hHeld=>?_)
  clear hK K
  try simp only [Act.put,pU0]
  obtain ⟨z,hz⟩:=ex0 (y.alloc (.cells #[.slice pN.a pN.n pN.c] 24))
  have gg:=bz0 hz
  have P3:=pz0 hz
  replace GU:=Good.up GU gg
  rw [← hz]
  clear hz gg hHeld
  generalize y.heap.size=bC at *
  refine lstH (l':=#[true,true,false,false,true,true,false,false,true,true,true,false,true,true,false,false,false,false,false,false,false,false,false,false]) (by kernel_rfl) ?_
  have F:=And.intro GU P3
  clear GU P3
  revert F
  revert bC
  revert z
  exact t10_.out
  )
  focus (
  go_simp
  refine hK.out _ _ (HC.out _ (GU.alloc _)) (fun hHeld=>?_)
  clear hK K
  try simp only [Act.put,pU0]
  obtain ⟨z,hz⟩:=ex0 (y.alloc (.cells #[.slice pS.a pS.n pS.c] 33))
  have gg:=bz0 hz
  have P4:=pz0 hz
  replace GU:=Good.up GU gg
  rw [← hz]
  clear hz gg hHeld
  generalize y.heap.size=bD at *
  refine lstH (l':=#[true,true,false,false,true,true,false,false,true,true,false,false,true,true,true,false,false,false,false,false,false,false,false,false]) (by kernel_rfl) ?_
  have F:=And.intro GU P4
  clear GU P4
  revert F
  revert bD
  revert z
  exact t14_.out
  )
  )
  focus (
  intro y bD F
  obtain ⟨GU,P4⟩:=F
  have hHeld:=HC.out _ GU
  clear hHeld
  refine wpAnyH_ready (rs:=[2,6,10]) (by kernel_rfl) (by simp) ?_
  refine AllReadyH.cons rfl (fun K hK=>?_) (AllReadyH.cons rfl (fun K hK=>?_) (AllReadyH.cons rfl (fun K hK=>?_) AllReadyH.nil))
  focus (
  go_simp
  refine hK.out _ _ (HC.out _ (GU.alloc _)) (fun hHeld=>?_)
  clear hK K
  try simp only [pU0]
  obtain ⟨z,hz⟩:=ex0 (y.alloc (.cells #[.slice pO.a pO.n pO.c] 24))
  have gg:=bz0 hz
  have P1:=pz0 hz
  replace GU:=Good.up GU gg
  replace P4:=keepQ20 P4 gg
  rw [← hz]
  clear hz gg hHeld
  generalize y.heap.size=bA at *
  refine lstH (l':=#[true,true,true,false,true,true,false,false,true,true,false,false,true,true,true,false,false,false,false,false,false,false,false,false]) (by kernel_rfl) ?_
  have F:=And.intro GU (And.intro P1 P4)
  clear GU P1 P4
  revert F
  revert bD
  revert bA
  revert z
  exact t2_14_.out
  )
  focus (
  go_simp
  refine hK.out _ _ (HC.out _ (GU.alloc _)) (fun hHeld=>?_)
  clear hK K
  try simp only [pU0]
  obtain ⟨z,hz⟩:=ex0 (y.alloc (.cells #[.slice pC.a pC.n pC.c] 25))
  have gg:=bz0 hz
  have P2:=pz0 hz
  replace GU:=Good.up GU gg
  replace P4:=keepQ20 P4 gg
  rw [← hz]
  clear hz gg hHeld
  generalize y.heap.size=bB at *
  refine lstH (l':=#[true,true,false,false,true,true,true,false,true,true,false,false,true,true,true,false,false,false,false,false,false,false,false,false]) (by kernel_rfl) ?_
  have F:=And.intro GU (And.intro P2 P4)
  clear GU P2 P4
  revert F
  revert bD
  revert bB
  revert z
  exact t6_14_.out
  )
  focus (
  go_simp
  refine hK.out _ _ (HC.out _ (GU.alloc _)) (fun hHeld=>?_)
  clear hK K
  try simp only [pU0]
  obtain ⟨z,hz⟩:=ex0 (y.alloc (.cells #[.slice pN.a pN.n pN.c] 24))
  have gg:=bz0 hz
  have P3:=pz0 hz
  replace GU:=Good.up GU gg
  replace P4:=keepQ20 P4 gg
  rw [← hz]
  clear hz gg hHeld
  generalize y.heap.size=bC at *
  refine lstH (l':=#[true,true,false,false,true,true,false,false,true,true,true,false,true,true,true,false,false,false,false,false,false,false,false,false]) (by kernel_rfl) ?_
  have F:=And.intro GU (And.intro P3 P4)
  clear GU P3 P4
  revert F
  revert bD
  revert bC
  revert z
  exact t10_14_.out
  )
  )
  focus (
  intro y bC F
  obtain ⟨GU,P3⟩:=F
  have hHeld:=HC.out _ GU
  clear hHeld
  refine wpAnyH_ready (rs:=[2,6,14]) (by kernel_rfl) (by simp) ?_
  refine AllReadyH.cons rfl (fun K hK=>?_) (AllReadyH.cons rfl (fun K hK=>?_) (AllReadyH.cons rfl (fun K hK=>?_) AllReadyH.nil))
  focus (
  go_simp
  refine hK.out _ _ (HC.out _ (GU.alloc _)) (fun hHeld=>?_)
  clear hK K
  try simp only [pU0]
  obtain ⟨z,hz⟩:=ex0 (y.alloc (.cells #[.slice pO.a pO.n pO.c] 24))
  have gg:=bz0 hz
  have P1:=pz0 hz
  replace GU:=Good.up GU gg
  replace P3:=keepQ20 P3 gg
  rw [← hz]
  clear hz gg hHeld
  generalize y.heap.size=bA at *
  refine lstH (l':=#[true,true,true,false,true,true,false,false,true,true,true,false,true,true,false,false,false,false,false,false,false,false,false,false]) (by kernel_rfl) ?_
  have F:=And.intro GU (And.intro P1 P3)
  clear GU P1 P3
  revert F
  revert bC
  revert bA
  revert z
  exact t2_10_.out
  )
  focus (
  go_simp
  refine hK.out _ _ (HC.out _ (GU.alloc _)) (fun hHeld=>?_)
  clear hK K
  try simp only [pU0]
  obtain ⟨z,hz⟩:=ex0 (y.alloc (.cells #[.slice pC.a pC.n pC.c] 25))
  have gg:=bz0 hz
  have P2:=pz0 hz
  replace GU:=Good.up GU gg
  replace P3:=keepQ20 P3 gg
  rw [← hz]
  clear hz gg hHeld
  generalize y.heap.size=bB at *
  refine lstH (l':=#[true,true,false,false,true,true,true,false,true,true,true,false,true,true,false,false,false,false,false,false,false,false,false,false]) (by kernel_rfl) ?_
  have F:=And.intro GU (And.intro P2 P3)
  clear GU P2 P3
  revert F
  revert bC
  revert bB
  revert z
  exact t6_10_.out
  )
  focus (
  go_simp
  refine hK.out _ _ (HC.out _ (GU.alloc _)) (fun hHeld=>?_)
  clear hK K
  try simp only [pU0]
  obtain ⟨z,hz⟩:=ex0 (y.alloc (.cells #[.slice pS.a pS.n pS.c] 33))
  have gg:=bz0 hz
  have P4:=pz0 hz
  replace GU:=Good.up GU gg
  replace P3:=keepQ20 P3 gg
  rw [← hz]
  clear hz gg hHeld
  generalize y.heap.size=bD at *
  refine lstH (l':=#[true,true,false,false,true,true,false,false,true,true,true,false,true,true,true,false,false,false,false,false,false,false,false,false]) (by kernel_rfl) ?_
  have F:=And.intro GU (And.intro P3 P4)
  clear GU P3 P4
  revert F
  revert bD
  revert bC
  revert z
  exact t10_14_.out
  )
  )
  focus (
  intro y bB F
  obtain ⟨GU,P2⟩:=F
  have hHeld:=HC.out _ GU
  clear hHeld
  refine wpAnyH_ready (rs:=[2,10,14]) (by kernel_rfl) (by simp) ?_
  refine AllReadyH.cons rfl (fun K hK=>?_) (AllReadyH.cons rfl (fun K hK=>?_) (AllReadyH.cons rfl (fun K hK=>?_) AllReadyH.nil))
  focus (
  go_simp
  refine hK.out _ _ (HC.out _ (GU.alloc _)) (fun hHeld=>?_)
  clear hK K
  try simp only [pU0]
  obtain ⟨z,hz⟩:=ex0 (y.alloc (.cells #[.slice pO.a pO.n pO.c] 24))
  have gg:=bz0 hz
  have P1:=pz0 hz
  replace GU:=Good.up GU gg
  replace P2:=keepQ20 P2 gg
  rw [← hz]
  clear hz gg hHeld
  generalize y.heap.size=bA at *
  refine lstH (l':=#[true,true,true,false,true,true,true,false,true,true,false,false,true,true,false,false,false,false,false,false,false,false,false,false]) (by kernel_rfl) ?_
  have F:=And.intro GU (And.intro P1 P2)
  clear GU P1 P2
  revert F
  revert bB
  revert bA
  revert z
  exact t2_6_.out
  )
  focus (
  go_simp
  refine hK.out _ _ (HC.out _ (GU.alloc _)) (fun hHeld=>?_)
  clear hK K
  try simp only [pU0]
  obtain ⟨z,hz⟩:=ex0 (y.alloc (.cells #[.slice pN.a pN.n pN.c] 24))
  have gg:=bz0 hz
  have P3:=pz0 hz
  replace GU:=Good.up GU gg
  replace P2:=keepQ20 P2 gg
  rw [← hz]
  clear hz gg hHeld
  generalize y.heap.size=bC at *
  refine lstH (l':=#[true,true,false,false,true,true,true,false,true,true,true,false,true,true,false,false,false,false,false,false,false,false,false,false]) (by kernel_rfl) ?_
  have F:=And.intro GU (And.intro P2 P3)
  clear GU P2 P3
  revert F
  revert bC
  revert bB
  revert z
  exact t6_10_.out
  )
  focus (
  go_simp
  refine hK.out _ _ (HC.out _ (GU.alloc _)) (fun hHeld=>?_)
  clear hK K
  try simp only [pU0]
  obtain ⟨z,hz⟩:=ex0 (y.alloc (.cells #[.slice pS.a pS.n pS.c] 33))
  have gg:=bz0 hz
  have P4:=pz0 hz
  replace GU:=Good.up GU gg
  replace P2:=keepQ20 P2 gg
  rw [← hz]
  clear hz gg hHeld
  generalize y.heap.size=bD at *
  refine lstH (l':=#[true,true,false,false,true,true,true,false,true,true,false,false,true,true,true,false,false,false,false,false,false,false,false,false]) (by kernel_rfl) ?_
  have F:=And.intro GU (And.intro P2 P4)
  clear GU P2 P4
  revert F
  revert bD
  revert bB
  revert z
  exact t6_14_.out
  )
  )
  focus (
  intro y bA F
  obtain ⟨GU,P1⟩:=F
  have hHeld:=HC.out _ GU
  clear hHeld
  refine wpAnyH_ready (rs:=[3,6,10,14]) (by kernel_rfl) (by simp) ?_
  refine AllReadyH.cons rfl (fun K hK=>?_) (AllReadyH.cons rfl (fun K hK=>?_) (AllReadyH.cons rfl (fun K hK=>?_) (AllReadyH.cons rfl (fun K hK=>?_) AllReadyH.nil)))
  focus (
  rw [if_pos]
  rotate_left
  ·kernel_rfl
  have HCall:=hideIt (HCo.out _ bA GU P1)
  go_wp2_with (go_at_call 94;refine HCall.out.mono ?_;rintro e z ⟨p1,c1,rfl,ho,gg⟩;refine Hid.out ?_)
  refine hidp ?_
  refine hK.out _ _ (HC.out _ (Good.up GU gg)) (fun hHeld=>?_)
  clear hK K HCall
  try simp only [pU0]
  have lGU:=Nat.le_trans HLt.out GU.size
  have O1:=own_mono ho lGU
  clear ho lGU
  replace GU:=Good.up GU gg
  clear gg P1
  clear hHeld
  refine lstH (l':=#[true,true,true,true,true,true,false,false,true,true,false,false,true,true,false,false,false,false,false,false,false,false,false,false]) (by kernel_rfl) ?_
  have F:=And.intro GU O1
  clear GU O1
  revert F
  revert c1
  revert p1
  revert bA
  revert z
  exact t2_3_.out
  )
  focus (
  go_simp
  refine hK.out _ _ (HC.out _ (GU.alloc _)) (fun hHeld=>?_)
  clear hK K
  try simp only [pU0]
  obtain ⟨z,hz⟩:=ex0 (y.alloc (.cells #[.slice pC.a pC.n pC.c] 25))
  have gg:=bz0 hz
  have P2:=pz0 hz
  replace GU:=Good.up GU gg
  replace P1:=keepQ20 P1 gg
  rw [← hz]
  clear hz gg hHeld
  generalize y.heap.size=bB at *
  refine lstH (l':=#[true,true,true,false,true,true,true,false,true,true,false,false,true,true,false,false,false,false,false,false,false,false,false,false]) (by kernel_rfl) ?_
  have F:=And.intro GU (And.intro P1 P2)
  clear GU P1 P2
  revert F
  revert bB
  revert bA
  revert z
  exact t2_6_.out
  )
  focus (
  go_simp
  refine hK.out _ _ (HC.out _ (GU.alloc _)) (fun hHeld=>?_)
  clear hK K
  try simp only [pU0]
  obtain ⟨z,hz⟩:=ex0 (y.alloc (.cells #[.slice pN.a pN.n pN.c] 24))
  have gg:=bz0 hz
  have P3:=pz0 hz
  replace GU:=Good.up GU gg
  replace P1:=keepQ20 P1 gg
  rw [← hz]
  clear hz gg hHeld
  generalize y.heap.size=bC at *
  refine lstH (l':=#[true,true,true,false,true,true,false,false,true,true,true,false,true,true,false,false,false,false,false,false,false,false,false,false]) (by kernel_rfl) ?_
  have F:=And.intro GU (And.intro P1 P3)
  clear GU P1 P3
  revert F
  revert bC
  revert bA
  revert z
  exact t2_10_.out
  )
  focus (
  go_simp
  refine hK.out _ _ (HC.out _ (GU.alloc _)) (fun hHeld=>?_)
  clear hK K
  try simp only [pU0]
  obtain ⟨z,hz⟩:=ex0 (y.alloc (.cells #[.slice pS.a pS.n pS.c] 33))
  have gg:=bz0 hz
  have P4:=pz0 hz
  replace GU:=Good.up GU gg
  replace P1:=keepQ20 P1 gg
  rw [← hz]
  clear hz gg hHeld
  generalize y.heap.size=bD at *
  refine lstH (l':=#[true,true,true,false,true,true,false,false,true,true,false,false,true,true,true,false,false,false,false,false,false,false,false,false]) (by kernel_rfl) ?_
  have F:=And.intro GU (And.intro P1 P4)
  clear GU P1 P4
  revert F
  revert bD
  revert bA
  revert z
  exact t2_14_.out
  )
  )
  focus (
  intro y bC bD F
  obtain ⟨GU,P3,P4⟩:=F
  have hHeld:=HC.out _ GU
  clear hHeld
  refine wpAnyH_ready (rs:=[2,6]) (by kernel_rfl) (by simp) ?_
  refine AllReadyH.cons rfl (fun K hK=>?_) (AllReadyH.cons rfl (fun K hK=>?_) AllReadyH.nil)
  focus (
  go_simp
  refine hK.out _ _ (HC.out _ (GU.alloc _)) (fun hHeld=>?_)
  clear hK K
  try simp only [pU0]
  obtain ⟨z,hz⟩:=ex0 (y.alloc (.cells #[.slice pO.a pO.n pO.c] 24))
  have gg:=bz0 hz
  have P1:=pz0 hz
  replace GU:=Good.up GU gg
  replace P3:=keepQ20 P3 gg
  replace P4:=keepQ20 P4 gg
  rw [← hz]
  clear hz gg hHeld
  generalize y.heap.size=bA at *
  refine lstH (l':=#[true,true,true,false,true,true,false,false,true,true,true,false,true,true,true,false,false,false,false,false,false,false,false,false]) (by kernel_rfl) ?_
  have F:=And.intro GU (And.intro P1 (And.intro P3 P4))
  clear GU P1 P3 P4
  revert F
  revert bD
  revert bC
  revert bA
  revert z
  exact t2_10_14_.out
  )
  focus (
  go_simp
  refine hK.out _ _ (HC.out _ (GU.alloc _)) (fun hHeld=>?_)
  clear hK K
  try simp only [pU0]
  obtain ⟨z,hz⟩:=ex0 (y.alloc (.cells #[.slice pC.a pC.n pC.c] 25))
  have gg:=bz0 hz
  have P2:=pz0 hz
  replace GU:=Good.up GU gg
  replace P3:=keepQ20 P3 gg
  replace P4:=keepQ20 P4 gg
  rw [← hz]
  clear hz gg hHeld
  generalize y.heap.size=bB at *
  refine lstH (l':=#[true,true,false,false,true,true,true,false,true,true,true,false,true,true,true,false,false,false,false,false,false,false,false,false]) (by kernel_rfl) ?_
  have F:=And.intro GU (And.intro P2 (And.intro P3 P4))
  clear GU P2 P3 P4
  revert F
  revert bD
  revert bC
  revert bB
  revert z
  exact t6_10_14_.out
  )
  )
  focus (
  intro y bB bD F
  obtain ⟨GU,P2,P4⟩:=F
  have hHeld:=HC.out _ GU
  clear hHeld
  refine wpAnyH_ready (rs:=[2,10]) (by kernel_rfl) (by simp) ?_
  refine AllReadyH.cons rfl (fun K hK=>?_) (AllReadyH.cons rfl (fun K hK=>?_) AllReadyH.nil)
  focus (
  go_simp
  refine hK.out _ _ (HC.out _ (GU.alloc _)) (fun hHeld=>?_)
  clear hK K
  try simp only [pU0]
  obtain ⟨z,hz⟩:=ex0 (y.alloc (.cells #[.slice pO.a pO.n pO.c] 24))
  have gg:=bz0 hz
  have P1:=pz0 hz
  replace GU:=Good.up GU gg
  replace P2:=keepQ20 P2 gg
  replace P4:=keepQ20 P4 gg
  rw [← hz]
  clear hz gg hHeld
  generalize y.heap.size=bA at *
  refine lstH (l':=#[true,true,true,false,true,true,true,false,true,true,false,false,true,true,true,false,false,false,false,false,false,false,false,false]) (by kernel_rfl) ?_
  have F:=And.intro GU (And.intro P1 (And.intro P2 P4))
  clear GU P1 P2 P4
  revert F
  revert bD
  revert bB
  revert bA
  revert z
  exact t2_6_14_.out
  )
  focus (
  go_simp
  refine hK.out _ _ (HC.out _ (GU.alloc _)) (fun hHeld=>?_)
  clear hK K
  try simp only [pU0]
  obtain ⟨z,hz⟩:=ex0 (y.alloc (.cells #[.slice pN.a pN.n pN.c] 24))
  have gg:=bz0 hz
  have P3:=pz0 hz
  replace GU:=Good.up GU gg
  replace P2:=keepQ20 P2 gg
  replace P4:=keepQ20 P4 gg
  rw [← hz]
  clear hz gg hHeld
  generalize y.heap.size=bC at *
  refine lstH (l':=#[true,true,false,false,true,true,true,false,true,true,true,false,true,true,true,false,false,false,false,false,false,false,false,false]) (by kernel_rfl) ?_
  have F:=And.intro GU (And.intro P2 (And.intro P3 P4))
  clear GU P2 P3 P4
  revert F
  revert bD
  revert bC
  revert bB
  revert z
  exact t6_10_14_.out
  )
  )
  focus (
  intro y bB bC F
  obtain ⟨GU,P2,P3⟩:=F
  have hHeld:=HC.out _ GU
  clear hHeld
  refine wpAnyH_ready (rs:=[2,14]) (by kernel_rfl) (by simp) ?_
  refine AllReadyH.cons rfl (fun K hK=>?_) (AllReadyH.cons rfl (fun K hK=>?_) AllReadyH.nil)
  focus (
  go_simp
  refine hK.out _ _ (HC.out _ (GU.alloc _)) (fun hHeld=>?_)
  clear hK K
  try simp only [pU0]
  obtain ⟨z,hz⟩:=ex0 (y.alloc (.cells #[.slice pO.a pO.n pO.c] 24))
  have gg:=bz0 hz
  have P1:=pz0 hz
  replace GU:=Good.up GU gg
  replace P2:=keepQ20 P2 gg
  replace P3:=keepQ20 P3 gg
  rw [← hz]
  clear hz gg hHeld
  generalize y.heap.size=bA at *
  refine lstH (l':=#[true,true,true,false,true,true,true,false,true,true,true,false,true,true,false,false,false,false,false,false,false,false,false,false]) (by kernel_rfl) ?_
  have F:=And.intro GU (And.intro P1 (And.intro P2 P3))
  clear GU P1 P2 P3
  revert F
  revert bC
  revert bB
  revert bA
  revert z
  exact t2_6_10_.out
  )
  focus (
  go_simp
  refine hK.out _ _ (HC.out _ (GU.alloc _)) (fun hHeld=>?_)
  clear hK K
  try simp only [pU0]
  obtain ⟨z,hz⟩:=ex0 (y.alloc (.cells #[.slice pS.a pS.n pS.c] 33))
  have gg:=bz0 hz
  have P4:=pz0 hz
  replace GU:=Good.up GU gg
  replace P2:=keepQ20 P2 gg
  replace P3:=keepQ20 P3 gg
  rw [← hz]
  clear hz gg hHeld
  generalize y.heap.size=bD at *
  refine lstH (l':=#[true,true,false,false,true,true,true,false,true,true,true,false,true,true,true,false,false,false,false,false,false,false,false,false]) (by kernel_rfl) ?_
  have F:=And.intro GU (And.intro P2 (And.intro P3 P4))
  clear GU P2 P3 P4
  revert F
  revert bD
  revert bC
  revert bB
  revert z
  exact t6_10_14_.out
  )
  )
  focus (
  intro y bA bD F
  obtain ⟨GU,P1,P4⟩:=F
  have hHeld:=HC.out _ GU
  clear hHeld
  refine wpAnyH_ready (rs:=[3,6,10]) (by kernel_rfl) (by simp) ?_
  refine AllReadyH.cons rfl (fun K hK=>?_) (AllReadyH.cons rfl (fun K hK=>?_) (AllReadyH.cons rfl (fun K hK=>?_) AllReadyH.nil))
  focus (
  rw [if_pos]
  rotate_left
  ·kernel_rfl
  have HCall:=hideIt (HCo.out _ bA GU P1)
  go_wp2_with (go_at_call 94;refine HCall.out.mono ?_;rintro e z ⟨p1,c1,rfl,ho,gg⟩;refine Hid.out ?_)
  refine hidp ?_
  refine hK.out _ _ (HC.out _ (Good.up GU gg)) (fun hHeld=>?_)
  clear hK K HCall
  try simp only [pU0]
  have lGU:=Nat.le_trans HLt.out GU.size
  have O1:=own_mono ho lGU
  clear ho lGU
  replace GU:=Good.up GU gg
  replace P4:=keepQ20 P4 gg
  clear gg P1
  clear hHeld
  refine lstH (l':=#[true,true,true,true,true,true,false,false,true,true,false,false,true,true,true,false,false,false,false,false,false,false,false,false]) (by kernel_rfl) ?_
  have F:=And.intro GU (And.intro P4 O1)
  clear GU P4 O1
  revert F
  revert bD
  revert c1
  revert p1
  revert bA
  revert z
  exact t2_3_14_.out
  )
  focus (
  go_simp
  refine hK.out _ _ (HC.out _ (GU.alloc _)) (fun hHeld=>?_)
  clear hK K
  try simp only [pU0]
  obtain ⟨z,hz⟩:=ex0 (y.alloc (.cells #[.slice pC.a pC.n pC.c] 25))
  have gg:=bz0 hz
  have P2:=pz0 hz
  replace GU:=Good.up GU gg
  replace P1:=keepQ20 P1 gg
  replace P4:=keepQ20 P4 gg
  rw [← hz]
  clear hz gg hHeld
  generalize y.heap.size=bB at *
  refine lstH (l':=#[true,true,true,false,true,true,true,false,true,true,false,false,true,true,true,false,false,false,false,false,false,false,false,false]) (by kernel_rfl) ?_
  have F:=And.intro GU (And.intro P1 (And.intro P2 P4))
  clear GU P1 P2 P4
  revert F
  revert bD
  revert bB
  revert bA
  revert z
  exact t2_6_14_.out
  )
  focus (
  go_simp
  refine hK.out _ _ (HC.out _ (GU.alloc _)) (fun hHeld=>?_)
  clear hK K
  try simp only [pU0]
  obtain ⟨z,hz⟩:=ex0 (y.alloc (.cells #[.slice pN.a pN.n pN.c] 24))
  have gg:=bz0 hz
  have P3:=pz0 hz
  replace GU:=Good.up GU gg
  replace P1:=keepQ20 P1 gg
  replace P4:=keepQ20 P4 gg
  rw [← hz]
  clear hz gg hHeld
  generalize y.heap.size=bC at *
  refine lstH (l':=#[true,true,true,false,true,true,false,false,true,true,true,false,true,true,true,false,false,false,false,false,false,false,false,false]) (by kernel_rfl) ?_
  have F:=And.intro GU (And.intro P1 (And.intro P3 P4))
  clear GU P1 P3 P4
  revert F
  revert bD
  revert bC
  revert bA
  revert z
  exact t2_10_14_.out
  )
  )
  focus (
  intro y bA bC F
  obtain ⟨GU,P1,P3⟩:=F
  have hHeld:=HC.out _ GU
  clear hHeld
  refine wpAnyH_ready (rs:=[3,6,14]) (by kernel_rfl) (by simp) ?_
  refine AllReadyH.cons rfl (fun K hK=>?_) (AllReadyH.cons rfl (fun K hK=>?_) (AllReadyH.cons rfl (fun K hK=>?_) AllReadyH.nil))
  focus (
  rw [if_pos]
  rotate_left
  ·kernel_rfl
  have HCall:=hideIt (HCo.out _ bA GU P1)
  go_wp2_with (go_at_call 94;refine HCall.out.mono ?_;rintro e z ⟨p1,c1,rfl,ho,gg⟩;refine Hid.out ?_)
  refine hidp ?_
  refine hK.out _ _ (HC.out _ (Good.up GU gg)) (fun hHeld=>?_)
  clear hK K HCall
  try simp only [pU0]
  have lGU:=Nat.le_trans HLt.out GU.size
  have O1:=own_mono ho lGU
  clear ho lGU
  replace GU:=Good.up GU gg
  replace P3:=keepQ20 P3 gg
  clear gg P1
  clear hHeld
  refine lstH (l':=#[true,true,true,true,true,true,false,false,true,true,true,false,true,true,false,false,false,false,false,false,false,false,false,false]) (by kernel_rfl) ?_
  have F:=And.intro GU (And.intro P3 O1)
  clear GU P3 O1
  revert F
  revert bC
  revert c1
  revert p1
  revert bA
  revert z
  exact t2_3_10_.out
  )
  focus (
  go_simp
  refine hK.out _ _ (HC.out _ (GU.alloc _)) (fun hHeld=>?_)
  clear hK K
  try simp only [pU0]
  obtain ⟨z,hz⟩:=ex0 (y.alloc (.cells #[.slice pC.a pC.n pC.c] 25))
  have gg:=bz0 hz
  have P2:=pz0 hz
  replace GU:=Good.up GU gg
  replace P1:=keepQ20 P1 gg
  replace P3:=keepQ20 P3 gg
  rw [← hz]
  clear hz gg hHeld
  generalize y.heap.size=bB at *
  refine lstH (l':=#[true,true,true,false,true,true,true,false,true,true,true,false,true,true,false,false,false,false,false,false,false,false,false,false]) (by kernel_rfl) ?_
  have F:=And.intro GU (And.intro P1 (And.intro P2 P3))
  clear GU P1 P2 P3
  revert F
  revert bC
  revert bB
  revert bA
  revert z
  exact t2_6_10_.out
  )
  focus (
  go_simp
  refine hK.out _ _ (HC.out _ (GU.alloc _)) (fun hHeld=>?_)
  clear hK K
  try simp only [pU0]
  obtain ⟨z,hz⟩:=ex0 (y.alloc (.cells #[.slice pS.a pS.n pS.c] 33))
  have gg:=bz0 hz
  have P4:=pz0 hz
  replace GU:=Good.up GU gg
  replace P1:=keepQ20 P1 gg
  replace P3:=keepQ20 P3 gg
  rw [← hz]
  clear hz gg hHeld
  generalize y.heap.size=bD at *
  refine lstH (l':=#[true,true,true,false,true,true,false,false,true,true,true,false,true,true,true,false,false,false,false,false,false,false,false,false]) (by kernel_rfl) ?_
  have F:=And.intro GU (And.intro P1 (And.intro P3 P4))
  clear GU P1 P3 P4
  revert F
  revert bD
  revert bC
  revert bA
  revert z
  exact t2_10_14_.out
  )
  )
  focus (
  intro y bA bB F
  obtain ⟨GU,P1,P2⟩:=F
  have hHeld:=HC.out _ GU
  clear hHeld
  refine wpAnyH_ready (rs:=[3,10,14]) (by kernel_rfl) (by simp) ?_
  refine AllReadyH.cons rfl (fun K hK=>?_) (AllReadyH.cons rfl (fun K hK=>?_) (AllReadyH.cons rfl (fun K hK=>?_) AllReadyH.nil))
  focus (
  rw [if_pos]
  rotate_left
  ·kernel_rfl
  have HCall:=hideIt (HCo.out _ bA GU P1)
  go_wp2_with (go_at_call 94;refine HCall.out.mono ?_;rintro e z ⟨p1,c1,rfl,ho,gg⟩;refine Hid.out ?_)
  refine hidp ?_
  refine hK.out _ _ (HC.out _ (Good.up GU gg)) (fun hHeld=>?_)
  clear hK K HCall
  try simp only [pU0]
  have lGU:=Nat.le_trans HLt.out GU.size
  have O1:=own_mono ho lGU
  clear ho lGU
  replace GU:=Good.up GU gg
  replace P2:=keepQ20 P2 gg
  clear gg P1
  clear hHeld
  refine lstH (l':=#[true,true,true,true,true,true,true,false,true,true,false,false,true,true,false,false,false,false,false,false,false,false,false,false]) (by kernel_rfl) ?_
  have F:=And.intro GU (And.intro P2 O1)
  clear GU P2 O1
  revert F
  revert bB
  revert c1
  revert p1
  revert bA
  revert z
  exact t2_3_6_.out
  )
  focus (
  go_simp
  refine hK.out _ _ (HC.out _ (GU.alloc _)) (fun hHeld=>?_)
  clear hK K
  try simp only [pU0]
  obtain ⟨z,hz⟩:=ex0 (y.alloc (.cells #[.slice pN.a pN.n pN.c] 24))
  have gg:=bz0 hz
  have P3:=pz0 hz
  replace GU:=Good.up GU gg
  replace P1:=keepQ20 P1 gg
  replace P2:=keepQ20 P2 gg
  rw [← hz]
  clear hz gg hHeld
  generalize y.heap.size=bC at *
  refine lstH (l':=#[true,true,true,false,true,true,true,false,true,true,true,false,true,true,false,false,false,false,false,false,false,false,false,false]) (by kernel_rfl) ?_
  have F:=And.intro GU (And.intro P1 (And.intro P2 P3))
  clear GU P1 P2 P3
  revert F
  revert bC
  revert bB
  revert bA
  revert z
  exact t2_6_10_.out
  )
  focus (
  go_simp
  refine hK.out _ _ (HC.out _ (GU.alloc _)) (fun hHeld=>?_)
  clear hK K
  try simp only [pU0]
  obtain ⟨z,hz⟩:=ex0 (y.alloc (.cells #[.slice pS.a pS.n pS.c] 33))
  have gg:=bz0 hz
  have P4:=pz0 hz
  replace GU:=Good.up GU gg
  replace P1:=keepQ20 P1 gg
  replace P2:=keepQ20 P2 gg
  rw [← hz]
  clear hz gg hHeld
  generalize y.heap.size=bD at *
  refine lstH (l':=#[true,true,true,false,true,true,true,false,true,true,false,false,true,true,true,false,false,false,false,false,false,false,false,false]) (by kernel_rfl) ?_
  have F:=And.intro GU (And.intro P1 (And.intro P2 P4))
  clear GU P1 P2 P4
  revert F
  revert bD
  revert bB
  revert bA
  revert z
  exact t2_6_14_.out
  )
  )
  focus (
  intro y bA p1 c1 F
  obtain ⟨GU,O1⟩:=F
  have hHeld:=HC.out _ GU
  clear hHeld
  refine wpAnyH_ready (rs:=[6,10,14,16]) (by kernel_rfl) (by simp) ?_
  refine AllReadyH.cons rfl (fun K hK=>?_) (AllReadyH.cons rfl (fun K hK=>?_) (AllReadyH.cons rfl (fun K hK=>?_) (AllReadyH.cons rfl (fun K hK=>?_) AllReadyH.nil)))
  focus (
  go_simp
  refine hK.out _ _ (HC.out _ (GU.alloc _)) (fun hHeld=>?_)
  clear hK K
  try simp only [pU0]
  obtain ⟨z,hz⟩:=ex0 (y.alloc (.cells #[.slice pC.a pC.n pC.c] 25))
  have gg:=bz0 hz
  have P2:=pz0 hz
  replace GU:=Good.up GU gg
  replace O1:=own_up O1 gg
  rw [← hz]
  clear hz gg hHeld
  generalize y.heap.size=bB at *
  refine lstH (l':=#[true,true,true,true,true,true,true,false,true,true,false,false,true,true,false,false,false,false,false,false,false,false,false,false]) (by kernel_rfl) ?_
  have F:=And.intro GU (And.intro P2 O1)
  clear GU P2 O1
  revert F
  revert bB
  revert c1
  revert p1
  revert bA
  revert z
  exact t2_3_6_.out
  )
  focus (
  go_simp
  refine hK.out _ _ (HC.out _ (GU.alloc _)) (fun hHeld=>?_)
  clear hK K
  try simp only [pU0]
  obtain ⟨z,hz⟩:=ex0 (y.alloc (.cells #[.slice pN.a pN.n pN.c] 24))
  have gg:=bz0 hz
  have P3:=pz0 hz
  replace GU:=Good.up GU gg
  replace O1:=own_up O1 gg
  rw [← hz]
  clear hz gg hHeld
  generalize y.heap.size=bC at *
  refine lstH (l':=#[true,true,true,true,true,true,false,false,true,true,true,false,true,true,false,false,false,false,false,false,false,false,false,false]) (by kernel_rfl) ?_
  have F:=And.intro GU (And.intro P3 O1)
  clear GU P3 O1
  revert F
  revert bC
  revert c1
  revert p1
  revert bA
  revert z
  exact t2_3_10_.out
  )
  focus (
  go_simp
  refine hK.out _ _ (HC.out _ (GU.alloc _)) (fun hHeld=>?_)
  clear hK K
  try simp only [pU0]
  obtain ⟨z,hz⟩:=ex0 (y.alloc (.cells #[.slice pS.a pS.n pS.c] 33))
  have gg:=bz0 hz
  have P4:=pz0 hz
  replace GU:=Good.up GU gg
  replace O1:=own_up O1 gg
  rw [← hz]
  clear hz gg hHeld
  generalize y.heap.size=bD at *
  refine lstH (l':=#[true,true,true,true,true,true,false,false,true,true,false,false,true,true,true,false,false,false,false,false,false,false,false,false]) (by kernel_rfl) ?_
  have F:=And.intro GU (And.intro P4 O1)
  clear GU P4 O1
  revert F
  revert bD
  revert c1
  revert p1
  revert bA
  revert z
  exact t2_3_14_.out
  )
  focus (
  go_simp
  refine hK.out _ _ (HC.out _ GU) (fun hHeld=>?_)
  clear hK K
  try simp only [pU0]
  clear hHeld
  refine lstH (l':=#[true,true,true,true,true,true,false,false,true,true,false,false,true,true,false,false,true,false,false,false,false,false,false,false]) (by kernel_rfl) ?_
  have F:=And.intro GU O1
  clear GU O1
  revert F
  revert c1
  revert p1
  revert bA
  revert y
  exact t2_3_16_.out
  )
  )
  focus (
  intro y bB bC bD F
  obtain ⟨GU,P2,P3,P4⟩:=F
  have hHeld:=HC.out _ GU
  clear hHeld
  refine wr0 (i:=2) rfl (fun K hK=>?_)
  focus (
  go_simp
  refine hK.out _ _ (HC.out _ (GU.alloc _)) (fun hHeld=>?_)
  clear hK K
  try simp only [pU0]
  obtain ⟨z,hz⟩:=ex0 (y.alloc (.cells #[.slice pO.a pO.n pO.c] 24))
  have gg:=bz0 hz
  have P1:=pz0 hz
  replace GU:=Good.up GU gg
  replace P2:=keepQ20 P2 gg
  replace P3:=keepQ20 P3 gg
  replace P4:=keepQ20 P4 gg
  rw [← hz]
  clear hz gg hHeld
  generalize y.heap.size=bA at *
  refine lstH (l':=#[true,true,true,false,true,true,true,false,true,true,true,false,true,true,true,false,false,false,false,false,false,false,false,false]) (by kernel_rfl) ?_
  have F:=And.intro GU (And.intro P1 (And.intro P2 (And.intro P3 P4)))
  clear GU P1 P2 P3 P4
  revert F
  revert bD
  revert bC
  revert bB
  revert bA
  revert z
  exact t2_6_10_14_.out
  )
  )
  focus (
  intro y bA bC bD F
  obtain ⟨GU,P1,P3,P4⟩:=F
  have hHeld:=HC.out _ GU
  clear hHeld
  refine wpAnyH_ready (rs:=[3,6]) (by kernel_rfl) (by simp) ?_
  refine AllReadyH.cons rfl (fun K hK=>?_) (AllReadyH.cons rfl (fun K hK=>?_) AllReadyH.nil)
  focus (
  rw [if_pos]
  rotate_left
  ·kernel_rfl
  have HCall:=hideIt (HCo.out _ bA GU P1)
  go_wp2_with (go_at_call 94;refine HCall.out.mono ?_;rintro e z ⟨p1,c1,rfl,ho,gg⟩;refine Hid.out ?_)
  refine hidp ?_
  refine hK.out _ _ (HC.out _ (Good.up GU gg)) (fun hHeld=>?_)
  clear hK K HCall
  try simp only [pU0]
  have lGU:=Nat.le_trans HLt.out GU.size
  have O1:=own_mono ho lGU
  clear ho lGU
  replace GU:=Good.up GU gg
  replace P3:=keepQ20 P3 gg
  replace P4:=keepQ20 P4 gg
  clear gg P1
  clear hHeld
  refine lstH (l':=#[true,true,true,true,true,true,false,false,true,true,true,false,true,true,true,false,false,false,false,false,false,false,false,false]) (by kernel_rfl) ?_
  have F:=And.intro GU (And.intro P3 (And.intro P4 O1))
  clear GU P3 P4 O1
  revert F
  revert bD
  revert bC
  revert c1
  revert p1
  revert bA
  revert z
  exact t2_3_10_14_.out
  )
  focus (
  go_simp
  refine hK.out _ _ (HC.out _ (GU.alloc _)) (fun hHeld=>?_)
  clear hK K
  try simp only [pU0]
  obtain ⟨z,hz⟩:=ex0 (y.alloc (.cells #[.slice pC.a pC.n pC.c] 25))
  have gg:=bz0 hz
  have P2:=pz0 hz
  replace GU:=Good.up GU gg
  replace P1:=keepQ20 P1 gg
  replace P3:=keepQ20 P3 gg
  replace P4:=keepQ20 P4 gg
  rw [← hz]
  clear hz gg hHeld
  generalize y.heap.size=bB at *
  refine lstH (l':=#[true,true,true,false,true,true,true,false,true,true,true,false,true,true,true,false,false,false,false,false,false,false,false,false]) (by kernel_rfl) ?_
  have F:=And.intro GU (And.intro P1 (And.intro P2 (And.intro P3 P4)))
  clear GU P1 P2 P3 P4
  revert F
  revert bD
  revert bC
  revert bB
  revert bA
  revert z
  exact t2_6_10_14_.out
  )
  )
  focus (
  intro y bA bB bD F
  obtain ⟨GU,P1,P2,P4⟩:=F
  have hHeld:=HC.out _ GU
  clear hHeld
  refine wpAnyH_ready (rs:=[3,10]) (by kernel_rfl) (by simp) ?_
  refine AllReadyH.cons rfl (fun K hK=>?_) (AllReadyH.cons rfl (fun K hK=>?_) AllReadyH.nil)
  focus (
  rw [if_pos]
  rotate_left
  ·kernel_rfl
  have HCall:=hideIt (HCo.out _ bA GU P1)
  go_wp2_with (go_at_call 94;refine HCall.out.mono ?_;rintro e z ⟨p1,c1,rfl,ho,gg⟩;refine Hid.out ?_)
  refine hidp ?_
  refine hK.out _ _ (HC.out _ (Good.up GU gg)) (fun hHeld=>?_)
  clear hK K HCall
  try simp only [pU0]
  have lGU:=Nat.le_trans HLt.out GU.size
  have O1:=own_mono ho lGU
  clear ho lGU
  replace GU:=Good.up GU gg
  replace P2:=keepQ20 P2 gg
  replace P4:=keepQ20 P4 gg
  clear gg P1
  clear hHeld
  refine lstH (l':=#[true,true,true,true,true,true,true,false,true,true,false,false,true,true,true,false,false,false,false,false,false,false,false,false]) (by kernel_rfl) ?_
  have F:=And.intro GU (And.intro P2 (And.intro P4 O1))
  clear GU P2 P4 O1
  revert F
  revert bD
  revert bB
  revert c1
  revert p1
  revert bA
  revert z
  exact t2_3_6_14_.out
  )
  focus (
  go_simp
  refine hK.out _ _ (HC.out _ (GU.alloc _)) (fun hHeld=>?_)
  clear hK K
  try simp only [pU0]
  obtain ⟨z,hz⟩:=ex0 (y.alloc (.cells #[.slice pN.a pN.n pN.c] 24))
  have gg:=bz0 hz
  have P3:=pz0 hz
  replace GU:=Good.up GU gg
  replace P1:=keepQ20 P1 gg
  replace P2:=keepQ20 P2 gg
  replace P4:=keepQ20 P4 gg
  rw [← hz]
  clear hz gg hHeld
  generalize y.heap.size=bC at *
  refine lstH (l':=#[true,true,true,false,true,true,true,false,true,true,true,false,true,true,true,false,false,false,false,false,false,false,false,false]) (by kernel_rfl) ?_
  have F:=And.intro GU (And.intro P1 (And.intro P2 (And.intro P3 P4)))
  clear GU P1 P2 P3 P4
  revert F
  revert bD
  revert bC
  revert bB
  revert bA
  revert z
  exact t2_6_10_14_.out
  )
  )
  focus (
  intro y bA bB bC F
  obtain ⟨GU,P1,P2,P3⟩:=F
  have hHeld:=HC.out _ GU
  clear hHeld
  refine wpAnyH_ready (rs:=[3,14]) (by kernel_rfl) (by simp) ?_
  refine AllReadyH.cons rfl (fun K hK=>?_) (AllReadyH.cons rfl (fun K hK=>?_) AllReadyH.nil)
  focus (
  rw [if_pos]
  rotate_left
  ·kernel_rfl
  have HCall:=hideIt (HCo.out _ bA GU P1)
  go_wp2_with (go_at_call 94;refine HCall.out.mono ?_;rintro e z ⟨p1,c1,rfl,ho,gg⟩;refine Hid.out ?_)
  refine hidp ?_
  refine hK.out _ _ (HC.out _ (Good.up GU gg)) (fun hHeld=>?_)
  clear hK K HCall
  try simp only [pU0]
  have lGU:=Nat.le_trans HLt.out GU.size
  have O1:=own_mono ho lGU
  clear ho lGU
  replace GU:=Good.up GU gg
  replace P2:=keepQ20 P2 gg
  replace P3:=keepQ20 P3 gg
  clear gg P1
  clear hHeld
  refine lstH (l':=#[true,true,true,true,true,true,true,false,true,true,true,false,true,true,false,false,false,false,false,false,false,false,false,false]) (by kernel_rfl) ?_
  have F:=And.intro GU (And.intro P2 (And.intro P3 O1))
  clear GU P2 P3 O1
  revert F
  revert bC
  revert bB
  revert c1
  revert p1
  revert bA
  revert z
  exact t2_3_6_10_.out
  )
  focus (
  go_simp
  refine hK.out _ _ (HC.out _ (GU.alloc _)) (fun hHeld=>?_)
  clear hK K
  try simp only [pU0]
  obtain ⟨z,hz⟩:=ex0 (y.alloc (.cells #[.slice pS.a pS.n pS.c] 33))
  have gg:=bz0 hz
  have P4:=pz0 hz
  replace GU:=Good.up GU gg
  replace P1:=keepQ20 P1 gg
  replace P2:=keepQ20 P2 gg
  replace P3:=keepQ20 P3 gg
  rw [← hz]
  clear hz gg hHeld
  generalize y.heap.size=bD at *
  refine lstH (l':=#[true,true,true,false,true,true,true,false,true,true,true,false,true,true,true,false,false,false,false,false,false,false,false,false]) (by kernel_rfl) ?_
  have F:=And.intro GU (And.intro P1 (And.intro P2 (And.intro P3 P4)))
  clear GU P1 P2 P3 P4
  revert F
  revert bD
  revert bC
  revert bB
  revert bA
  revert z
  exact t2_6_10_14_.out
  )
  )
  focus (
  intro y bA p1 c1 bD F
  obtain ⟨GU,P4,O1⟩:=F
  have hHeld:=HC.out _ GU
  clear hHeld
  refine wpAnyH_ready (rs:=[6,10,16]) (by kernel_rfl) (by simp) ?_
  refine AllReadyH.cons rfl (fun K hK=>?_) (AllReadyH.cons rfl (fun K hK=>?_) (AllReadyH.cons rfl (fun K hK=>?_) AllReadyH.nil))
  focus (
  go_simp
  refine hK.out _ _ (HC.out _ (GU.alloc _)) (fun hHeld=>?_)
  clear hK K
  try simp only [pU0]
  obtain ⟨z,hz⟩:=ex0 (y.alloc (.cells #[.slice pC.a pC.n pC.c] 25))
  have gg:=bz0 hz
  have P2:=pz0 hz
  replace GU:=Good.up GU gg
  replace P4:=keepQ20 P4 gg
  replace O1:=own_up O1 gg
  rw [← hz]
  clear hz gg hHeld
  generalize y.heap.size=bB at *
  refine lstH (l':=#[true,true,true,true,true,true,true,false,true,true,false,false,true,true,true,false,false,false,false,false,false,false,false,false]) (by kernel_rfl) ?_
  have F:=And.intro GU (And.intro P2 (And.intro P4 O1))
  clear GU P2 P4 O1
  revert F
  revert bD
  revert bB
  revert c1
  revert p1
  revert bA
  revert z
  exact t2_3_6_14_.out
  )
  focus (
  go_simp
  refine hK.out _ _ (HC.out _ (GU.alloc _)) (fun hHeld=>?_)
  clear hK K
  try simp only [pU0]
  obtain ⟨z,hz⟩:=ex0 (y.alloc (.cells #[.slice pN.a pN.n pN.c] 24))
  have gg:=bz0 hz
  have P3:=pz0 hz
  replace GU:=Good.up GU gg
  replace P4:=keepQ20 P4 gg
  replace O1:=own_up O1 gg
  rw [← hz]
  clear hz gg hHeld
  generalize y.heap.size=bC at *
  refine lstH (l':=#[true,true,true,true,true,true,false,false,true,true,true,false,true,true,true,false,false,false,false,false,false,false,false,false]) (by kernel_rfl) ?_
  have F:=And.intro GU (And.intro P3 (And.intro P4 O1))
  clear GU P3 P4 O1
  revert F
  revert bD
  revert bC
  revert c1
  revert p1
  revert bA
  revert z
  exact t2_3_10_14_.out
  )
  focus (
  go_simp
  refine hK.out _ _ (HC.out _ GU) (fun hHeld=>?_)
  clear hK K
  try simp only [pU0]
  clear hHeld
  refine lstH (l':=#[true,true,true,true,true,true,false,false,true,true,false,false,true,true,true,false,true,false,false,false,false,false,false,false]) (by kernel_rfl) ?_
  have F:=And.intro GU (And.intro P4 O1)
  clear GU P4 O1
  revert F
  revert bD
  revert c1
  revert p1
  revert bA
  revert y
  exact t2_3_14_16_.out
  )
  )
  focus (
  intro y bA p1 c1 bC F
  obtain ⟨GU,P3,O1⟩:=F
  have hHeld:=HC.out _ GU
  clear hHeld
  refine wpAnyH_ready (rs:=[6,14,16]) (by kernel_rfl) (by simp) ?_
  refine AllReadyH.cons rfl (fun K hK=>?_) (AllReadyH.cons rfl (fun K hK=>?_) (AllReadyH.cons rfl (fun K hK=>?_) AllReadyH.nil))
  focus (
  go_simp
  refine hK.out _ _ (HC.out _ (GU.alloc _)) (fun hHeld=>?_)
  clear hK K
  try simp only [pU0]
  obtain ⟨z,hz⟩:=ex0 (y.alloc (.cells #[.slice pC.a pC.n pC.c] 25))
  have gg:=bz0 hz
  have P2:=pz0 hz
  replace GU:=Good.up GU gg
  replace P3:=keepQ20 P3 gg
  replace O1:=own_up O1 gg
  rw [← hz]
  clear hz gg hHeld
  generalize y.heap.size=bB at *
  refine lstH (l':=#[true,true,true,true,true,true,true,false,true,true,true,false,true,true,false,false,false,false,false,false,false,false,false,false]) (by kernel_rfl) ?_
  have F:=And.intro GU (And.intro P2 (And.intro P3 O1))
  clear GU P2 P3 O1
  revert F
  revert bC
  revert bB
  revert c1
  revert p1
  revert bA
  revert z
  exact t2_3_6_10_.out
  )
  focus (
  go_simp
  refine hK.out _ _ (HC.out _ (GU.alloc _)) (fun hHeld=>?_)
  clear hK K
  try simp only [pU0]
  obtain ⟨z,hz⟩:=ex0 (y.alloc (.cells #[.slice pS.a pS.n pS.c] 33))
  have gg:=bz0 hz
  have P4:=pz0 hz
  replace GU:=Good.up GU gg
  replace P3:=keepQ20 P3 gg
  replace O1:=own_up O1 gg
  rw [← hz]
  clear hz gg hHeld
  generalize y.heap.size=bD at *
  refine lstH (l':=#[true,true,true,true,true,true,false,false,true,true,true,false,true,true,true,false,false,false,false,false,false,false,false,false]) (by kernel_rfl) ?_
  have F:=And.intro GU (And.intro P3 (And.intro P4 O1))
  clear GU P3 P4 O1
  revert F
  revert bD
  revert bC
  revert c1
  revert p1
  revert bA
  revert z
  exact t2_3_10_14_.out
  )
  focus (
  go_simp
  refine hK.out _ _ (HC.out _ GU) (fun hHeld=>?_)
  clear hK K
  try simp only [pU0]
  clear hHeld
  refine lstH (l':=#[true,true,true,true,true,true,false,false,true,true,true,false,true,true,false,false,true,false,false,false,false,false,false,false]) (by kernel_rfl) ?_
  have F:=And.intro GU (And.intro P3 O1)
  clear GU P3 O1
  revert F
  revert bC
  revert c1
  revert p1
  revert bA
  revert y
  exact t2_3_10_16_.out
  )
  )
  focus (
  intro y bA p1 c1 bB F
  obtain ⟨GU,P2,O1⟩:=F
  have hHeld:=HC.out _ GU
  clear hHeld
  refine wpAnyH_ready (rs:=[7,10,14,16]) (by kernel_rfl) (by simp) ?_
  refine AllReadyH.cons rfl (fun K hK=>?_) (AllReadyH.cons rfl (fun K hK=>?_) (AllReadyH.cons rfl (fun K hK=>?_) (AllReadyH.cons rfl (fun K hK=>?_) AllReadyH.nil)))
  focus (
  rw [if_pos]
  rotate_left
  ·kernel_rfl
  have HCall:=hideIt (HCe.out _ bB GU P2)
  go_wp2_with (go_at_call 107;refine HCall.out.mono ?_;rintro e z ⟨p2,c2,rfl,ho,gg⟩;refine Hid.out ?_)
  refine hidp ?_
  refine hK.out _ _ (HC.out _ (Good.up GU gg)) (fun hHeld=>?_)
  clear hK K HCall
  try simp only [pU0]
  have lGU:=Nat.le_trans HLt.out GU.size
  have O2:=own_mono ho lGU
  clear ho lGU
  replace GU:=Good.up GU gg
  replace O1:=own_up O1 gg
  clear gg P2
  clear hHeld
  refine lstH (l':=#[true,true,true,true,true,true,true,true,true,true,false,false,true,true,false,false,false,false,false,false,false,false,false,false]) (by kernel_rfl) ?_
  have F:=And.intro GU (And.intro O1 O2)
  clear GU O1 O2
  revert F
  revert c2
  revert p2
  revert bB
  revert c1
  revert p1
  revert bA
  revert z
  exact t2_3_6_7_.out
  )
  focus (
  go_simp
  refine hK.out _ _ (HC.out _ (GU.alloc _)) (fun hHeld=>?_)
  clear hK K
  try simp only [pU0]
  obtain ⟨z,hz⟩:=ex0 (y.alloc (.cells #[.slice pN.a pN.n pN.c] 24))
  have gg:=bz0 hz
  have P3:=pz0 hz
  replace GU:=Good.up GU gg
  replace P2:=keepQ20 P2 gg
  replace O1:=own_up O1 gg
  rw [← hz]
  clear hz gg hHeld
  generalize y.heap.size=bC at *
  refine lstH (l':=#[true,true,true,true,true,true,true,false,true,true,true,false,true,true,false,false,false,false,false,false,false,false,false,false]) (by kernel_rfl) ?_
  have F:=And.intro GU (And.intro P2 (And.intro P3 O1))
  clear GU P2 P3 O1
  revert F
  revert bC
  revert bB
  revert c1
  revert p1
  revert bA
  revert z
  exact t2_3_6_10_.out
  )
  focus (
  go_simp
  refine hK.out _ _ (HC.out _ (GU.alloc _)) (fun hHeld=>?_)
  clear hK K
  try simp only [pU0]
  obtain ⟨z,hz⟩:=ex0 (y.alloc (.cells #[.slice pS.a pS.n pS.c] 33))
  have gg:=bz0 hz
  have P4:=pz0 hz
  replace GU:=Good.up GU gg
  replace P2:=keepQ20 P2 gg
  replace O1:=own_up O1 gg
  rw [← hz]
  clear hz gg hHeld
  generalize y.heap.size=bD at *
  refine lstH (l':=#[true,true,true,true,true,true,true,false,true,true,false,false,true,true,true,false,false,false,false,false,false,false,false,false]) (by kernel_rfl) ?_
  have F:=And.intro GU (And.intro P2 (And.intro P4 O1))
  clear GU P2 P4 O1
  revert F
  revert bD
  revert bB
  revert c1
  revert p1
  revert bA
  revert z
  exact t2_3_6_14_.out
  )
  focus (
  go_simp
  refine hK.out _ _ (HC.out _ GU) (fun hHeld=>?_)
  clear hK K
  try simp only [pU0]
  clear hHeld
  refine lstH (l':=#[true,true,true,true,true,true,true,false,true,true,false,false,true,true,false,false,true,false,false,false,false,false,false,false]) (by kernel_rfl) ?_
  have F:=And.intro GU (And.intro P2 O1)
  clear GU P2 O1
  revert F
  revert bB
  revert c1
  revert p1
  revert bA
  revert y
  exact t2_3_6_16_.out
  )
  )
  focus (
  intro y bA p1 c1 F
  obtain ⟨GU,O1⟩:=F
  have hHeld:=HC.out _ GU
  clear hHeld
  refine wpAnyH_ready (rs:=[6,10,14]) (by kernel_rfl) (by simp) ?_
  refine AllReadyH.cons rfl (fun K hK=>?_) (AllReadyH.cons rfl (fun K hK=>?_) (AllReadyH.cons rfl (fun K hK=>?_) AllReadyH.nil))
  focus (
  go_simp
  refine hK.out _ _ (HC.out _ (GU.alloc _)) (fun hHeld=>?_)
  clear hK K
  try simp only [pU0]
  obtain ⟨z,hz⟩:=ex0 (y.alloc (.cells #[.slice pC.a pC.n pC.c] 25))
  have gg:=bz0 hz
  have P2:=pz0 hz
  replace GU:=Good.up GU gg
  replace O1:=own_up O1 gg
  rw [← hz]
  clear hz gg hHeld
  generalize y.heap.size=bB at *
  refine lstH (l':=#[true,true,true,true,true,true,true,false,true,true,false,false,true,true,false,false,true,false,false,false,false,false,false,false]) (by kernel_rfl) ?_
  have F:=And.intro GU (And.intro P2 O1)
  clear GU P2 O1
  revert F
  revert bB
  revert c1
  revert p1
  revert bA
  revert z
  exact t2_3_6_16_.out
  )
  focus (
  go_simp
  refine hK.out _ _ (HC.out _ (GU.alloc _)) (fun hHeld=>?_)
  clear hK K
  try simp only [pU0]
  obtain ⟨z,hz⟩:=ex0 (y.alloc (.cells #[.slice pN.a pN.n pN.c] 24))
  have gg:=bz0 hz
  have P3:=pz0 hz
  replace GU:=Good.up GU gg
  replace O1:=own_up O1 gg
  rw [← hz]
  clear hz gg hHeld
  generalize y.heap.size=bC at *
  refine lstH (l':=#[true,true,true,true,true,true,false,false,true,true,true,false,true,true,false,false,true,false,false,false,false,false,false,false]) (by kernel_rfl) ?_
  have F:=And.intro GU (And.intro P3 O1)
  clear GU P3 O1
  revert F
  revert bC
  revert c1
  revert p1
  revert bA
  revert z
  exact t2_3_10_16_.out
  )
  focus (
  go_simp
  refine hK.out _ _ (HC.out _ (GU.alloc _)) (fun hHeld=>?_)
  clear hK K
  try simp only [pU0]
  obtain ⟨z,hz⟩:=ex0 (y.alloc (.cells #[.slice pS.a pS.n pS.c] 33))
  have gg:=bz0 hz
  have P4:=pz0 hz
  replace GU:=Good.up GU gg
  replace O1:=own_up O1 gg
  rw [← hz]
  clear hz gg hHeld
  generalize y.heap.size=bD at *
  refine lstH (l':=#[true,true,true,true,true,true,false,false,true,true,false,false,true,true,true,false,true,false,false,false,false,false,false,false]) (by kernel_rfl) ?_
  have F:=And.intro GU (And.intro P4 O1)
  clear GU P4 O1
  revert F
  revert bD
  revert c1
  revert p1
  revert bA
  revert z
  exact t2_3_14_16_.out
  )
  )
  focus (
  intro y bA bB bC bD F
  obtain ⟨GU,P1,P2,P3,P4⟩:=F
  have hHeld:=HC.out _ GU
  clear hHeld
  refine wr0 (i:=3) rfl (fun K hK=>?_)
  focus (
  rw [if_pos]
  rotate_left
  ·kernel_rfl
  have HCall:=hideIt (HCo.out _ bA GU P1)
  go_wp2_with (go_at_call 94;refine HCall.out.mono ?_;rintro e z ⟨p1,c1,rfl,ho,gg⟩;refine Hid.out ?_)
  refine hidp ?_
  refine hK.out _ _ (HC.out _ (Good.up GU gg)) (fun hHeld=>?_)
  clear hK K HCall
  try simp only [pU0]
  have lGU:=Nat.le_trans HLt.out GU.size
  have O1:=own_mono ho lGU
  clear ho lGU
  replace GU:=Good.up GU gg
  replace P2:=keepQ20 P2 gg
  replace P3:=keepQ20 P3 gg
  replace P4:=keepQ20 P4 gg
  clear gg P1
  clear hHeld
  refine lstH (l':=#[true,true,true,true,true,true,true,false,true,true,true,false,true,true,true,false,false,false,false,false,false,false,false,false]) (by kernel_rfl) ?_
  have F:=And.intro GU (And.intro P2 (And.intro P3 (And.intro P4 O1)))
  clear GU P2 P3 P4 O1
  revert F
  revert bD
  revert bC
  revert bB
  revert c1
  revert p1
  revert bA
  revert z
  exact t2_3_6_10_14_.out
  )
  )
  focus (
  intro y bA p1 c1 bC bD F
  obtain ⟨GU,P3,P4,O1⟩:=F
  have hHeld:=HC.out _ GU
  clear hHeld
  refine wpAnyH_ready (rs:=[6,16]) (by kernel_rfl) (by simp) ?_
  refine AllReadyH.cons rfl (fun K hK=>?_) (AllReadyH.cons rfl (fun K hK=>?_) AllReadyH.nil)
  focus (
  go_simp
  refine hK.out _ _ (HC.out _ (GU.alloc _)) (fun hHeld=>?_)
  clear hK K
  try simp only [pU0]
  obtain ⟨z,hz⟩:=ex0 (y.alloc (.cells #[.slice pC.a pC.n pC.c] 25))
  have gg:=bz0 hz
  have P2:=pz0 hz
  replace GU:=Good.up GU gg
  replace P3:=keepQ20 P3 gg
  replace P4:=keepQ20 P4 gg
  replace O1:=own_up O1 gg
  rw [← hz]
  clear hz gg hHeld
  generalize y.heap.size=bB at *
  refine lstH (l':=#[true,true,true,true,true,true,true,false,true,true,true,false,true,true,true,false,false,false,false,false,false,false,false,false]) (by kernel_rfl) ?_
  have F:=And.intro GU (And.intro P2 (And.intro P3 (And.intro P4 O1)))
  clear GU P2 P3 P4 O1
  revert F
  revert bD
  revert bC
  revert bB
  revert c1
  revert p1
  revert bA
  revert z
  exact t2_3_6_10_14_.out
  )
  focus (
  go_simp
  refine hK.out _ _ (HC.out _ GU) (fun hHeld=>?_)
  clear hK K
  try simp only [pU0]
  clear hHeld
  refine lstH (l':=#[true,true,true,true,true,true,false,false,true,true,true,false,true,true,true,false,true,false,false,false,false,false,false,false]) (by kernel_rfl) ?_
  have F:=And.intro GU (And.intro P3 (And.intro P4 O1))
  clear GU P3 P4 O1
  revert F
  revert bD
  revert bC
  revert c1
  revert p1
  revert bA
  revert y
  exact t2_3_10_14_16_.out
  )
  )
  focus (
  intro y bA p1 c1 bB bD F
  obtain ⟨GU,P2,P4,O1⟩:=F
  have hHeld:=HC.out _ GU
  clear hHeld
  refine wpAnyH_ready (rs:=[7,10,16]) (by kernel_rfl) (by simp) ?_
  refine AllReadyH.cons rfl (fun K hK=>?_) (AllReadyH.cons rfl (fun K hK=>?_) (AllReadyH.cons rfl (fun K hK=>?_) AllReadyH.nil))
  focus (
  rw [if_pos]
  rotate_left
  ·kernel_rfl
  have HCall:=hideIt (HCe.out _ bB GU P2)
  go_wp2_with (go_at_call 107;refine HCall.out.mono ?_;rintro e z ⟨p2,c2,rfl,ho,gg⟩;refine Hid.out ?_)
  refine hidp ?_
  refine hK.out _ _ (HC.out _ (Good.up GU gg)) (fun hHeld=>?_)
  clear hK K HCall
  try simp only [pU0]
  have lGU:=Nat.le_trans HLt.out GU.size
  have O2:=own_mono ho lGU
  clear ho lGU
  replace GU:=Good.up GU gg
  replace P4:=keepQ20 P4 gg
  replace O1:=own_up O1 gg
  clear gg P2
  clear hHeld
  refine lstH (l':=#[true,true,true,true,true,true,true,true,true,true,false,false,true,true,true,false,false,false,false,false,false,false,false,false]) (by kernel_rfl) ?_
  have F:=And.intro GU (And.intro P4 (And.intro O1 O2))
  clear GU P4 O1 O2
  revert F
  revert bD
  revert c2
  revert p2
  revert bB
  revert c1
  revert p1
  revert bA
  revert z
  exact t2_3_6_7_14_.out
  )
  focus (
  go_simp
  refine hK.out _ _ (HC.out _ (GU.alloc _)) (fun hHeld=>?_)
  clear hK K
  try simp only [pU0]
  obtain ⟨z,hz⟩:=ex0 (y.alloc (.cells #[.slice pN.a pN.n pN.c] 24))
  have gg:=bz0 hz
  have P3:=pz0 hz
  replace GU:=Good.up GU gg
  replace P2:=keepQ20 P2 gg
  replace P4:=keepQ20 P4 gg
  replace O1:=own_up O1 gg
  rw [← hz]
  clear hz gg hHeld
  generalize y.heap.size=bC at *
  refine lstH (l':=#[true,true,true,true,true,true,true,false,true,true,true,false,true,true,true,false,false,false,false,false,false,false,false,false]) (by kernel_rfl) ?_
  have F:=And.intro GU (And.intro P2 (And.intro P3 (And.intro P4 O1)))
  clear GU P2 P3 P4 O1
  revert F
  revert bD
  revert bC
  revert bB
  revert c1
  revert p1
  revert bA
  revert z
  exact t2_3_6_10_14_.out
  )
  focus (
  go_simp
  refine hK.out _ _ (HC.out _ GU) (fun hHeld=>?_)
  clear hK K
  try simp only [pU0]
  clear hHeld
  refine lstH (l':=#[true,true,true,true,true,true,true,false,true,true,false,false,true,true,true,false,true,false,false,false,false,false,false,false]) (by kernel_rfl) ?_
  have F:=And.intro GU (And.intro P2 (And.intro P4 O1))
  clear GU P2 P4 O1
  revert F
  revert bD
  revert bB
  revert c1
  revert p1
  revert bA
  revert y
  exact t2_3_6_14_16_.out
  )
  )
  focus (
  intro y bA p1 c1 bB bC F
  obtain ⟨GU,P2,P3,O1⟩:=F
  have hHeld:=HC.out _ GU
  clear hHeld
  refine wpAnyH_ready (rs:=[7,14,16]) (by kernel_rfl) (by simp) ?_
  refine AllReadyH.cons rfl (fun K hK=>?_) (AllReadyH.cons rfl (fun K hK=>?_) (AllReadyH.cons rfl (fun K hK=>?_) AllReadyH.nil))
  focus (
  rw [if_pos]
  rotate_left
  ·kernel_rfl
  have HCall:=hideIt (HCe.out _ bB GU P2)
  go_wp2_with (go_at_call 107;refine HCall.out.mono ?_;rintro e z ⟨p2,c2,rfl,ho,gg⟩;refine Hid.out ?_)
  refine hidp ?_
  refine hK.out _ _ (HC.out _ (Good.up GU gg)) (fun hHeld=>?_)
  clear hK K HCall
  try simp only [pU0]
  have lGU:=Nat.le_trans HLt.out GU.size
  have O2:=own_mono ho lGU
  clear ho lGU
  replace GU:=Good.up GU gg
  replace P3:=keepQ20 P3 gg
  replace O1:=own_up O1 gg
  clear gg P2
  clear hHeld
  refine lstH (l':=#[true,true,true,true,true,true,true,true,true,true,true,false,true,true,false,false,false,false,false,false,false,false,false,false]) (by kernel_rfl) ?_
  have F:=And.intro GU (And.intro P3 (And.intro O1 O2))
  clear GU P3 O1 O2
  revert F
  revert bC
  revert c2
  revert p2
  revert bB
  revert c1
  revert p1
  revert bA
  revert z
  exact t2_3_6_7_10_.out
  )
  focus (
  go_simp
  refine hK.out _ _ (HC.out _ (GU.alloc _)) (fun hHeld=>?_)
  clear hK K
  try simp only [pU0]
  obtain ⟨z,hz⟩:=ex0 (y.alloc (.cells #[.slice pS.a pS.n pS.c] 33))
  have gg:=bz0 hz
  have P4:=pz0 hz
  replace GU:=Good.up GU gg
  replace P2:=keepQ20 P2 gg
  replace P3:=keepQ20 P3 gg
  replace O1:=own_up O1 gg
  rw [← hz]
  clear hz gg hHeld
  generalize y.heap.size=bD at *
  refine lstH (l':=#[true,true,true,true,true,true,true,false,true,true,true,false,true,true,true,false,false,false,false,false,false,false,false,false]) (by kernel_rfl) ?_
  have F:=And.intro GU (And.intro P2 (And.intro P3 (And.intro P4 O1)))
  clear GU P2 P3 P4 O1
  revert F
  revert bD
  revert bC
  revert bB
  revert c1
  revert p1
  revert bA
  revert z
  exact t2_3_6_10_14_.out
  )
  focus (
  go_simp
  refine hK.out _ _ (HC.out _ GU) (fun hHeld=>?_)
  clear hK K
  try simp only [pU0]
  clear hHeld
  refine lstH (l':=#[true,true,true,true,true,true,true,false,true,true,true,false,true,true,false,false,true,false,false,false,false,false,false,false]) (by kernel_rfl) ?_
  have F:=And.intro GU (And.intro P2 (And.intro P3 O1))
  clear GU P2 P3 O1
  revert F
  revert bC
  revert bB
  revert c1
  revert p1
  revert bA
  revert y
  exact t2_3_6_10_16_.out
  )
  )
  focus (
  intro y bA p1 c1 bB p2 c2 F
  obtain ⟨GU,O1,O2⟩:=F
  have hHeld:=HC.out _ GU
  clear hHeld
  refine wpAnyH_ready (rs:=[10,14,16]) (by kernel_rfl) (by simp) ?_
  refine AllReadyH.cons rfl (fun K hK=>?_) (AllReadyH.cons rfl (fun K hK=>?_) (AllReadyH.cons rfl (fun K hK=>?_) AllReadyH.nil))
  focus (
  go_simp
  refine hK.out _ _ (HC.out _ (GU.alloc _)) (fun hHeld=>?_)
  clear hK K
  try simp only [pU0]
  obtain ⟨z,hz⟩:=ex0 (y.alloc (.cells #[.slice pN.a pN.n pN.c] 24))
  have gg:=bz0 hz
  have P3:=pz0 hz
  replace GU:=Good.up GU gg
  replace O1:=own_up O1 gg
  replace O2:=own_up O2 gg
  rw [← hz]
  clear hz gg hHeld
  generalize y.heap.size=bC at *
  refine lstH (l':=#[true,true,true,true,true,true,true,true,true,true,true,false,true,true,false,false,false,false,false,false,false,false,false,false]) (by kernel_rfl) ?_
  have F:=And.intro GU (And.intro P3 (And.intro O1 O2))
  clear GU P3 O1 O2
  revert F
  revert bC
  revert c2
  revert p2
  revert bB
  revert c1
  revert p1
  revert bA
  revert z
  exact t2_3_6_7_10_.out
  )
  focus (
  go_simp
  refine hK.out _ _ (HC.out _ (GU.alloc _)) (fun hHeld=>?_)
  clear hK K
  try simp only [pU0]
  obtain ⟨z,hz⟩:=ex0 (y.alloc (.cells #[.slice pS.a pS.n pS.c] 33))
  have gg:=bz0 hz
  have P4:=pz0 hz
  replace GU:=Good.up GU gg
  replace O1:=own_up O1 gg
  replace O2:=own_up O2 gg
  rw [← hz]
  clear hz gg hHeld
  generalize y.heap.size=bD at *
  refine lstH (l':=#[true,true,true,true,true,true,true,true,true,true,false,false,true,true,true,false,false,false,false,false,false,false,false,false]) (by kernel_rfl) ?_
  have F:=And.intro GU (And.intro P4 (And.intro O1 O2))
  clear GU P4 O1 O2
  revert F
  revert bD
  revert c2
  revert p2
  revert bB
  revert c1
  revert p1
  revert bA
  revert z
  exact t2_3_6_7_14_.out
  )
  focus (
  go_simp
  refine hK.out _ _ (HC.out _ GU) (fun hHeld=>?_)
  clear hK K
  try simp only [pU0]
  clear hHeld
  refine lstH (l':=#[true,true,true,true,true,true,true,true,true,true,false,false,true,true,false,false,true,false,false,false,false,false,false,false]) (by kernel_rfl) ?_
  have F:=And.intro GU (And.intro O1 O2)
  clear GU O1 O2
  revert F
  revert c2
  revert p2
  revert bB
  revert c1
  revert p1
  revert bA
  revert y
  exact t2_3_6_7_16_.out
  )
  )
  focus (
  intro y bA p1 c1 bD F
  obtain ⟨GU,P4,O1⟩:=F
  have hHeld:=HC.out _ GU
  clear hHeld
  refine wpAnyH_ready (rs:=[6,10]) (by kernel_rfl) (by simp) ?_
  refine AllReadyH.cons rfl (fun K hK=>?_) (AllReadyH.cons rfl (fun K hK=>?_) AllReadyH.nil)
  focus (
  go_simp
  refine hK.out _ _ (HC.out _ (GU.alloc _)) (fun hHeld=>?_)
  clear hK K
  try simp only [pU0]
  obtain ⟨z,hz⟩:=ex0 (y.alloc (.cells #[.slice pC.a pC.n pC.c] 25))
  have gg:=bz0 hz
  have P2:=pz0 hz
  replace GU:=Good.up GU gg
  replace P4:=keepQ20 P4 gg
  replace O1:=own_up O1 gg
  rw [← hz]
  clear hz gg hHeld
  generalize y.heap.size=bB at *
  refine lstH (l':=#[true,true,true,true,true,true,true,false,true,true,false,false,true,true,true,false,true,false,false,false,false,false,false,false]) (by kernel_rfl) ?_
  have F:=And.intro GU (And.intro P2 (And.intro P4 O1))
  clear GU P2 P4 O1
  revert F
  revert bD
  revert bB
  revert c1
  revert p1
  revert bA
  revert z
  exact t2_3_6_14_16_.out
  )
  focus (
  go_simp
  refine hK.out _ _ (HC.out _ (GU.alloc _)) (fun hHeld=>?_)
  clear hK K
  try simp only [pU0]
  obtain ⟨z,hz⟩:=ex0 (y.alloc (.cells #[.slice pN.a pN.n pN.c] 24))
  have gg:=bz0 hz
  have P3:=pz0 hz
  replace GU:=Good.up GU gg
  replace P4:=keepQ20 P4 gg
  replace O1:=own_up O1 gg
  rw [← hz]
  clear hz gg hHeld
  generalize y.heap.size=bC at *
  refine lstH (l':=#[true,true,true,true,true,true,false,false,true,true,true,false,true,true,true,false,true,false,false,false,false,false,false,false]) (by kernel_rfl) ?_
  have F:=And.intro GU (And.intro P3 (And.intro P4 O1))
  clear GU P3 P4 O1
  revert F
  revert bD
  revert bC
  revert c1
  revert p1
  revert bA
  revert z
  exact t2_3_10_14_16_.out
  )
  )
  focus (
  intro y bA p1 c1 bC F
  obtain ⟨GU,P3,O1⟩:=F
  have hHeld:=HC.out _ GU
  clear hHeld
  refine wpAnyH_ready (rs:=[6,14]) (by kernel_rfl) (by simp) ?_
  refine AllReadyH.cons rfl (fun K hK=>?_) (AllReadyH.cons rfl (fun K hK=>?_) AllReadyH.nil)
  focus (
  go_simp
  refine hK.out _ _ (HC.out _ (GU.alloc _)) (fun hHeld=>?_)
  clear hK K
  try simp only [pU0]
  obtain ⟨z,hz⟩:=ex0 (y.alloc (.cells #[.slice pC.a pC.n pC.c] 25))
  have gg:=bz0 hz
  have P2:=pz0 hz
  replace GU:=Good.up GU gg
  replace P3:=keepQ20 P3 gg
  replace O1:=own_up O1 gg
  rw [← hz]
  clear hz gg hHeld
  generalize y.heap.size=bB at *
  refine lstH (l':=#[true,true,true,true,true,true,true,false,true,true,true,false,true,true,false,false,true,false,false,false,false,false,false,false]) (by kernel_rfl) ?_
  have F:=And.intro GU (And.intro P2 (And.intro P3 O1))
  clear GU P2 P3 O1
  revert F
  revert bC
  revert bB
  revert c1
  revert p1
  revert bA
  revert z
  exact t2_3_6_10_16_.out
  )
  focus (
  go_simp
  refine hK.out _ _ (HC.out _ (GU.alloc _)) (fun hHeld=>?_)
  clear hK K
  try simp only [pU0]
  obtain ⟨z,hz⟩:=ex0 (y.alloc (.cells #[.slice pS.a pS.n pS.c] 33))
  have gg:=bz0 hz
  have P4:=pz0 hz
  replace GU:=Good.up GU gg
  replace P3:=keepQ20 P3 gg
  replace O1:=own_up O1 gg
  rw [← hz]
  clear hz gg hHeld
  generalize y.heap.size=bD at *
  refine lstH (l':=#[true,true,true,true,true,true,false,false,true,true,true,false,true,true,true,false,true,false,false,false,false,false,false,false]) (by kernel_rfl) ?_
  have F:=And.intro GU (And.intro P3 (And.intro P4 O1))
  clear GU P3 P4 O1
  revert F
  revert bD
  revert bC
  revert c1
  revert p1
  revert bA
  revert z
  exact t2_3_10_14_16_.out
  )
  )
  focus (
  intro y bA p1 c1 bB F
  obtain ⟨GU,P2,O1⟩:=F
  have hHeld:=HC.out _ GU
  clear hHeld
  refine wpAnyH_ready (rs:=[7,10,14]) (by kernel_rfl) (by simp) ?_
  refine AllReadyH.cons rfl (fun K hK=>?_) (AllReadyH.cons rfl (fun K hK=>?_) (AllReadyH.cons rfl (fun K hK=>?_) AllReadyH.nil))
  focus (
  rw [if_pos]
  rotate_left
  ·kernel_rfl
  have HCall:=hideIt (HCe.out _ bB GU P2)
  go_wp2_with (go_at_call 107;refine HCall.out.mono ?_;rintro e z ⟨p2,c2,rfl,ho,gg⟩;refine Hid.out ?_)
  refine hidp ?_
  refine hK.out _ _ (HC.out _ (Good.up GU gg)) (fun hHeld=>?_)
  clear hK K HCall
  try simp only [pU0]
  have lGU:=Nat.le_trans HLt.out GU.size
  have O2:=own_mono ho lGU
  clear ho lGU
  replace GU:=Good.up GU gg
  replace O1:=own_up O1 gg
  clear gg P2
  clear hHeld
  refine lstH (l':=#[true,true,true,true,true,true,true,true,true,true,false,false,true,true,false,false,true,false,false,false,false,false,false,false]) (by kernel_rfl) ?_
  have F:=And.intro GU (And.intro O1 O2)
  clear GU O1 O2
  revert F
  revert c2
  revert p2
  revert bB
  revert c1
  revert p1
  revert bA
  revert z
  exact t2_3_6_7_16_.out
  )
  focus (
  go_simp
  refine hK.out _ _ (HC.out _ (GU.alloc _)) (fun hHeld=>?_)
  clear hK K
  try simp only [pU0]
  obtain ⟨z,hz⟩:=ex0 (y.alloc (.cells #[.slice pN.a pN.n pN.c] 24))
  have gg:=bz0 hz
  have P3:=pz0 hz
  replace GU:=Good.up GU gg
  replace P2:=keepQ20 P2 gg
  replace O1:=own_up O1 gg
  rw [← hz]
  clear hz gg hHeld
  generalize y.heap.size=bC at *
  refine lstH (l':=#[true,true,true,true,true,true,true,false,true,true,true,false,true,true,false,false,true,false,false,false,false,false,false,false]) (by kernel_rfl) ?_
  have F:=And.intro GU (And.intro P2 (And.intro P3 O1))
  clear GU P2 P3 O1
  revert F
  revert bC
  revert bB
  revert c1
  revert p1
  revert bA
  revert z
  exact t2_3_6_10_16_.out
  )
  focus (
  go_simp
  refine hK.out _ _ (HC.out _ (GU.alloc _)) (fun hHeld=>?_)
  clear hK K
  try simp only [pU0]
  obtain ⟨z,hz⟩:=ex0 (y.alloc (.cells #[.slice pS.a pS.n pS.c] 33))
  have gg:=bz0 hz
  have P4:=pz0 hz
  replace GU:=Good.up GU gg
  replace P2:=keepQ20 P2 gg
  replace O1:=own_up O1 gg
  rw [← hz]
  clear hz gg hHeld
  generalize y.heap.size=bD at *
  refine lstH (l':=#[true,true,true,true,true,true,true,false,true,true,false,false,true,true,true,false,true,false,false,false,false,false,false,false]) (by kernel_rfl) ?_
  have F:=And.intro GU (And.intro P2 (And.intro P4 O1))
  clear GU P2 P4 O1
  revert F
  revert bD
  revert bB
  revert c1
  revert p1
  revert bA
  revert z
  exact t2_3_6_14_16_.out
  )
  )
  focus (
  intro y bA p1 c1 bB bC bD F
  obtain ⟨GU,P2,P3,P4,O1⟩:=F
  have hHeld:=HC.out _ GU
  clear hHeld
  refine wpAnyH_ready (rs:=[7,16]) (by kernel_rfl) (by simp) ?_
  refine AllReadyH.cons rfl (fun K hK=>?_) (AllReadyH.cons rfl (fun K hK=>?_) AllReadyH.nil)
  focus (
  rw [if_pos]
  rotate_left
  ·kernel_rfl
  have HCall:=hideIt (HCe.out _ bB GU P2)
  go_wp2_with (go_at_call 107;refine HCall.out.mono ?_;rintro e z ⟨p2,c2,rfl,ho,gg⟩;refine Hid.out ?_)
  refine hidp ?_
  refine hK.out _ _ (HC.out _ (Good.up GU gg)) (fun hHeld=>?_)
  clear hK K HCall
  try simp only [pU0]
  have lGU:=Nat.le_trans HLt.out GU.size
  have O2:=own_mono ho lGU
  clear ho lGU
  replace GU:=Good.up GU gg
  replace P3:=keepQ20 P3 gg
  replace P4:=keepQ20 P4 gg
  replace O1:=own_up O1 gg
  clear gg P2
  clear hHeld
  refine lstH (l':=#[true,true,true,true,true,true,true,true,true,true,true,false,true,true,true,false,false,false,false,false,false,false,false,false]) (by kernel_rfl) ?_
  have F:=And.intro GU (And.intro P3 (And.intro P4 (And.intro O1 O2)))
  clear GU P3 P4 O1 O2
  revert F
  revert bD
  revert bC
  revert c2
  revert p2
  revert bB
  revert c1
  revert p1
  revert bA
  revert z
  exact t2_3_6_7_10_14_.out
  )
  focus (
  go_simp
  refine hK.out _ _ (HC.out _ GU) (fun hHeld=>?_)
  clear hK K
  try simp only [pU0]
  clear hHeld
  refine lstH (l':=#[true,true,true,true,true,true,true,false,true,true,true,false,true,true,true,false,true,false,false,false,false,false,false,false]) (by kernel_rfl) ?_
  have F:=And.intro GU (And.intro P2 (And.intro P3 (And.intro P4 O1)))
  clear GU P2 P3 P4 O1
  revert F
  revert bD
  revert bC
  revert bB
  revert c1
  revert p1
  revert bA
  revert y
  exact t2_3_6_10_14_16_.out
  )
  )
  focus (
  intro y bA p1 c1 bB p2 c2 bD F
  obtain ⟨GU,P4,O1,O2⟩:=F
  have hHeld:=HC.out _ GU
  clear hHeld
  refine wpAnyH_ready (rs:=[10,16]) (by kernel_rfl) (by simp) ?_
  refine AllReadyH.cons rfl (fun K hK=>?_) (AllReadyH.cons rfl (fun K hK=>?_) AllReadyH.nil)
  focus (
  go_simp
  refine hK.out _ _ (HC.out _ (GU.alloc _)) (fun hHeld=>?_)
  clear hK K
  try simp only [pU0]
  obtain ⟨z,hz⟩:=ex0 (y.alloc (.cells #[.slice pN.a pN.n pN.c] 24))
  have gg:=bz0 hz
  have P3:=pz0 hz
  replace GU:=Good.up GU gg
  replace P4:=keepQ20 P4 gg
  replace O1:=own_up O1 gg
  replace O2:=own_up O2 gg
  rw [← hz]
  clear hz gg hHeld
  generalize y.heap.size=bC at *
  refine lstH (l':=#[true,true,true,true,true,true,true,true,true,true,true,false,true,true,true,false,false,false,false,false,false,false,false,false]) (by kernel_rfl) ?_
  have F:=And.intro GU (And.intro P3 (And.intro P4 (And.intro O1 O2)))
  clear GU P3 P4 O1 O2
  revert F
  revert bD
  revert bC
  revert c2
  revert p2
  revert bB
  revert c1
  revert p1
  revert bA
  revert z
  exact t2_3_6_7_10_14_.out
  )
  focus (
  go_simp
  refine hK.out _ _ (HC.out _ GU) (fun hHeld=>?_)
  clear hK K
  try simp only [pU0]
  clear hHeld
  refine lstH (l':=#[true,true,true,true,true,true,true,true,true,true,false,false,true,true,true,false,true,false,false,false,false,false,false,false]) (by kernel_rfl) ?_
  have F:=And.intro GU (And.intro P4 (And.intro O1 O2))
  clear GU P4 O1 O2
  revert F
  revert bD
  revert c2
  revert p2
  revert bB
  revert c1
  revert p1
  revert bA
  revert y
  exact t2_3_6_7_14_16_.out
  )
  )
  focus (
  intro y bA p1 c1 bB p2 c2 bC F
  obtain ⟨GU,P3,O1,O2⟩:=F
  have hHeld:=HC.out _ GU
  clear hHeld
  refine wpAnyH_ready (rs:=[11,14,16]) (by kernel_rfl) (by simp) ?_
  refine AllReadyH.cons rfl (fun K hK=>?_) (AllReadyH.cons rfl (fun K hK=>?_) (AllReadyH.cons rfl (fun K hK=>?_) AllReadyH.nil))
  focus (
  rw [if_pos]
  rotate_left
  ·kernel_rfl
  have HCall:=hideIt (HCn.out _ bC GU P3)
  go_wp2_with (go_at_call 94;refine HCall.out.mono ?_;rintro e z ⟨p3,c3,rfl,ho,gg⟩;refine Hid.out ?_)
  refine hidp ?_
  refine hK.out _ _ (HC.out _ (Good.up GU gg)) (fun hHeld=>?_)
  clear hK K HCall
  try simp only [pU0]
  have lGU:=Nat.le_trans HLt.out GU.size
  have S13:p1<p3:=Nat.lt_of_lt_of_le (O1.lt _ rfl).2 (ho.lt _ rfl).1
  have O3:=own_mono ho lGU
  clear ho lGU
  replace GU:=Good.up GU gg
  replace O1:=own_up O1 gg
  replace O2:=own_up O2 gg
  clear gg P3
  clear hHeld
  refine lstH (l':=#[true,true,true,true,true,true,true,true,true,true,true,true,true,true,false,false,false,false,false,false,false,false,false,false]) (by kernel_rfl) ?_
  have F:=And.intro GU (And.intro O1 (And.intro O2 (And.intro O3 S13)))
  clear GU O1 O2 O3 S13
  revert F
  revert c3
  revert p3
  revert bC
  revert c2
  revert p2
  revert bB
  revert c1
  revert p1
  revert bA
  revert z
  exact t2_3_6_7_10_11_.out
  )
  focus (
  go_simp
  refine hK.out _ _ (HC.out _ (GU.alloc _)) (fun hHeld=>?_)
  clear hK K
  try simp only [pU0]
  obtain ⟨z,hz⟩:=ex0 (y.alloc (.cells #[.slice pS.a pS.n pS.c] 33))
  have gg:=bz0 hz
  have P4:=pz0 hz
  replace GU:=Good.up GU gg
  replace P3:=keepQ20 P3 gg
  replace O1:=own_up O1 gg
  replace O2:=own_up O2 gg
  rw [← hz]
  clear hz gg hHeld
  generalize y.heap.size=bD at *
  refine lstH (l':=#[true,true,true,true,true,true,true,true,true,true,true,false,true,true,true,false,false,false,false,false,false,false,false,false]) (by kernel_rfl) ?_
  have F:=And.intro GU (And.intro P3 (And.intro P4 (And.intro O1 O2)))
  clear GU P3 P4 O1 O2
  revert F
  revert bD
  revert bC
  revert c2
  revert p2
  revert bB
  revert c1
  revert p1
  revert bA
  revert z
  exact t2_3_6_7_10_14_.out
  )
  focus (
  go_simp
  refine hK.out _ _ (HC.out _ GU) (fun hHeld=>?_)
  clear hK K
  try simp only [pU0]
  clear hHeld
  refine lstH (l':=#[true,true,true,true,true,true,true,true,true,true,true,false,true,true,false,false,true,false,false,false,false,false,false,false]) (by kernel_rfl) ?_
  have F:=And.intro GU (And.intro P3 (And.intro O1 O2))
  clear GU P3 O1 O2
  revert F
  revert bC
  revert c2
  revert p2
  revert bB
  revert c1
  revert p1
  revert bA
  revert y
  exact t2_3_6_7_10_16_.out
  )
  )
  focus (
  intro y bA p1 c1 bC bD F
  obtain ⟨GU,P3,P4,O1⟩:=F
  have hHeld:=HC.out _ GU
  clear hHeld
  refine wr0 (i:=6) rfl (fun K hK=>?_)
  focus (
  go_simp
  refine hK.out _ _ (HC.out _ (GU.alloc _)) (fun hHeld=>?_)
  clear hK K
  try simp only [pU0]
  obtain ⟨z,hz⟩:=ex0 (y.alloc (.cells #[.slice pC.a pC.n pC.c] 25))
  have gg:=bz0 hz
  have P2:=pz0 hz
  replace GU:=Good.up GU gg
  replace P3:=keepQ20 P3 gg
  replace P4:=keepQ20 P4 gg
  replace O1:=own_up O1 gg
  rw [← hz]
  clear hz gg hHeld
  generalize y.heap.size=bB at *
  refine lstH (l':=#[true,true,true,true,true,true,true,false,true,true,true,false,true,true,true,false,true,false,false,false,false,false,false,false]) (by kernel_rfl) ?_
  have F:=And.intro GU (And.intro P2 (And.intro P3 (And.intro P4 O1)))
  clear GU P2 P3 P4 O1
  revert F
  revert bD
  revert bC
  revert bB
  revert c1
  revert p1
  revert bA
  revert z
  exact t2_3_6_10_14_16_.out
  )
  )
  focus (
  intro y bA p1 c1 bB bD F
  obtain ⟨GU,P2,P4,O1⟩:=F
  have hHeld:=HC.out _ GU
  clear hHeld
  refine wpAnyH_ready (rs:=[7,10]) (by kernel_rfl) (by simp) ?_
  refine AllReadyH.cons rfl (fun K hK=>?_) (AllReadyH.cons rfl (fun K hK=>?_) AllReadyH.nil)
  focus (
  rw [if_pos]
  rotate_left
  ·kernel_rfl
  have HCall:=hideIt (HCe.out _ bB GU P2)
  go_wp2_with (go_at_call 107;refine HCall.out.mono ?_;rintro e z ⟨p2,c2,rfl,ho,gg⟩;refine Hid.out ?_)
  refine hidp ?_
  refine hK.out _ _ (HC.out _ (Good.up GU gg)) (fun hHeld=>?_)
  clear hK K HCall
  try simp only [pU0]
  have lGU:=Nat.le_trans HLt.out GU.size
  have O2:=own_mono ho lGU
  clear ho lGU
  replace GU:=Good.up GU gg
  replace P4:=keepQ20 P4 gg
  replace O1:=own_up O1 gg
  clear gg P2
  clear hHeld
  refine lstH (l':=#[true,true,true,true,true,true,true,true,true,true,false,false,true,true,true,false,true,false,false,false,false,false,false,false]) (by kernel_rfl) ?_
  have F:=And.intro GU (And.intro P4 (And.intro O1 O2))
  clear GU P4 O1 O2
  revert F
  revert bD
  revert c2
  revert p2
  revert bB
  revert c1
  revert p1
  revert bA
  revert z
  exact t2_3_6_7_14_16_.out
  )
  focus (
  go_simp
  refine hK.out _ _ (HC.out _ (GU.alloc _)) (fun hHeld=>?_)
  clear hK K
  try simp only [pU0]
  obtain ⟨z,hz⟩:=ex0 (y.alloc (.cells #[.slice pN.a pN.n pN.c] 24))
  have gg:=bz0 hz
  have P3:=pz0 hz
  replace GU:=Good.up GU gg
  replace P2:=keepQ20 P2 gg
  replace P4:=keepQ20 P4 gg
  replace O1:=own_up O1 gg
  rw [← hz]
  clear hz gg hHeld
  generalize y.heap.size=bC at *
  refine lstH (l':=#[true,true,true,true,true,true,true,false,true,true,true,false,true,true,true,false,true,false,false,false,false,false,false,false]) (by kernel_rfl) ?_
  have F:=And.intro GU (And.intro P2 (And.intro P3 (And.intro P4 O1)))
  clear GU P2 P3 P4 O1
  revert F
  revert bD
  revert bC
  revert bB
  revert c1
  revert p1
  revert bA
  revert z
  exact t2_3_6_10_14_16_.out
  )
  )
  focus (
  intro y bA p1 c1 bB bC F
  obtain ⟨GU,P2,P3,O1⟩:=F
  have hHeld:=HC.out _ GU
  clear hHeld
  refine wpAnyH_ready (rs:=[7,14]) (by kernel_rfl) (by simp) ?_
  refine AllReadyH.cons rfl (fun K hK=>?_) (AllReadyH.cons rfl (fun K hK=>?_) AllReadyH.nil)
  focus (
  rw [if_pos]
  rotate_left
  ·kernel_rfl
  have HCall:=hideIt (HCe.out _ bB GU P2)
  go_wp2_with (go_at_call 107;refine HCall.out.mono ?_;rintro e z ⟨p2,c2,rfl,ho,gg⟩;refine Hid.out ?_)
  refine hidp ?_
  refine hK.out _ _ (HC.out _ (Good.up GU gg)) (fun hHeld=>?_)
  clear hK K HCall
  try simp only [pU0]
  have lGU:=Nat.le_trans HLt.out GU.size
  have O2:=own_mono ho lGU
  clear ho lGU
  replace GU:=Good.up GU gg
  replace P3:=keepQ20 P3 gg
  replace O1:=own_up O1 gg
  clear gg P2
  clear hHeld
  refine lstH (l':=#[true,true,true,true,true,true,true,true,true,true,true,false,true,true,false,false,true,false,false,false,false,false,false,false]) (by kernel_rfl) ?_
  have F:=And.intro GU (And.intro P3 (And.intro O1 O2))
  clear GU P3 O1 O2
  revert F
  revert bC
  revert c2
  revert p2
  revert bB
  revert c1
  revert p1
  revert bA
  revert z
  exact t2_3_6_7_10_16_.out
  )
  focus (
  go_simp
  refine hK.out _ _ (HC.out _ (GU.alloc _)) (fun hHeld=>?_)
  clear hK K
  try simp only [pU0]
  obtain ⟨z,hz⟩:=ex0 (y.alloc (.cells #[.slice pS.a pS.n pS.c] 33))
  have gg:=bz0 hz
  have P4:=pz0 hz
  replace GU:=Good.up GU gg
  replace P2:=keepQ20 P2 gg
  replace P3:=keepQ20 P3 gg
  replace O1:=own_up O1 gg
  rw [← hz]
  clear hz gg hHeld
  generalize y.heap.size=bD at *
  refine lstH (l':=#[true,true,true,true,true,true,true,false,true,true,true,false,true,true,true,false,true,false,false,false,false,false,false,false]) (by kernel_rfl) ?_
  have F:=And.intro GU (And.intro P2 (And.intro P3 (And.intro P4 O1)))
  clear GU P2 P3 P4 O1
  revert F
  revert bD
  revert bC
  revert bB
  revert c1
  revert p1
  revert bA
  revert z
  exact t2_3_6_10_14_16_.out
  )
  )
  focus (
  intro y bA p1 c1 bB p2 c2 F
  obtain ⟨GU,O1,O2⟩:=F
  have hHeld:=HC.out _ GU
  clear hHeld
  refine wpAnyH_ready (rs:=[10,14]) (by kernel_rfl) (by simp) ?_
  refine AllReadyH.cons rfl (fun K hK=>?_) (AllReadyH.cons rfl (fun K hK=>?_) AllReadyH.nil)
  focus (
  go_simp
  refine hK.out _ _ (HC.out _ (GU.alloc _)) (fun hHeld=>?_)
  clear hK K
  try simp only [pU0]
  obtain ⟨z,hz⟩:=ex0 (y.alloc (.cells #[.slice pN.a pN.n pN.c] 24))
  have gg:=bz0 hz
  have P3:=pz0 hz
  replace GU:=Good.up GU gg
  replace O1:=own_up O1 gg
  replace O2:=own_up O2 gg
  rw [← hz]
  clear hz gg hHeld
  generalize y.heap.size=bC at *
  refine lstH (l':=#[true,true,true,true,true,true,true,true,true,true,true,false,true,true,false,false,true,false,false,false,false,false,false,false]) (by kernel_rfl) ?_
  have F:=And.intro GU (And.intro P3 (And.intro O1 O2))
  clear GU P3 O1 O2
  revert F
  revert bC
  revert c2
  revert p2
  revert bB
  revert c1
  revert p1
  revert bA
  revert z
  exact t2_3_6_7_10_16_.out
  )
  focus (
  go_simp
  refine hK.out _ _ (HC.out _ (GU.alloc _)) (fun hHeld=>?_)
  clear hK K
  try simp only [pU0]
  obtain ⟨z,hz⟩:=ex0 (y.alloc (.cells #[.slice pS.a pS.n pS.c] 33))
  have gg:=bz0 hz
  have P4:=pz0 hz
  replace GU:=Good.up GU gg
  replace O1:=own_up O1 gg
  replace O2:=own_up O2 gg
  rw [← hz]
  clear hz gg hHeld
  generalize y.heap.size=bD at *
  refine lstH (l':=#[true,true,true,true,true,true,true,true,true,true,false,false,true,true,true,false,true,false,false,false,false,false,false,false]) (by kernel_rfl) ?_
  have F:=And.intro GU (And.intro P4 (And.intro O1 O2))
  clear GU P4 O1 O2
  revert F
  revert bD
  revert c2
  revert p2
  revert bB
  revert c1
  revert p1
  revert bA
  revert z
  exact t2_3_6_7_14_16_.out
  )
  )
  focus (
  intro y bA p1 c1 bB p2 c2 bC bD F
  obtain ⟨GU,P3,P4,O1,O2⟩:=F
  have hHeld:=HC.out _ GU
  clear hHeld
  refine wpAnyH_ready (rs:=[11,16]) (by kernel_rfl) (by simp) ?_
  refine AllReadyH.cons rfl (fun K hK=>?_) (AllReadyH.cons rfl (fun K hK=>?_) AllReadyH.nil)
  focus (
  rw [if_pos]
  rotate_left
  ·kernel_rfl
  have HCall:=hideIt (HCn.out _ bC GU P3)
  go_wp2_with (go_at_call 94;refine HCall.out.mono ?_;rintro e z ⟨p3,c3,rfl,ho,gg⟩;refine Hid.out ?_)
  refine hidp ?_
  refine hK.out _ _ (HC.out _ (Good.up GU gg)) (fun hHeld=>?_)
  clear hK K HCall
  try simp only [pU0]
  have lGU:=Nat.le_trans HLt.out GU.size
  have S13:p1<p3:=Nat.lt_of_lt_of_le (O1.lt _ rfl).2 (ho.lt _ rfl).1
  have O3:=own_mono ho lGU
  clear ho lGU
  replace GU:=Good.up GU gg
  replace P4:=keepQ20 P4 gg
  replace O1:=own_up O1 gg
  replace O2:=own_up O2 gg
  clear gg P3
  clear hHeld
  refine lstH (l':=#[true,true,true,true,true,true,true,true,true,true,true,true,true,true,true,false,false,false,false,false,false,false,false,false]) (by kernel_rfl) ?_
  have F:=And.intro GU (And.intro P4 (And.intro O1 (And.intro O2 (And.intro O3 S13))))
  clear GU P4 O1 O2 O3 S13
  revert F
  revert bD
  revert c3
  revert p3
  revert bC
  revert c2
  revert p2
  revert bB
  revert c1
  revert p1
  revert bA
  revert z
  exact t2_3_6_7_10_11_14_.out
  )
  focus (
  go_simp
  refine hK.out _ _ (HC.out _ GU) (fun hHeld=>?_)
  clear hK K
  try simp only [pU0]
  clear hHeld
  refine lstH (l':=#[true,true,true,true,true,true,true,true,true,true,true,false,true,true,true,false,true,false,false,false,false,false,false,false]) (by kernel_rfl) ?_
  have F:=And.intro GU (And.intro P3 (And.intro P4 (And.intro O1 O2)))
  clear GU P3 P4 O1 O2
  revert F
  revert bD
  revert bC
  revert c2
  revert p2
  revert bB
  revert c1
  revert p1
  revert bA
  revert y
  exact t2_3_6_7_10_14_16_.out
  )
  )
  focus (
  intro y bA p1 c1 bB p2 c2 bC p3 c3 F
  obtain ⟨GU,O1,O2,O3,S13⟩:=F
  have hHeld:=HC.out _ GU
  clear hHeld
  refine wpAnyH_ready (rs:=[14,16]) (by kernel_rfl) (by simp) ?_
  refine AllReadyH.cons rfl (fun K hK=>?_) (AllReadyH.cons rfl (fun K hK=>?_) AllReadyH.nil)
  focus (
  go_simp
  refine hK.out _ _ (HC.out _ (GU.alloc _)) (fun hHeld=>?_)
  clear hK K
  try simp only [pU0]
  obtain ⟨z,hz⟩:=ex0 (y.alloc (.cells #[.slice pS.a pS.n pS.c] 33))
  have gg:=bz0 hz
  have P4:=pz0 hz
  replace GU:=Good.up GU gg
  replace O1:=own_up O1 gg
  replace O2:=own_up O2 gg
  replace O3:=own_up O3 gg
  rw [← hz]
  clear hz gg hHeld
  generalize y.heap.size=bD at *
  refine lstH (l':=#[true,true,true,true,true,true,true,true,true,true,true,true,true,true,true,false,false,false,false,false,false,false,false,false]) (by kernel_rfl) ?_
  have F:=And.intro GU (And.intro P4 (And.intro O1 (And.intro O2 (And.intro O3 S13))))
  clear GU P4 O1 O2 O3 S13
  revert F
  revert bD
  revert c3
  revert p3
  revert bC
  revert c2
  revert p2
  revert bB
  revert c1
  revert p1
  revert bA
  revert z
  exact t2_3_6_7_10_11_14_.out
  )
  focus (
  go_simp
  refine hK.out _ _ (HC.out _ GU) (fun hHeld=>?_)
  clear hK K
  try simp only [pU0]
  clear hHeld
  refine lstH (l':=#[true,true,true,true,true,true,true,true,true,true,true,true,true,true,false,false,true,false,false,false,false,false,false,false]) (by kernel_rfl) ?_
  have F:=And.intro GU (And.intro O1 (And.intro O2 (And.intro O3 S13)))
  clear GU O1 O2 O3 S13
  revert F
  revert c3
  revert p3
  revert bC
  revert c2
  revert p2
  revert bB
  revert c1
  revert p1
  revert bA
  revert y
  exact t2_3_6_7_10_11_16_.out
  )
  )
  focus (
  intro y bA p1 c1 bB bC bD F
  obtain ⟨GU,P2,P3,P4,O1⟩:=F
  have hHeld:=HC.out _ GU
  clear hHeld
  refine wr0 (i:=7) rfl (fun K hK=>?_)
  focus (
  rw [if_pos]
  rotate_left
  ·kernel_rfl
  have HCall:=hideIt (HCe.out _ bB GU P2)
  go_wp2_with (go_at_call 107;refine HCall.out.mono ?_;rintro e z ⟨p2,c2,rfl,ho,gg⟩;refine Hid.out ?_)
  refine hidp ?_
  refine hK.out _ _ (HC.out _ (Good.up GU gg)) (fun hHeld=>?_)
  clear hK K HCall
  try simp only [pU0]
  have lGU:=Nat.le_trans HLt.out GU.size
  have O2:=own_mono ho lGU
  clear ho lGU
  replace GU:=Good.up GU gg
  replace P3:=keepQ20 P3 gg
  replace P4:=keepQ20 P4 gg
  replace O1:=own_up O1 gg
  clear gg P2
  clear hHeld
  refine lstH (l':=#[true,true,true,true,true,true,true,true,true,true,true,false,true,true,true,false,true,false,false,false,false,false,false,false]) (by kernel_rfl) ?_
  have F:=And.intro GU (And.intro P3 (And.intro P4 (And.intro O1 O2)))
  clear GU P3 P4 O1 O2
  revert F
  revert bD
  revert bC
  revert c2
  revert p2
  revert bB
  revert c1
  revert p1
  revert bA
  revert z
  exact t2_3_6_7_10_14_16_.out
  )
  )
  focus (
  intro y bA p1 c1 bB p2 c2 bD F
  obtain ⟨GU,P4,O1,O2⟩:=F
  have hHeld:=HC.out _ GU
  clear hHeld
  refine wr0 (i:=10) rfl (fun K hK=>?_)
  focus (
  go_simp
  refine hK.out _ _ (HC.out _ (GU.alloc _)) (fun hHeld=>?_)
  clear hK K
  try simp only [pU0]
  obtain ⟨z,hz⟩:=ex0 (y.alloc (.cells #[.slice pN.a pN.n pN.c] 24))
  have gg:=bz0 hz
  have P3:=pz0 hz
  replace GU:=Good.up GU gg
  replace P4:=keepQ20 P4 gg
  replace O1:=own_up O1 gg
  replace O2:=own_up O2 gg
  rw [← hz]
  clear hz gg hHeld
  generalize y.heap.size=bC at *
  refine lstH (l':=#[true,true,true,true,true,true,true,true,true,true,true,false,true,true,true,false,true,false,false,false,false,false,false,false]) (by kernel_rfl) ?_
  have F:=And.intro GU (And.intro P3 (And.intro P4 (And.intro O1 O2)))
  clear GU P3 P4 O1 O2
  revert F
  revert bD
  revert bC
  revert c2
  revert p2
  revert bB
  revert c1
  revert p1
  revert bA
  revert z
  exact t2_3_6_7_10_14_16_.out
  )
  )
  focus (
  intro y bA p1 c1 bB p2 c2 bC F
  obtain ⟨GU,P3,O1,O2⟩:=F
  have hHeld:=HC.out _ GU
  clear hHeld
  refine wpAnyH_ready (rs:=[11,14]) (by kernel_rfl) (by simp) ?_
  refine AllReadyH.cons rfl (fun K hK=>?_) (AllReadyH.cons rfl (fun K hK=>?_) AllReadyH.nil)
  focus (
  rw [if_pos]
  rotate_left
  ·kernel_rfl
  have HCall:=hideIt (HCn.out _ bC GU P3)
  go_wp2_with (go_at_call 94;refine HCall.out.mono ?_;rintro e z ⟨p3,c3,rfl,ho,gg⟩;refine Hid.out ?_)
  refine hidp ?_
  refine hK.out _ _ (HC.out _ (Good.up GU gg)) (fun hHeld=>?_)
  clear hK K HCall
  try simp only [pU0]
  have lGU:=Nat.le_trans HLt.out GU.size
  have S13:p1<p3:=Nat.lt_of_lt_of_le (O1.lt _ rfl).2 (ho.lt _ rfl).1
  have O3:=own_mono ho lGU
  clear ho lGU
  replace GU:=Good.up GU gg
  replace O1:=own_up O1 gg
  replace O2:=own_up O2 gg
  clear gg P3
  clear hHeld
  refine lstH (l':=#[true,true,true,true,true,true,true,true,true,true,true,true,true,true,false,false,true,false,false,false,false,false,false,false]) (by kernel_rfl) ?_
  have F:=And.intro GU (And.intro O1 (And.intro O2 (And.intro O3 S13)))
  clear GU O1 O2 O3 S13
  revert F
  revert c3
  revert p3
  revert bC
  revert c2
  revert p2
  revert bB
  revert c1
  revert p1
  revert bA
  revert z
  exact t2_3_6_7_10_11_16_.out
  )
  focus (
  go_simp
  refine hK.out _ _ (HC.out _ (GU.alloc _)) (fun hHeld=>?_)
  clear hK K
  try simp only [pU0]
  obtain ⟨z,hz⟩:=ex0 (y.alloc (.cells #[.slice pS.a pS.n pS.c] 33))
  have gg:=bz0 hz
  have P4:=pz0 hz
  replace GU:=Good.up GU gg
  replace P3:=keepQ20 P3 gg
  replace O1:=own_up O1 gg
  replace O2:=own_up O2 gg
  rw [← hz]
  clear hz gg hHeld
  generalize y.heap.size=bD at *
  refine lstH (l':=#[true,true,true,true,true,true,true,true,true,true,true,false,true,true,true,false,true,false,false,false,false,false,false,false]) (by kernel_rfl) ?_
  have F:=And.intro GU (And.intro P3 (And.intro P4 (And.intro O1 O2)))
  clear GU P3 P4 O1 O2
  revert F
  revert bD
  revert bC
  revert c2
  revert p2
  revert bB
  revert c1
  revert p1
  revert bA
  revert z
  exact t2_3_6_7_10_14_16_.out
  )
  )
  focus (
  intro y bA p1 c1 bB p2 c2 bC p3 c3 bD F
  obtain ⟨GU,P4,O1,O2,O3,S13⟩:=F
  have hHeld:=HC.out _ GU
  clear hHeld
  refine wpAnyH_ready (rs:=[15,16]) (by kernel_rfl) (by simp) ?_
  refine AllReadyH.cons rfl (fun K hK=>?_) (AllReadyH.cons rfl (fun K hK=>?_) AllReadyH.nil)
  focus (
  rw [if_pos]
  rotate_left
  ·kernel_rfl
  have HCall:=hideIt (HCs.out _ bD GU P4)
  go_wp2_with (go_at_call 108;refine HCall.out.mono ?_;rintro e z ⟨p4,c4,rfl,ho,gg⟩;refine Hid.out ?_)
  refine hidp ?_
  refine hK.out _ _ (HC.out _ (Good.up GU gg)) (fun hHeld=>?_)
  clear hK K HCall
  try simp only [pU0]
  have lGU:=Nat.le_trans HLt.out GU.size
  have O4:=own_mono ho lGU
  clear ho lGU
  replace GU:=Good.up GU gg
  replace O1:=own_up O1 gg
  replace O2:=own_up O2 gg
  replace O3:=own_up O3 gg
  clear gg P4
  clear hHeld
  refine lstH (l':=#[true,true,true,true,true,true,true,true,true,true,true,true,true,true,true,true,false,false,false,false,false,false,false,false]) (by kernel_rfl) ?_
  have F:=And.intro GU (And.intro O1 (And.intro O2 (And.intro O3 (And.intro O4 S13))))
  clear GU O1 O2 O3 O4 S13
  revert F
  revert c4
  revert p4
  revert bD
  revert c3
  revert p3
  revert bC
  revert c2
  revert p2
  revert bB
  revert c1
  revert p1
  revert bA
  revert z
  exact t2_3_6_7_10_11_14_15_.out
  )
  focus (
  go_simp
  refine hK.out _ _ (HC.out _ GU) (fun hHeld=>?_)
  clear hK K
  try simp only [pU0]
  clear hHeld
  refine lstH (l':=#[true,true,true,true,true,true,true,true,true,true,true,true,true,true,true,false,true,false,false,false,false,false,false,false]) (by kernel_rfl) ?_
  have F:=And.intro GU (And.intro P4 (And.intro O1 (And.intro O2 (And.intro O3 S13))))
  clear GU P4 O1 O2 O3 S13
  revert F
  revert bD
  revert c3
  revert p3
  revert bC
  revert c2
  revert p2
  revert bB
  revert c1
  revert p1
  revert bA
  revert y
  exact t2_3_6_7_10_11_14_16_.out
  )
  )
  focus (
  intro y bA p1 c1 bB p2 c2 bC bD F
  obtain ⟨GU,P3,P4,O1,O2⟩:=F
  have hHeld:=HC.out _ GU
  clear hHeld
  refine wr0 (i:=11) rfl (fun K hK=>?_)
  focus (
  rw [if_pos]
  rotate_left
  ·kernel_rfl
  have HCall:=hideIt (HCn.out _ bC GU P3)
  go_wp2_with (go_at_call 94;refine HCall.out.mono ?_;rintro e z ⟨p3,c3,rfl,ho,gg⟩;refine Hid.out ?_)
  refine hidp ?_
  refine hK.out _ _ (HC.out _ (Good.up GU gg)) (fun hHeld=>?_)
  clear hK K HCall
  try simp only [pU0]
  have lGU:=Nat.le_trans HLt.out GU.size
  have S13:p1<p3:=Nat.lt_of_lt_of_le (O1.lt _ rfl).2 (ho.lt _ rfl).1
  have O3:=own_mono ho lGU
  clear ho lGU
  replace GU:=Good.up GU gg
  replace P4:=keepQ20 P4 gg
  replace O1:=own_up O1 gg
  replace O2:=own_up O2 gg
  clear gg P3
  clear hHeld
  refine lstH (l':=#[true,true,true,true,true,true,true,true,true,true,true,true,true,true,true,false,true,false,false,false,false,false,false,false]) (by kernel_rfl) ?_
  have F:=And.intro GU (And.intro P4 (And.intro O1 (And.intro O2 (And.intro O3 S13))))
  clear GU P4 O1 O2 O3 S13
  revert F
  revert bD
  revert c3
  revert p3
  revert bC
  revert c2
  revert p2
  revert bB
  revert c1
  revert p1
  revert bA
  revert z
  exact t2_3_6_7_10_11_14_16_.out
  )
  )
  focus (
  intro y bA p1 c1 bB p2 c2 bC p3 c3 F
  obtain ⟨GU,O1,O2,O3,S13⟩:=F
  have hHeld:=HC.out _ GU
  clear hHeld
  refine wr0 (i:=14) rfl (fun K hK=>?_)
  focus (
  go_simp
  refine hK.out _ _ (HC.out _ (GU.alloc _)) (fun hHeld=>?_)
  clear hK K
  try simp only [pU0]
  obtain ⟨z,hz⟩:=ex0 (y.alloc (.cells #[.slice pS.a pS.n pS.c] 33))
  have gg:=bz0 hz
  have P4:=pz0 hz
  replace GU:=Good.up GU gg
  replace O1:=own_up O1 gg
  replace O2:=own_up O2 gg
  replace O3:=own_up O3 gg
  rw [← hz]
  clear hz gg hHeld
  generalize y.heap.size=bD at *
  refine lstH (l':=#[true,true,true,true,true,true,true,true,true,true,true,true,true,true,true,false,true,false,false,false,false,false,false,false]) (by kernel_rfl) ?_
  have F:=And.intro GU (And.intro P4 (And.intro O1 (And.intro O2 (And.intro O3 S13))))
  clear GU P4 O1 O2 O3 S13
  revert F
  revert bD
  revert c3
  revert p3
  revert bC
  revert c2
  revert p2
  revert bB
  revert c1
  revert p1
  revert bA
  revert z
  exact t2_3_6_7_10_11_14_16_.out
  )
  )
  focus (
  intro y bA p1 c1 bB p2 c2 bC p3 c3 bD p4 c4 F
  obtain ⟨GU,O1,O2,O3,O4,S13⟩:=F
  have hHeld:=HC.out _ GU
  clear hHeld
  refine wr0 (i:=16) rfl (fun K hK=>?_)
  focus (
  go_simp
  refine hK.out _ _ (HC.out _ GU) (fun hHeld=>?_)
  clear hK K
  try simp only [pU0]
  clear hHeld
  refine lstH (l':=#[true,true,true,true,true,true,true,true,true,true,true,true,true,true,true,true,true,false,false,false,false,false,false,false]) (by kernel_rfl) ?_
  have F:=And.intro GU (And.intro O1 (And.intro O2 (And.intro O3 (And.intro O4 S13))))
  clear GU O1 O2 O3 O4 S13
  revert F
  revert c4
  revert p4
  revert bD
  revert c3
  revert p3
  revert bC
  revert c2
  revert p2
  revert bB
  revert c1
  revert p1
  revert bA
  revert y
  exact t2_3_6_7_10_11_14_15_16_.out
  )
  )
  focus (
  intro y bA p1 c1 bB p2 c2 bC p3 c3 bD F
  obtain ⟨GU,P4,O1,O2,O3,S13⟩:=F
  have hHeld:=HC.out _ GU
  clear hHeld
  refine wr0 (i:=15) rfl (fun K hK=>?_)
  focus (
  rw [if_pos]
  rotate_left
  ·kernel_rfl
  have HCall:=hideIt (HCs.out _ bD GU P4)
  go_wp2_with (go_at_call 108;refine HCall.out.mono ?_;rintro e z ⟨p4,c4,rfl,ho,gg⟩;refine Hid.out ?_)
  refine hidp ?_
  refine hK.out _ _ (HC.out _ (Good.up GU gg)) (fun hHeld=>?_)
  clear hK K HCall
  try simp only [pU0]
  have lGU:=Nat.le_trans HLt.out GU.size
  have O4:=own_mono ho lGU
  clear ho lGU
  replace GU:=Good.up GU gg
  replace O1:=own_up O1 gg
  replace O2:=own_up O2 gg
  replace O3:=own_up O3 gg
  clear gg P4
  clear hHeld
  refine lstH (l':=#[true,true,true,true,true,true,true,true,true,true,true,true,true,true,true,true,true,false,false,false,false,false,false,false]) (by kernel_rfl) ?_
  have F:=And.intro GU (And.intro O1 (And.intro O2 (And.intro O3 (And.intro O4 S13))))
  clear GU O1 O2 O3 O4 S13
  revert F
  revert c4
  revert p4
  revert bD
  revert c3
  revert p3
  revert bC
  revert c2
  revert p2
  revert bB
  revert c1
  revert p1
  revert bA
  revert z
  exact t2_3_6_7_10_11_14_15_16_.out
  )
  )
  focus (
  intro y bA p1 c1 bB p2 c2 bC p3 c3 bD p4 c4 F
  obtain ⟨GU,O1,O2,O3,O4,S13⟩:=F
  have hHeld:=HC.out _ GU
  have B0:=BR.out _ GU
  have q0:=B0.c.cell 1 rfl
  have fq0:=B0.c.frozen 1
  refine wr0 (i:=17) rfl (fun K hK=>?_)
  go_simp
  have HF:=hideIt (HSt.out y 1 (.slice (some ⟨p1,0,none⟩) pO.n c1) hHeld)
  obtain ⟨x0,hx0⟩:∃ x,x=y.setCell ⟨w.heap.size+1+1,1,none⟩ (.slice (some ⟨p1,0,none⟩) pO.n c1):=⟨_,rfl⟩
  have B1:CpB w h ⟨pO,pC,⟨aL,nL,cL⟩,pN,pE,pS⟩ ⟨⟨some ⟨p1,0,none⟩,pO.n,c1⟩,pC,⟨aL,nL,cL⟩,pN,pE,pS⟩ x0:=by rw [hx0];exact B0.set 1 (.slice (some ⟨p1,0,none⟩) pO.n c1) rfl
  replace O1:x0.ownsRow (w.heap.size+3) 3 1 (.slice (some ⟨p1,0,none⟩) pO.n c1) pO.n (ic h.own):=by rw [hx0];exact own_lowA O1 (by omega)
  replace O2:x0.ownsRow (w.heap.size+3) 107 2 (.slice p2 pC.n c2) pC.n (O.ecells h.cuts):=by rw [hx0];exact own_lowA O2 (by omega)
  replace O3:x0.ownsRow (w.heap.size+3) 3 1 (.slice (some ⟨p3,0,none⟩) pN.n c3) pN.n (ic h.nums):=by rw [hx0];exact own_lowA O3 (by omega)
  replace O4:x0.ownsRow (w.heap.size+3) 82 6 (.slice p4 pS.n c4) pS.n (scells h.said):=by rw [hx0];exact own_lowA O4 (by omega)
  refine hK.out _ _ HF.out (fun hHeld=>?_)
  clear hK K
  try simp only [pU0]
  rw [← hx0] at hHeld ⊢
  clear HF hx0 q0 fq0 B0
  refine wr0 (i:=18) rfl (fun K hK=>?_)
  go_simp
  refine hK.out _ _ hHeld (fun hHeld=>?_)
  clear hK K
  try simp only [pU0]
  have q1:=B1.c.cell 2 rfl
  have fq1:=B1.c.frozen 2
  refine wr0 (i:=19) rfl (fun K hK=>?_)
  go_simp
  have HF:=hideIt (HSt.out x0 2 (.slice p2 pC.n c2) hHeld)
  obtain ⟨x1,hx1⟩:∃ x,x=x0.setCell ⟨w.heap.size+1+1,2,none⟩ (.slice p2 pC.n c2):=⟨_,rfl⟩
  have B2:CpB w h ⟨pO,pC,⟨aL,nL,cL⟩,pN,pE,pS⟩ ⟨⟨some ⟨p1,0,none⟩,pO.n,c1⟩,⟨p2,pC.n,c2⟩,⟨aL,nL,cL⟩,pN,pE,pS⟩ x1:=by rw [hx1];exact B1.set 2 (.slice p2 pC.n c2) rfl
  replace O1:x1.ownsRow (w.heap.size+3) 3 1 (.slice (some ⟨p1,0,none⟩) pO.n c1) pO.n (ic h.own):=by rw [hx1];exact own_lowA O1 (by omega)
  replace O2:x1.ownsRow (w.heap.size+3) 107 2 (.slice p2 pC.n c2) pC.n (O.ecells h.cuts):=by rw [hx1];exact own_lowA O2 (by omega)
  replace O3:x1.ownsRow (w.heap.size+3) 3 1 (.slice (some ⟨p3,0,none⟩) pN.n c3) pN.n (ic h.nums):=by rw [hx1];exact own_lowA O3 (by omega)
  replace O4:x1.ownsRow (w.heap.size+3) 82 6 (.slice p4 pS.n c4) pS.n (scells h.said):=by rw [hx1];exact own_lowA O4 (by omega)
  refine hK.out _ _ HF.out (fun hHeld=>?_)
  clear hK K
  try simp only [pU0]
  rw [← hx1] at hHeld ⊢
  clear HF hx1 q1 fq1 B1
  refine wr0 (i:=20) rfl (fun K hK=>?_)
  go_simp
  refine hK.out _ _ hHeld (fun hHeld=>?_)
  clear hK K
  try simp only [pU0]
  have q2:=B2.c.cell 4 rfl
  have fq2:=B2.c.frozen 4
  refine wr0 (i:=21) rfl (fun K hK=>?_)
  go_simp
  have HF:=hideIt (HSt.out x1 4 (.slice (some ⟨p3,0,none⟩) pN.n c3) hHeld)
  obtain ⟨x2,hx2⟩:∃ x,x=x1.setCell ⟨w.heap.size+1+1,4,none⟩ (.slice (some ⟨p3,0,none⟩) pN.n c3):=⟨_,rfl⟩
  have B3:CpB w h ⟨pO,pC,⟨aL,nL,cL⟩,pN,pE,pS⟩ ⟨⟨some ⟨p1,0,none⟩,pO.n,c1⟩,⟨p2,pC.n,c2⟩,⟨aL,nL,cL⟩,⟨some ⟨p3,0,none⟩,pN.n,c3⟩,pE,pS⟩ x2:=by rw [hx2];exact B2.set 4 (.slice (some ⟨p3,0,none⟩) pN.n c3) rfl
  replace O1:x2.ownsRow (w.heap.size+3) 3 1 (.slice (some ⟨p1,0,none⟩) pO.n c1) pO.n (ic h.own):=by rw [hx2];exact own_lowA O1 (by omega)
  replace O2:x2.ownsRow (w.heap.size+3) 107 2 (.slice p2 pC.n c2) pC.n (O.ecells h.cuts):=by rw [hx2];exact own_lowA O2 (by omega)
  replace O3:x2.ownsRow (w.heap.size+3) 3 1 (.slice (some ⟨p3,0,none⟩) pN.n c3) pN.n (ic h.nums):=by rw [hx2];exact own_lowA O3 (by omega)
  replace O4:x2.ownsRow (w.heap.size+3) 82 6 (.slice p4 pS.n c4) pS.n (scells h.said):=by rw [hx2];exact own_lowA O4 (by omega)
  refine hK.out _ _ HF.out (fun hHeld=>?_)
  clear hK K
  try simp only [pU0]
  rw [← hx2] at hHeld ⊢
  clear HF hx2 q2 fq2 B2
  refine wr0 (i:=22) rfl (fun K hK=>?_)
  go_simp
  refine hK.out _ _ hHeld (fun hHeld=>?_)
  clear hK K
  try simp only [pU0]
  have q3:=B3.c.cell 14 rfl
  have fq3:=B3.c.frozen 14
  refine wr0 (i:=23) rfl (fun K hK=>?_)
  go_simp
  have HF:=hideIt (HSt.out x2 14 (.slice p4 pS.n c4) hHeld)
  obtain ⟨x3,hx3⟩:∃ x,x=x2.setCell ⟨w.heap.size+1+1,14,none⟩ (.slice p4 pS.n c4):=⟨_,rfl⟩
  have B4:CpB w h ⟨pO,pC,⟨aL,nL,cL⟩,pN,pE,pS⟩ ⟨⟨some ⟨p1,0,none⟩,pO.n,c1⟩,⟨p2,pC.n,c2⟩,⟨aL,nL,cL⟩,⟨some ⟨p3,0,none⟩,pN.n,c3⟩,pE,⟨p4,pS.n,c4⟩⟩ x3:=by rw [hx3];exact B3.set 14 (.slice p4 pS.n c4) rfl
  replace O1:x3.ownsRow (w.heap.size+3) 3 1 (.slice (some ⟨p1,0,none⟩) pO.n c1) pO.n (ic h.own):=by rw [hx3];exact own_lowA O1 (by omega)
  replace O2:x3.ownsRow (w.heap.size+3) 107 2 (.slice p2 pC.n c2) pC.n (O.ecells h.cuts):=by rw [hx3];exact own_lowA O2 (by omega)
  replace O3:x3.ownsRow (w.heap.size+3) 3 1 (.slice (some ⟨p3,0,none⟩) pN.n c3) pN.n (ic h.nums):=by rw [hx3];exact own_lowA O3 (by omega)
  replace O4:x3.ownsRow (w.heap.size+3) 82 6 (.slice p4 pS.n c4) pS.n (scells h.said):=by rw [hx3];exact own_lowA O4 (by omega)
  refine hK.out _ _ HF.out (fun hHeld=>?_)
  clear hK K
  try simp only [pU0]
  rw [← hx3] at hHeld ⊢
  clear HF hx3 q3 fq3 B3
  clear hHeld GU
  refine wpAnyH_done (by kernel_rfl) ?_ _
  have HBB:=hideIt B4
  have HO1:=hideIt O1
  have HO2:=hideIt O2
  have HO3:=hideIt O3
  have HO4:=hideIt O4
  have HS13:=hideIt S13
  have h12:x3.cell? ⟨w.heap.size,12,none⟩=some (.slice pE.a pE.n pE.c):=B4.h.cell 12 rfl
  have HCE:=hideIt (con1E20 h.es pE.a pE.n pE.c HE66.out HzE.out x3.heap.size (x3.alloc (.cells #[.slice pE.a pE.n pE.c] 25)) ((HIn.out x3 B4.f).e.up (belA _ _)) ⟨by simp [go_sem],by simp⟩)
  clear B4 O1 O2 O3 O4 S13
  go_wp2_with (go_at_call 107;refine HCE.out.mono ?_;rintro e z ⟨p5,c5,rfl,ho5,gg⟩;refine Hid.out ?_)
  refine hidp20 ?_
  clear HCE h12
  have g2:Below x3.heap.size x3 z:=(belA _ _).trans (gg.mono (by simp))
  have B5:=HBB.out.up g2
  have ho5':=own_mono ho5 (show x3.heap.size≤_ by simp)
  have HCE2:Hid (∀ b,(Value.slice p2 pC.n c2).ownBlock=some b→(Value.slice p5 pE.n c5).ownBlock≠some b):=fun b h1 h2=>by have:=(HO2.out.lt b h1).2;have:=(ho5'.lt b h2).1;omega
  have l3:=HBB.out.lt
  have HO5:=hideIt (own_mono ho5' l3)
  have q1:=own_up HO1.out g2
  have q2:=own_up HO2.out g2
  have q3:=own_up HO3.out g2
  have q4:=own_up HO4.out g2
  have f12:=B5.c.frozen 12
  have d12:=B5.c.cell 12 rfl
  clear ho5 ho5' gg g2 HBB HO1 HO2 HO3 HO4
  go_upto_region 4 with fail
  obtain ⟨ZU,hu3⟩:=ex0 (z.setCell ⟨w.heap.size+1+1,12,none⟩ (.slice p5 pE.n c5))
  rw [← hu3]
  have B6:CpB w h ⟨pO,pC,⟨aL,nL,cL⟩,pN,pE,pS⟩ ⟨⟨some ⟨p1,0,none⟩,pO.n,c1⟩,⟨p2,pC.n,c2⟩,⟨aL,nL,cL⟩,⟨some ⟨p3,0,none⟩,pN.n,c3⟩,⟨p5,pE.n,c5⟩,⟨p4,pS.n,c4⟩⟩ ZU:=by rw [hu3];exact B5.set 12 _ rfl
  have HO:Hid (CpR w h pO.n pC.n pN.n pE.n pS.n p1 c1 p2 c2 p3 c3 p5 c5 p4 c4 ZU):=by
   show CpR _ _ _ _ _ _ _ _ _ _ _ _ _ _ _ _ _ _
   rw [hu3]
   exact ⟨own_lowA q1 (by omega),own_lowA q2 (by omega),own_lowA q3 (by omega),own_lowA HO5.out (by omega),own_lowA q4 (by omega)⟩
  clear hu3 B5 q1 q2 q3 q4 f12 d12 HO5 l3
  have HB6:=hideIt B6
  have h3:ZU.cell? ⟨w.heap.size,3,none⟩=some (.slice aL nL cL):=B6.h.cell 3 rfl
  have d3:ZU.cell? ⟨w.heap.size+1+1,3,none⟩=some (.slice aL nL cL):=B6.c.cell 3 rfl
  have e3:=B6.c.frozen 3
  have l6:w.heap.size+1+1<ZU.heap.size:=B6.c.lt
  clear B6
  go_upto_region 5 with fail
  obtain ⟨ZW,hu5⟩:=ex0 (ZU.setCell ⟨w.heap.size+1+1,3,none⟩ (.slice (some ⟨ZU.heap.size,0,none⟩) nL nL))
  rw [← hu5]
  have z5:ZW.heap.size=ZU.heap.size:=by rw [hu5];simp
  have B7:CpB w h ⟨pO,pC,⟨aL,nL,cL⟩,pN,pE,pS⟩ ⟨⟨some ⟨p1,0,none⟩,pO.n,c1⟩,⟨p2,pC.n,c2⟩,⟨some ⟨ZW.heap.size,0,none⟩,nL,nL⟩,⟨some ⟨p3,0,none⟩,pN.n,c3⟩,⟨p5,pE.n,c5⟩,⟨p4,pS.n,c4⟩⟩ ZW:=by rw [z5,hu5];exact HB6.out.set 3 _ rfl
  have R7:CpR w h pO.n pC.n pN.n pE.n pS.n p1 c1 p2 c2 p3 c3 p5 c5 p4 c4 ZW:=by rw [hu5];exact HO.out.set 3 _
  obtain ⟨ZX,hu6⟩:=ex0 (ZW.alloc (.cells (madeCells #[.slice none 0 0] nL) 24))
  rw [← hu6,← z5]
  have b56:Below ZW.heap.size ZW ZX:=by rw [hu6];exact belA _ _
  have F0:FMk ZW nL [] ZX:=by rw [hu6];exact ⟨⟨_,World.ownsRow_lit (base:=ZW.heap.size) (e:=24) (size:=1) ZW (madeCells #[.slice none 0 0] nL) nL (Nat.le_refl _) (by unfold maxLen;omega) (by simp [madeCells]),by simp [rhs]⟩,by simp,List.Pairwise.nil,belA _ _⟩
  have HB8:=hideIt (B7.up b56)
  have HR8:=hideIt (R7.up b56)
  have HF8:=hideIt F0
  have HZ5:Hid (w.heap.size+3≤ZW.heap.size):=B7.lt
  have HPP:Hid (∀ (v:Value) (B e s n:Nat) (xs:List Value),ZW.ownsRow B e s v n xs→∀ b,v.ownBlock=some b→b<ZW.heap.size):=fun _ _ _ _ _ _ h b hb=>(h.lt b hb).2
  have HR7:=hideIt R7
  have HTsB:Hid (∀ u,Below ZW.heap.size ZW u→Ts u u.heap.size aL nL h.lab):=fun u hu=>(HIn.out u (B7.f.trans (hu.mono B7.f.size))).l
  have l3:ZX.cell? ⟨w.heap.size,3,none⟩=some (.slice aL nL cL):=(B7.up b56).h.cell 3 rfl
  clear hu5 hu6 z5 B7 R7 b56 F0 HB6 HO h3 d3 e3 l6
  go_wp2
  go_loopw [44] (fun i wr=>∃ (j:Nat) (R:List Rw),j≤nL∧i=.int .i64 (j:Int)∧Hid (R.length=j)∧Hid (rts R=h.lab.take j)∧Hid (CpB w h ⟨pO,pC,⟨aL,nL,cL⟩,pN,pE,pS⟩ ⟨⟨some ⟨p1,0,none⟩,pO.n,c1⟩,⟨p2,pC.n,c2⟩,⟨some ⟨ZW.heap.size,0,none⟩,nL,nL⟩,⟨some ⟨p3,0,none⟩,pN.n,c3⟩,⟨p5,pE.n,c5⟩,⟨p4,pS.n,c4⟩⟩ wr)∧Hid (CpR w h pO.n pC.n pN.n pE.n pS.n p1 c1 p2 c2 p3 c3 p5 c5 p4 c4 wr)∧Hid (FMk ZW nL R wr)) (fun i _=>nL - (intOf i).toNat)
  case atStart=>exact ⟨0,[],by omega,rfl,by show _=_;rfl,by show _=_;simp [rts],HB8,HR8,HF8⟩
  case round =>
   obtain ⟨j,R,hj,rfl,HK,HTk,hB,hR,hF⟩:=hrel
   clear HB8 HR8 HF8 l3
   by_cases hlt:j<nL
   ·rcases (HTsB.out wr hF.out.bel).2 with h0 | ⟨b,off,rfl,hbl,hcl⟩
    ·omega
    obtain ⟨ls,hls⟩:∃ ls,h.lab[j]?=some ls:=⟨h.lab[j]'(by have:=HL.out.1;omega),List.getElem?_eq_getElem (by have:=HL.out.1;omega)⟩
    obtain ⟨al,cl,cx,hIs,_⟩:=hcl j _ hls
    have hll:=HL.out.2.2 ls (List.mem_of_getElem? hls)
    have h1l:1≤ls.length∧ls.length≤12:=by have:=HN12.out;omega
    have hzl:al=none→ls.length=0∧cl=0:=fun ha=>by
     rcases hIs.2 with h0 | ⟨b',off',hb',_⟩
     ·omega
     ·rw [ha] at hb';cases hb'
    have b1:(0:Int)≤(j:Int):=by omega
    have b2:(j:Int)<(nL:Int):=by omega
    have HCl:Hid (∀ (u:World) (b:Nat),Below wr.heap.size wr u→u.cell? ⟨b,0,none⟩=some (.slice al ls.length cl)∧b<u.heap.size→Calls Tryz.prog 94 #[.slice (some ⟨b,0,none⟩) 1 1] u fun e v=>∃ g c,e=.returned (.slice (some ⟨g,0,none⟩) ls.length c)∧v.ownsRow u.heap.size 3 1 (.slice (some ⟨g,0,none⟩) ls.length c) ls.length (ic ls)∧Below u.heap.size u v):=fun u b hu hc=>con1I20 ls al ls.length cl (by omega) h1l.1 hzl b u (hIs.up hu) hc
    have HT2:Hid (∀ r:Rw,r.t=ls→rts (R ++ [r])=h.lab.take (j+1)):=fun r hr=>by rw [rts_snoc,HTk.out,take_snocF h.lab j ls hls,hr]
    have HSS:Hid (∀ u,Good wr u→u.cell? ⟨w.heap.size+1+1,3,none⟩=some (.slice (some ⟨ZW.heap.size,0,none⟩) nL nL)):=fun u hu=>(hB.out.c.up hu).cell 3 rfl
    have hS0:=HSS.out _ (Below.refl wr.heap.size wr).drew
    obtain ⟨xs,hXs,_⟩:=hF.out.xs
    have HXs:=hideIt hXs
    have HRow:Hid (∀ u,Below wr.heap.size wr u→(∃ v,u.cell? ⟨ZW.heap.size,j,none⟩=some v)∧u.frozen? ⟨ZW.heap.size,j,none⟩=false):=fun u hu=>by
     have hr2:=own_up HXs.out hu
     have hl:=hr2.1
     exact ⟨⟨_,by rw [hr2.cellAt j (by omega)];exact List.getElem?_eq_getElem (by omega)⟩,hr2.frozenAt j⟩
    clear hcl hIs hzl hXs hls hll h1l HTk
    go_upto_region 8 with fail
    (
    apply viaT
    intro t4_5_
    apply viaT
    intro t4_
    focus (
    refine wp_region_held_drew (S:=(fun u=>u.cell? ⟨w.heap.size+1+1,3,none⟩=some (.slice (some ⟨ZW.heap.size,0,none⟩) nL nL))) (by kernel_rfl) hS0 (fun hHeld=>?_)
    refine tq0 (i:=0) (v:=?_) rfl ?_ (by assumption) ?_
    rotate_left
    ·intro w hSw;(try dsimp only at hSw);go_simp;try with_reducible rfl
    try simp only [Act.put,pU0]
    refine tq0 (i:=1) (v:=?_) rfl ?_ (by assumption) ?_
    rotate_left
    ·intro w hSw;(try dsimp only at hSw);go_simp;try with_reducible rfl
    try simp only [Act.put,pU0]
    refine tq0 (i:=2) (v:=?_) rfl ?_ (by assumption) ?_
    rotate_left
    ·intro w hSw;(try dsimp only at hSw);go_simp;try with_reducible rfl
    try simp only [Act.put,pU0]
    refine tq0 (i:=3) (v:=?_) rfl ?_ (by assumption) ?_
    rotate_left
    ·intro w hSw;(try dsimp only at hSw);go_simp;try with_reducible rfl
    try simp only [Act.put,pU0]
    obtain ⟨y,hy⟩:=ex0 (wr.drew)
    have GU:Good wr y:=by rw [hy];exact (Good.refl _).drew
    rw [← hy]
    clear hy hHeld
    refine wr0 (i:=4) rfl (fun K hK=>?_)
    focus (
    go_simp
    refine hK.out _ _ (HSS.out _ (GU.alloc _)) (fun hHeld=>?_)
    clear hK K
    try simp only [Act.put,pU0]
    obtain ⟨z,hz⟩:=ex0 (y.alloc (.cells #[.slice al ls.length cl] 24))
    have gg:=bz0 hz
    have P5:=pz0 hz
    replace GU:=Good.up GU gg
    rw [← hz]
    clear hz gg hHeld
    generalize y.heap.size=bE at *
    refine lstH (l':=#[true,true,true,true,true,false,false,false]) (by kernel_rfl) ?_
    have F:=And.intro GU P5
    clear GU P5
    revert F
    revert bE
    revert z
    exact t4_.out
    )
    )
    focus (
    intro y bE F
    obtain ⟨GU,P5⟩:=F
    have hHeld:=HSS.out _ GU
    clear hHeld
    refine wr0 (i:=5) rfl (fun K hK=>?_)
    focus (
    rw [if_pos]
    rotate_left
    ·kernel_rfl
    have HCall:=hideIt (HCl.out _ bE GU P5)
    go_wp2_with (go_at_call 94;refine HCall.out.mono ?_;rintro e z ⟨g5,c6,rfl,ho,gg⟩;refine Hid.out ?_)
    refine hidp ?_
    refine hK.out _ _ (HSS.out _ (Good.up GU gg)) (fun hHeld=>?_)
    clear hK K HCall
    try simp only [pU0]
    have O5:=own_mono ho GU.size
    clear ho
    replace GU:=Good.up GU gg
    clear gg P5
    clear hHeld
    refine lstH (l':=#[true,true,true,true,true,true,false,false]) (by kernel_rfl) ?_
    have F:=And.intro GU O5
    clear GU O5
    revert F
    revert c6
    revert g5
    revert bE
    revert z
    exact t4_5_.out
    )
    )
    focus (
    intro y bE g5 c6 F
    obtain ⟨GU,O5⟩:=F
    have hHeld:=HSS.out _ GU
    refine wr0 (i:=6) rfl (fun K hK=>?_)
    go_simp
    refine hK.out _ _ hHeld (fun hHeld=>?_)
    clear hK K
    try simp only [pU0]
    obtain ⟨⟨vv,hv⟩,hf⟩:=HRow.out y GU
    refine wr0 (i:=7) rfl (fun K hK=>?_)
    go_simp
    have HB9:Hid (CpB w h ⟨pO,pC,⟨some ⟨b,off,none⟩,nL,cL⟩,pN,pE,pS⟩ ⟨⟨some ⟨p1,0,none⟩,pO.n,c1⟩,⟨p2,pC.n,c2⟩,⟨some ⟨ZW.heap.size,0,none⟩,nL,nL⟩,⟨some ⟨p3,0,none⟩,pN.n,c3⟩,⟨p5,pE.n,c5⟩,⟨p4,pS.n,c4⟩⟩ (y.setCell ⟨ZW.heap.size,j,none⟩ (.slice (some ⟨g5,0,none⟩) ls.length c6))):=(hB.out.up GU).setOut _ _ (by have:=HZ5.out;omega) _
    have HR9:Hid (CpR w h pO.n pC.n pN.n pE.n pS.n p1 c1 p2 c2 p3 c3 p5 c5 p4 c4 (y.setCell ⟨ZW.heap.size,j,none⟩ (.slice (some ⟨g5,0,none⟩) ls.length c6))):=CpR.row (hR.out.up GU) (own_up HXs.out GU) j _
    have hA:=hF.out.add (r:=⟨g5,c6,ls⟩) (by have:=HK.out;omega) GU (RwB.of_own O5) (O5.lt g5 rfl).1
    rw [HK.out] at hA
    have HA:=hideIt hA
    clear hA O5
    refine hK.out _ _ (HB9.out.c.cell 3 rfl) (fun hHeld=>?_)
    clear hK K
    try simp only [pU0]
    refine wpAnyH_done (by kernel_rfl) ?_ _
    clear hHeld hv hf GU
    go_wp2
    exact ⟨⟨j+1,_,by omega,by go_num,by show _=_;rw [List.length_append,HK.out];rfl,HT2.out _ rfl,HB9,HR9,HA⟩,by simp [intOf];omega⟩
    )
    )
   ·obtain rfl:j=nL:=by omega
    have d1:decide ((j:Int)<(j:Int))=false:=by simp
    have HW9:Hid (∀ v,wr.grownBy v (some (w.heap.size+1))→HW v w.heap.size h ⟨⟨some ⟨p1,0,none⟩,pO.n,c1⟩,⟨p2,pC.n,c2⟩,⟨some ⟨ZW.heap.size,0,none⟩,j,j⟩,⟨some ⟨p3,0,none⟩,pN.n,c3⟩,⟨p5,pE.n,c5⟩,⟨p4,pS.n,c4⟩⟩ R):=fun v hv=>by
     have hFB:=(hF.out.fb HK.out).lo (show w.heap.size≤ZW.heap.size by have:=HZ5.out;omega)
     have rr:=hR.out
     refine HW.grB (lo:=w.heap.size+3) ?_ hv (by omega) |>.low (by omega)
     refine ⟨⟨rr.o,rr.c,(hF.out.fb HK.out).lo (HZ5.out),by rw [HTk.out,List.take_of_length_le (by have:=HL.out.1;omega)],rr.n,rr.e,rr.s⟩,⟨fun b h1 h2=>?_,fun r hr h1=>?_,fun r hr h1=>?_⟩,HCE2⟩
     ·have:=HS13.out
      simp [Value.ownBlock] at h1 h2
      omega
     ·have h2:=(hF.out.ins r hr).2
      have h3:=HPP.out _ _ _ _ _ _ HR7.out.o _ h1
      omega
     ·have h2:=(hF.out.ins r hr).2
      have h3:=HPP.out _ _ _ _ _ _ HR7.out.n _ h1
      omega
    have HBz:=hB
    go_upto_region 10 with fail
    refine wp_region_lit ?_
    go_step
    refine wp_loadH HBz.out.c rfl rfl ?_
    go_step
    go_step
    refine wp_storeH HBz.out.z rfl rfl rfl ?_
    intro v XV gv zv
    have HXV:=hideIt XV
    have HF9:=hideIt (And.intro (HW9.out v gv) (below_grB HBz.out.f gv (by omega) (Nat.le_refl _)))
    clear XV gv zv
    go_wp2
    exact bodyPost_ret (results_H1 Tryz.results89 rfl HXV.out) rfl ⟨_,R,rfl,HF9.out.1,HF9.out.2⟩
  )
 )
theorem grown_refl (w:World) (x:Option Nat):w.grownBy w x:=⟨rfl,rfl,rfl,Nat.le_refl _,fun _ _ _=>rfl⟩
theorem wpList_append_copy {P:Program} {w:World} {ops:Array Oper} {rest:List Oper} {o:Oper} {a:Act} {Q:Exit→Act→World→Prop} (hgd:o.guard=none) (s x:Operand) (t:TypeId)
  (ho:o.op=.call { callee:=.builtin .append,args:=#[s,x],argTypes:=#[t,t] })
  (base:Nat) (e:TypeId) (i:TypeInfo) (z:Value) (size bytes:Nat) (ht:P.underlying t=some (.slice e)) (hi:P.info? e=some i) (hz:i.zero=some z)
  (hsize:i.size=size) (hby:i.bytes=bytes) (hzs:z.cells.size=size) (hsz:0<size)
  (v:Value) (hs:a.eval s=v) (hown:w.ownsRow base e size v 0 [])
  (ad:Option Addr) (m c:Nat) (news:List Value) (hx:a.eval x=.slice ad m c) (hl:news.length=m*size) (hnil:ad=none→m=0∧c=0) (hnews:∀ ad',ad=some ad'→∀ j u,news[j]?=some u→w.cell? (ad'.add j)=some u) (h1:∀ u ∈ news,u.oneCell'=true)
  (h63:m≤maxLen) (hbytes:m*bytes≤140737488355328) (hbase:base≤w.heap.size)
  (h:∀ a' cap w',w'.ownsRow base e size (.slice a' m cap) m news→w.grownBy w' v.ownBlock→wpList P ops Q rest (a.put o.dst (.slice a' m cap)) w'):wpList P ops Q (o :: rest) a w:=by
 cases ad with
 | none =>
  obtain ⟨rfl,rfl⟩:=hnil rfl
  have e0:news=[]:=List.length_eq_zero_iff.1 (by omega)
  subst e0
  refine wpList_append_own_none hgd s x t ho base e i size ht hi v 0 [] hs hown hx ?_
  obtain ⟨a2,c2,rfl⟩:=own_form hown
  exact h a2 c2 w hown (grown_refl _ _)
 | some ad =>
  refine wpList_append_own w hgd s x t ho base e i z size bytes ht hi hz hsize hby hzs hsz v 0 [] hs hown ad m c news hx hl (hnews ad rfl) h1 (by omega) (by simpa using hbytes) hbase fun v' w' h2 h3 _=>?_
  rw [Nat.zero_add,List.nil_append] at h2
  obtain ⟨a2,c2,rfl⟩:=own_form h2
  exact h a2 c2 w' h2 h3
theorem icone20 {ls:List Int}:∀ u ∈ ic ls,u.oneCell'=true:=by
 intro u hu
 simp only [ic,List.mem_map] at hu
 obtain ⟨e,_,rfl⟩:=hu
 rfl
theorem cpI20 {ops:Array Oper} {rest:List Oper} {o:Oper} {a:Act} {Q:Exit→Act→World→Prop} {w0:World} (s x:Operand) (hgd:o.guard=none) (ho:o.op=.call { callee:=.builtin .append,args:=#[s,x],argTypes:=#[24,24] }) (hs:a.eval s=.slice (some ⟨w0.heap.size,0,none⟩) 0 0)
  (ls:List Int) (ad:Option Addr) (n c:Nat) (hx:a.eval x=.slice ad n c) (hI:Is w0 w0.heap.size ad n ls) (hn:n≤1048576) (hnil:ad=none→n=0∧c=0)
  (h:∀ a' cap w',w'.ownsRow w0.heap.size 3 1 (.slice a' n cap) n (ic ls)→Below w0.heap.size w0 w'→wpList Tryz.prog ops Q rest (a.put o.dst (.slice a' n cap)) w'):wpList Tryz.prog ops Q (o :: rest) a (w0.alloc (.cells #[] 3)):=by
 obtain ⟨i0,hi,hz0,hz1,hz2⟩:=info_parts info3i
 refine wpList_append_copy hgd s x 24 ho w0.heap.size 3 i0 _ 1 8 Tryz.underlying24 hi hz0 hz1 hz2 rfl (by decide) _ hs (World.ownsRow_made (base:=w0.heap.size) w0 #[] 0 (Nat.le_refl _) (by unfold maxLen;omega) rfl) ad n c (ic ls) hx (by rw [ic_len,hI.1,Nat.mul_one]) hnil (fun ad' he=>?_) icone20 (by unfold maxLen;omega) (by omega) (by simp) fun a' cap w' ho hg=>h a' cap w' ho ?_
 ·have hJ:=hI.up (belA w0 (.cells #[] 3))
  subst he
  rcases hJ.2 with h0 | ⟨b,off,e,hb,hc⟩
  ·intro j u hj
   have e0:ls=[]:=List.length_eq_zero_iff.1 (by rw [hI.1];exact h0)
   rw [e0] at hj
   simp [ic] at hj
  ·simp only [Option.some.injEq] at e
   subst e
   exact hJ.newsC
 ·exact (belA w0 _).grown hg (by simp) (fun j hj=>by simp [Value.ownBlock] at hj;omega)
theorem cpE20 {ops:Array Oper} {rest:List Oper} {o:Oper} {a:Act} {Q:Exit→Act→World→Prop} {w0:World} (s x:Operand) (hgd:o.guard=none) (ho:o.op=.call { callee:=.builtin .append,args:=#[s,x],argTypes:=#[25,25] }) (hs:a.eval s=.slice (some ⟨w0.heap.size,0,none⟩) 0 0)
  (ls:List O.EdgeV) (ad:Option Addr) (n c:Nat) (hx:a.eval x=.slice ad n c) (hI:O.Es w0 w0.heap.size ad n ls) (hn:n≤1048576) (hnil:ad=none→n=0∧c=0)
  (h:∀ a' cap w',w'.ownsRow w0.heap.size 107 2 (.slice a' n cap) n (O.ecells ls)→Below w0.heap.size w0 w'→wpList Tryz.prog ops Q rest (a.put o.dst (.slice a' n cap)) w'):wpList Tryz.prog ops Q (o :: rest) a (w0.alloc (.cells #[] 107)):=by
 obtain ⟨i0,hi,hz0,hz1,hz2⟩:=info_parts O.infoIE
 refine wpList_append_copy hgd s x 25 ho w0.heap.size 107 i0 _ 2 16 Tryz.underlying25 hi hz0 hz1 hz2 rfl (by decide) _ hs (World.ownsRow_made (base:=w0.heap.size) w0 #[] 0 (Nat.le_refl _) (by unfold maxLen;omega) rfl) ad n c (O.ecells ls) hx (by rw [O.ecells_length,hI.1]) hnil (fun ad' he=>?_) O.ecells_one (by unfold maxLen;omega) (by omega) (by simp) fun a' cap w' ho hg=>h a' cap w' ho ?_
 ·have hJ:=hI.up (belA w0 (.cells #[] 107))
  subst he
  rcases hJ.2 with h0 | ⟨b,off,e,hb,hc⟩
  ·intro j u hj
   have e0:ls=[]:=List.length_eq_zero_iff.1 (by rw [hI.1];exact h0)
   rw [e0] at hj
   simp [O.ecells] at hj
  ·simp only [Option.some.injEq] at e
   subst e
   exact hJ.news
 ·exact (belA w0 _).grown hg (by simp) (fun j hj=>by simp [Value.ownBlock] at hj;omega)
theorem cpS20 {ops:Array Oper} {rest:List Oper} {o:Oper} {a:Act} {Q:Exit→Act→World→Prop} {w0:World} (s x:Operand) (hgd:o.guard=none) (ho:o.op=.call { callee:=.builtin .append,args:=#[s,x],argTypes:=#[33,33] }) (hs:a.eval s=.slice (some ⟨w0.heap.size,0,none⟩) 0 0)
  (ls:List Sd) (ad:Option Addr) (n c:Nat) (hx:a.eval x=.slice ad n c) (hI:Ss w0 w0.heap.size ad n ls) (hn:n≤1048576) (hnil:ad=none→n=0∧c=0)
  (h:∀ a' cap w',w'.ownsRow w0.heap.size 82 6 (.slice a' n cap) n (scells ls)→Below w0.heap.size w0 w'→wpList Tryz.prog ops Q rest (a.put o.dst (.slice a' n cap)) w'):wpList Tryz.prog ops Q (o :: rest) a (w0.alloc (.cells #[] 82)):=by
 obtain ⟨i0,hi,hz0,hz1,hz2⟩:=info_parts infoSd
 refine wpList_append_copy hgd s x 33 ho w0.heap.size 82 i0 _ 6 48 Tryz.underlying33 hi hz0 hz1 hz2 rfl (by decide) _ hs (World.ownsRow_made (base:=w0.heap.size) w0 #[] 0 (Nat.le_refl _) (by unfold maxLen;omega) rfl) ad n c (scells ls) hx (by rw [scells_length,hI.1]) hnil (fun ad' he=>?_) scells_one (by unfold maxLen;omega) (by omega) (by simp) fun a' cap w' ho hg=>h a' cap w' ho ?_
 ·have hJ:=hI.up (belA w0 (.cells #[] 82))
  subst he
  rcases hJ.2 with h0 | ⟨b,off,e,hb,hc⟩
  ·intro j u hj
   have e0:ls=[]:=List.length_eq_zero_iff.1 (by rw [hI.1];exact h0)
   rw [e0] at hj
   simp [scells] at hj
  ·simp only [Option.some.injEq] at e
   subst e
   exact hJ.news
 ·exact (belA w0 _).grown hg (by simp) (fun j hj=>by simp [Value.ownBlock] at hj;omega)
set_option maxHeartbeats 4000000 in
theorem copyOrder20 (num op v:Int) (es:List O.EdgeV) (a5:Option Addr) (n5 k5:Nat) (hn:n5≤1048576) (hz:a5=none→n5=0∧k5=0) (w:World) (hE:O.Es w w.heap.size a5 n5 es) :
  Calls Tryz.prog 56 #[.agg #[.int .i64 num,.int .i64 op,.slice a5 n5 k5,.int .i64 v]] w fun e w'=>∃ a c,e=.returned (.agg #[.int .i64 num,.int .i64 op,.slice a n5 c,.int .i64 v])∧w'.ownsRow w.heap.size 107 2 (.slice a n5 c) n5 (O.ecells es)∧Below w.heap.size w w':=by
 obtain ⟨W,hW⟩:=ex0 ((w.alloc (.cells #[.int .i64 num,.int .i64 op,.slice a5 n5 k5,.int .i64 v] 30)).alloc (.cells #[.int .i64 0,.int .i64 0,.slice none 0 0,.int .i64 0] 30))
 have bW:Below w.heap.size w W:=by rw [hW];exact (belA _ _).alloc (by simp) _
 have X:BxA W w.heap.size 30 #[.int .i64 num,.int .i64 op,.slice a5 n5 k5,.int .i64 v]:=by rw [hW];exact (BxA.new w _ _).up (belA _ _)
 have Y:BxA W (w.heap.size+1) 30 #[.int .i64 0,.int .i64 0,.slice none 0 0,.int .i64 0]:=by
  have:=BxA.new (w.alloc (.cells #[.int .i64 num,.int .i64 op,.slice a5 n5 k5,.int .i64 v] 30)) 30 #[.int .i64 0,.int .i64 0,.slice none 0 0,.int .i64 0]
  rw [show (w.alloc (.cells #[.int .i64 num,.int .i64 op,.slice a5 n5 k5,.int .i64 v] 30)).heap.size=w.heap.size+1 by simp] at this
  rw [hW];exact this
 have HX:=hideIt X
 have HY:=hideIt Y
 have HB:=hideIt bW
 have HE:=hideIt (hE.up bW)
 have lwW:w.heap.size+1<W.heap.size:=Y.lt
 have lx:w.heap.size<W.heap.size:=by omega
 have x2:=X.cell 2 rfl
 clear X Y bW hE
 go_enter Tryz.func56,Tryz.ntmps56
 go_upto_region 1 with fail
 rw [← hW]
 clear hW
 go_wp2_with (at_builtin;refine cpE20 _ _ rfl rfl rfl es a5 n5 k5 rfl HE.out hn hz ?_;intro a' c' w1 ho hb;refine Hid.out ?_)
 refine hidp20 ?_
 have X1:=HX.out.up hb
 have Y1:=HY.out.up hb
 have y2:=X1.cell 2 rfl
 have f2:=X1.frozen 2
 have HO:=hideIt (own_mono ho (show w.heap.size+2≤W.heap.size by omega))
 have HB1:=hideIt (HB.out.trans (hb.mono HB.out.size))
 have l1:=hb.size
 clear ho hb x2 HE HB
 go_upto_region 2 with fail
 obtain ⟨W2,hW2⟩:=ex0 (w1.setCell ⟨w.heap.size,2,none⟩ (.slice a' n5 c'))
 rw [← hW2]
 have X2:BxA W2 w.heap.size 30 #[.int .i64 num,.int .i64 op,.slice a' n5 c',.int .i64 v]:=by rw [hW2];exact X1.set 2 _
 have Y2:BxA W2 (w.heap.size+1) 30 #[.int .i64 0,.int .i64 0,.slice none 0 0,.int .i64 0]:=by rw [hW2];exact Y1.setO _ (by omega)
 have HO2:Hid (W2.ownsRow (w.heap.size+2) 107 2 (.slice a' n5 c') n5 (O.ecells es)):=by show World.ownsRow _ _ _ _ _ _ _;rw [hW2];exact own_lowA HO.out (by omega)
 have HB2:Hid (Below w.heap.size w W2):=by show Below _ _ _;rw [hW2];exact Below.setCell HB1.out (p:=⟨w.heap.size,2,none⟩) (Nat.le_refl _) _
 have i0:=X2.cell 0 rfl
 have i1:=X2.cell 1 rfl
 have i2:=X2.cell 2 rfl
 have i3:=X2.cell 3 rfl
 have j0:=Y2.cell 0 rfl
 have j1:=Y2.cell 1 rfl
 have j2:=Y2.cell 2 rfl
 have j3:=Y2.cell 3 rfl
 have g0:=Y2.frozen 0
 have g1:=Y2.frozen 1
 have g2:=Y2.frozen 2
 have g3:=Y2.frozen 3
 have lY:=Y2.lt
 have HYv:=hideIt Y2
 clear hW2 X1 Y1 X2 Y2 HX HY HO HB1 y2 f2
 go_wp2
 have XF:=BxA.setA (l:=[.int .i64 0,.int .i64 0,.slice none 0 0,.int .i64 0]) HYv.out 0 [.int .i64 num,.int .i64 op,.slice a' n5 c',.int .i64 v]
 have s0:=XF.at 0 rfl
 have s1:=XF.at 1 rfl
 have s2:=XF.at 2 rfl
 have s3:=XF.at 3 rfl
 dsimp only [setA] at s0 s1 s2 s3
 refine bodyPost_ret (v:=.agg #[.int .i64 num,.int .i64 op,.slice a' n5 c',.int .i64 v]) (by simp [results,Tryz.results56,go_sem,s0,s1,s2,s3]) rfl ⟨a',c',rfl,?_,?_⟩
 ·exact own_mono (own_lowA (own_lowA (own_lowA (own_lowA HO2.out (by omega)) (by omega)) (by omega)) (by omega)) (by omega)
 ·exact Below.setCell (Below.setCell (Below.setCell (Below.setCell HB2.out (p:=⟨w.heap.size+1,0,none⟩) (by show w.heap.size≤w.heap.size+1;omega) _) (p:=⟨w.heap.size+1,1,none⟩) (by show w.heap.size≤w.heap.size+1;omega) _) (p:=⟨w.heap.size+1,2,none⟩) (by show w.heap.size≤w.heap.size+1;omega) _) (p:=⟨w.heap.size+1,3,none⟩) (by show w.heap.size≤w.heap.size+1;omega) _
structure CqS (w:World) (h:Hd) (q:Hp) (x:World):Prop where
 b:BxA x w.heap.size 35 (hC h q)
 z:BxA x (w.heap.size+1) 35 (hC zeroH zeroP)
 f:Below w.heap.size w x
section
variable {w x y:World} {h:Hd} {q q':Hp}
theorem CqS.lt (k:CqS w h q x):w.heap.size+2≤x.heap.size:=k.z.lt
theorem CqS.up (k:CqS w h q x) (hb:Below x.heap.size x y):CqS w h q y:=⟨k.b.up hb,k.z.up hb,k.f.trans (hb.mono k.f.size)⟩
theorem CqS.set (k:CqS w h q x) (off:Nat) (v:Value) (e:(hC h q).setIfInBounds off v=hC h q'):CqS w h q' (x.setCell ⟨w.heap.size,off,none⟩ v) :=
 ⟨by have:=k.b.set off v;rw [e] at this;exact this,k.z.setO v (by omega),Below.setCell k.f (p:=⟨w.heap.size,off,none⟩) (Nat.le_refl _) v⟩
end
theorem FB.made20 (u:World):FB (u.alloc (.cells #[] 24)) u.heap.size (u.alloc (.cells #[] 24)).heap.size (some ⟨u.heap.size,0,none⟩) 0 0 [] :=
 ⟨rfl,World.ownsRow_made (base:=u.heap.size) u #[] 0 (Nat.le_refl _) (by unfold maxLen;omega) rfl,fun g hg=>by simp [Value.ownBlock] at hg;subst hg;simp,Nat.le_refl _,by simp,List.Pairwise.nil⟩
theorem apH20 {ops:Array Oper} {rest:List Oper} {o:Oper} {a:Act} {Q:Exit→Act→World→Prop} {u:World} (s x:Operand) (hgd:o.guard=none) (ho:o.op=.call { callee:=.builtin .append,args:=#[s,x],argTypes:=#[26,26] }) {al:Option Addr} {n c:Nat} (hs:a.eval s=.slice al n c) (hx:a.eval x=.slice (some ⟨u.heap.size,0,none⟩) 1 1)
  {lo:Nat} {R:List Rw} (F:FB u lo u.heap.size al n c R) {r:Rw} (hr:RwB u r) (hl:lo≤r.g) (hne:∀ x ∈ R,x.g≠r.g) (hn:n≤3)
  (h:∀ a' c' u',FB u' lo u'.heap.size a' (n+1) c' (R ++ [r])→(u.alloc (.cells #[r.hdr] 24)).grownBy u' (Value.slice al n c).ownBlock→wpList Tryz.prog ops Q rest (a.put o.dst (.slice a' (n+1) c')) u'):wpList Tryz.prog ops Q (o :: rest) a (u.alloc (.cells #[r.hdr] 24)):=by
 obtain ⟨i1,hi',hy0,hy1,hy2⟩:=info_parts infoIT
 refine wpList_append_own _ hgd s x 26 ho lo 24 i1 _ 1 24 Tryz.underlying26 hi' hy0 hy1 hy2 rfl (by decide) _ _ _ hs (F.own.alloc (.cells #[r.hdr] 24)) ⟨u.heap.size,0,none⟩ 1 1 [r.hdr] hx rfl (newsH u _) (by intro v hv;simp at hv;subst hv;rfl) (by unfold maxLen;omega) (by omega) (by have:=F.there;have:=hr.lt;simp;omega) ?_
 intro v' w' h2 h3 _
 obtain ⟨a',c',rfl,hF⟩:=F.app hr hl hne h2 h3
 exact h a' c' w' hF h3
set_option maxRecDepth 100000 in
set_option maxHeartbeats 16000000 in
theorem l12Copy_inv {S:Nat} {h:Hd} {p:Hp} (w:World) (R0:HR S w h p) :
  Calls Tryz.prog 23 #[.agg (hC h p)] w fun e w'=>∃ p' R,e=.returned (.agg (hC h p'))∧HW w' w.heap.size h p' R∧Below w.heap.size w w':=by
 have hln:=R0.inv.lens R0.inn
 have hel:=R0.elen
 have hsS:=R0.inv.s
 have HLn:Hid (p.o.n≤12∧p.c.n≤66∧p.l.n≤3∧p.n.n≤3∧p.e.n≤66∧p.s.n≤80∧h.lab.length=p.l.n):=by
  have:=R0.inv.n
  refine ⟨by omega,by omega,by omega,by omega,by omega,by omega,by omega⟩
 have HIn:Hid (∀ u,Below w.heap.size w u→HIn u h p):=fun u hu=>R0.inn.up hu
 have HZo:Hid (p.o.a=none→p.o.n=0∧p.o.c=0):=sl_nil R0.so
 have HZc:Hid (p.c.a=none→p.c.n=0∧p.c.c=0):=sl_nil R0.sc
 have HZn:Hid (p.n.a=none→p.n.n=0∧p.n.c=0):=sl_nil R0.sn
 have HZe:Hid (p.e.a=none→p.e.n=0∧p.e.c=0):=sl_nil R0.se
 have HZs:Hid (p.s.a=none→p.s.n=0∧p.s.c=0):=sl_nil R0.ss
 have HLb:Hid (∀ l ∈ h.lab,1≤l.length∧l.length≤12):=fun l hl=>by
  have h1:=(O.lB_bytes R0.inv.n.2 (R0.inv.lab.2 l hl)).1
  have:=R0.inv.n
  omega
 obtain ⟨W0,hW0⟩:=ex0 ((w.alloc (.cells (hC h p) 35)).alloc (.cells #[.int .i64 0,.slice none 0 0,.slice none 0 0,.slice none 0 0,.slice none 0 0,.int .i64 0,.int .i64 0,.int .i64 0,.int .i64 0,.int .i64 0,.int .i64 0,.int .i64 0,.slice none 0 0,.int .i64 0,.slice none 0 0] 35))
 have H0:Hid (CqS w h ⟨p.o,p.c,p.l,p.n,p.e,p.s⟩ W0):=by
  have h0:=(BxA.new w 35 (hC h p)).up (belA _ (.cells #[.int .i64 0,.slice none 0 0,.slice none 0 0,.slice none 0 0,.slice none 0 0,.int .i64 0,.int .i64 0,.int .i64 0,.int .i64 0,.int .i64 0,.int .i64 0,.int .i64 0,.slice none 0 0,.int .i64 0,.slice none 0 0] 35))
  have h1:=BxA.new (w.alloc (.cells (hC h p) 35)) 35 #[.int .i64 0,.slice none 0 0,.slice none 0 0,.slice none 0 0,.slice none 0 0,.int .i64 0,.int .i64 0,.int .i64 0,.int .i64 0,.int .i64 0,.int .i64 0,.int .i64 0,.slice none 0 0,.int .i64 0,.slice none 0 0]
  rw [show (w.alloc (.cells (hC h p) 35)).heap.size=w.heap.size+1 by simp] at h1
  show CqS _ _ _ _
  rw [hW0]
  exact ⟨h0,h1,(belA _ _).alloc (by simp) _⟩
 clear R0 hln hel hsS
 go_enter Tryz.func23,Tryz.ntmps23
 go_upto_region 1 with fail
 rw [← hW0]
 clear hW0
 have e1:=H0.out.b.cell 1 rfl
 have f1:=H0.out.b.frozen 1
 have g1:w.heap.size<W0.heap.size:=H0.out.b.lt
 go_upto_region 1 with fail
 go_wp2_with (at_builtin;refine cpI20 _ _ rfl rfl rfl h.own p.o.a p.o.n p.o.c rfl (HIn.out _ H0.out.f).o (by have:=HLn.out;omega) (HZo.out) ?_;intro x1 z1 u1 ho hb;refine Hid.out ?_)
 refine hidp20 ?_
 have B1:=H0.out.up hb
 have d1:=B1.b.cell 1 rfl
 have k1:=B1.b.frozen 1
 have qO1:=own_mono ho (show w.heap.size+2≤W0.heap.size from H0.out.lt)
 clear e1 f1 g1 ho hb 
 go_upto_region 2 with fail
 obtain ⟨W1,hW1⟩:∃ W,W=u1.setCell ⟨w.heap.size,1,none⟩ (.slice x1 p.o.n z1):=⟨_,rfl⟩
 rw [← hW1]
 have H1:Hid (CqS w h ⟨⟨x1,p.o.n,z1⟩,p.c,p.l,p.n,p.e,p.s⟩ W1):=by show CqS _ _ _ _;rw [hW1];exact B1.set 1 _ rfl
 have O1:Hid (W1.ownsRow (w.heap.size+2) 3 1 (.slice x1 p.o.n z1) p.o.n (ic h.own)):=by show World.ownsRow _ _ _ _ _ _ _;rw [hW1];exact own_lowA qO1 (by omega)
 clear hW1 B1 d1 k1 H0 qO1
 have e2:=H1.out.b.cell 2 rfl
 have f2:=H1.out.b.frozen 2
 have g2:w.heap.size<W1.heap.size:=H1.out.b.lt
 go_upto_region 2 with fail
 go_wp2_with (at_builtin;refine cpE20 _ _ rfl rfl rfl h.cuts p.c.a p.c.n p.c.c rfl (HIn.out _ H1.out.f).c (by have:=HLn.out;omega) (HZc.out) ?_;intro x2 z2 u2 ho hb;refine Hid.out ?_)
 refine hidp20 ?_
 have B2:=H1.out.up hb
 have d2:=B2.b.cell 2 rfl
 have k2:=B2.b.frozen 2
 have qO1:=own_up O1.out hb
 have qO2:=own_mono ho (show w.heap.size+2≤W1.heap.size from H1.out.lt)
 clear e2 f2 g2 ho hb O1
 go_upto_region 3 with fail
 obtain ⟨W2,hW2⟩:∃ W,W=u2.setCell ⟨w.heap.size,2,none⟩ (.slice x2 p.c.n z2):=⟨_,rfl⟩
 rw [← hW2]
 have H2:Hid (CqS w h ⟨⟨x1,p.o.n,z1⟩,⟨x2,p.c.n,z2⟩,p.l,p.n,p.e,p.s⟩ W2):=by show CqS _ _ _ _;rw [hW2];exact B2.set 2 _ rfl
 have O1:Hid (W2.ownsRow (w.heap.size+2) 3 1 (.slice x1 p.o.n z1) p.o.n (ic h.own)):=by show World.ownsRow _ _ _ _ _ _ _;rw [hW2];exact own_lowA qO1 (by omega)
 have O2:Hid (W2.ownsRow (w.heap.size+2) 107 2 (.slice x2 p.c.n z2) p.c.n (O.ecells h.cuts)):=by show World.ownsRow _ _ _ _ _ _ _;rw [hW2];exact own_lowA qO2 (by omega)
 clear hW2 B2 d2 k2 H1 qO1 qO2
 have e3:=H2.out.b.cell 4 rfl
 have f3:=H2.out.b.frozen 4
 have g3:w.heap.size<W2.heap.size:=H2.out.b.lt
 go_upto_region 3 with fail
 go_wp2_with (at_builtin;refine cpI20 _ _ rfl rfl rfl h.nums p.n.a p.n.n p.n.c rfl (HIn.out _ H2.out.f).n (by have:=HLn.out;omega) (HZn.out) ?_;intro x3 z3 u3 ho hb;refine Hid.out ?_)
 refine hidp20 ?_
 have B3:=H2.out.up hb
 have d3:=B3.b.cell 4 rfl
 have k3:=B3.b.frozen 4
 have qO1:=own_up O1.out hb
 have qO2:=own_up O2.out hb
 have qO3:=own_mono ho (show w.heap.size+2≤W2.heap.size from H2.out.lt)
 have HS13:Hid (∀ b,(Value.slice x1 p.o.n z1).ownBlock=some b→(Value.slice x3 p.n.n z3).ownBlock≠some b):=fun b h1 h2=>by have:=(O1.out.lt b h1).2;have:=(ho.lt b h2).1;omega
 clear e3 f3 g3 ho hb O1 O2
 go_upto_region 4 with fail
 obtain ⟨W3,hW3⟩:∃ W,W=u3.setCell ⟨w.heap.size,4,none⟩ (.slice x3 p.n.n z3):=⟨_,rfl⟩
 rw [← hW3]
 have H3:Hid (CqS w h ⟨⟨x1,p.o.n,z1⟩,⟨x2,p.c.n,z2⟩,p.l,⟨x3,p.n.n,z3⟩,p.e,p.s⟩ W3):=by show CqS _ _ _ _;rw [hW3];exact B3.set 4 _ rfl
 have O1:Hid (W3.ownsRow (w.heap.size+2) 3 1 (.slice x1 p.o.n z1) p.o.n (ic h.own)):=by show World.ownsRow _ _ _ _ _ _ _;rw [hW3];exact own_lowA qO1 (by omega)
 have O2:Hid (W3.ownsRow (w.heap.size+2) 107 2 (.slice x2 p.c.n z2) p.c.n (O.ecells h.cuts)):=by show World.ownsRow _ _ _ _ _ _ _;rw [hW3];exact own_lowA qO2 (by omega)
 have O3:Hid (W3.ownsRow (w.heap.size+2) 3 1 (.slice x3 p.n.n z3) p.n.n (ic h.nums)):=by show World.ownsRow _ _ _ _ _ _ _;rw [hW3];exact own_lowA qO3 (by omega)
 clear hW3 B3 d3 k3 H2 qO1 qO2 qO3
 have e4:=H3.out.b.cell 14 rfl
 have f4:=H3.out.b.frozen 14
 have g4:w.heap.size<W3.heap.size:=H3.out.b.lt
 go_upto_region 4 with fail
 go_wp2_with (at_builtin;refine cpS20 _ _ rfl rfl rfl h.said p.s.a p.s.n p.s.c rfl (HIn.out _ H3.out.f).s (by have:=HLn.out;omega) (HZs.out) ?_;intro x4 z4 u4 ho hb;refine Hid.out ?_)
 refine hidp20 ?_
 have B4:=H3.out.up hb
 have d4:=B4.b.cell 14 rfl
 have k4:=B4.b.frozen 14
 have qO1:=own_up O1.out hb
 have qO2:=own_up O2.out hb
 have qO3:=own_up O3.out hb
 have qO4:=own_mono ho (show w.heap.size+2≤W3.heap.size from H3.out.lt)
 clear e4 f4 g4 ho hb O1 O2 O3
 go_upto_region 5 with fail
 obtain ⟨W4,hW4⟩:∃ W,W=u4.setCell ⟨w.heap.size,14,none⟩ (.slice x4 p.s.n z4):=⟨_,rfl⟩
 rw [← hW4]
 have H4:Hid (CqS w h ⟨⟨x1,p.o.n,z1⟩,⟨x2,p.c.n,z2⟩,p.l,⟨x3,p.n.n,z3⟩,p.e,⟨x4,p.s.n,z4⟩⟩ W4):=by show CqS _ _ _ _;rw [hW4];exact B4.set 14 _ rfl
 have O1:Hid (W4.ownsRow (w.heap.size+2) 3 1 (.slice x1 p.o.n z1) p.o.n (ic h.own)):=by show World.ownsRow _ _ _ _ _ _ _;rw [hW4];exact own_lowA qO1 (by omega)
 have O2:Hid (W4.ownsRow (w.heap.size+2) 107 2 (.slice x2 p.c.n z2) p.c.n (O.ecells h.cuts)):=by show World.ownsRow _ _ _ _ _ _ _;rw [hW4];exact own_lowA qO2 (by omega)
 have O3:Hid (W4.ownsRow (w.heap.size+2) 3 1 (.slice x3 p.n.n z3) p.n.n (ic h.nums)):=by show World.ownsRow _ _ _ _ _ _ _;rw [hW4];exact own_lowA qO3 (by omega)
 have O4:Hid (W4.ownsRow (w.heap.size+2) 82 6 (.slice x4 p.s.n z4) p.s.n (scells h.said)):=by show World.ownsRow _ _ _ _ _ _ _;rw [hW4];exact own_lowA qO4 (by omega)
 clear hW4 B4 d4 k4 H3 qO1 qO2 qO3 qO4
 go_upto_region 6 with fail
 obtain ⟨ZA,hZA⟩:=ex0 (W4.alloc (.cells #[] 24))
 rw [← hZA]
 have bZ:Below W4.heap.size W4 ZA:=by rw [hZA];exact belA _ _
 have HF0:Hid (FB ZA W4.heap.size ZA.heap.size (some ⟨W4.heap.size,0,none⟩) 0 0 []):=by show FB _ _ _ _ _ _ _;rw [hZA];exact FB.made20 W4
 have HK0:Hid (Below W4.heap.size W4 ZA):=bZ
 have HR:Hid (∀ u,Below W4.heap.size W4 u→CqS w h ⟨⟨x1,p.o.n,z1⟩,⟨x2,p.c.n,z2⟩,p.l,⟨x3,p.n.n,z3⟩,p.e,⟨x4,p.s.n,z4⟩⟩ u∧(u.ownsRow (w.heap.size+2) 3 1 (.slice x1 p.o.n z1) p.o.n (ic h.own)∧u.ownsRow (w.heap.size+2) 107 2 (.slice x2 p.c.n z2) p.c.n (O.ecells h.cuts))∧u.ownsRow (w.heap.size+2) 3 1 (.slice x3 p.n.n z3) p.n.n (ic h.nums)∧u.ownsRow (w.heap.size+2) 82 6 (.slice x4 p.s.n z4) p.s.n (scells h.said)):=fun u hu=>⟨H4.out.up hu,⟨own_up O1.out hu,own_up O2.out hu⟩,own_up O3.out hu,own_up O4.out hu⟩
 have HB13:Hid ((∀ b,(Value.slice x1 p.o.n z1).ownBlock=some b→b<W4.heap.size)∧∀ b,(Value.slice x3 p.n.n z3).ownBlock=some b→b<W4.heap.size):=⟨fun b hb=>(O1.out.lt b hb).2,fun b hb=>(O3.out.lt b hb).2⟩
 have HL4:Hid (w.heap.size+2≤W4.heap.size):=H4.out.lt
 have n3:=HLn.out.2.2.1
 clear hZA bZ H4 O1 O2 O3 O4
 go_wp2
 go_loopw [3,4] (fun l i wr=>∃ (j:Nat) (a:Option Addr) (c:Nat) (R:List Rw),j≤p.l.n∧l=.slice a j c∧i=.int .i64 (j:Int)∧Hid (rts R=h.lab.take j)∧Hid (FB wr W4.heap.size wr.heap.size a j c R)∧Hid (Below W4.heap.size W4 wr)) (fun _ i _=>p.l.n - (intOf i).toNat)
 case atStart=>exact ⟨0,_,0,[],by omega,rfl,rfl,by show _=_;simp [rts],HF0,HK0⟩
 case round =>
  obtain ⟨j,a,c,R,hj,rfl,rfl,HTk,hF,hK⟩:=hrel
  clear HF0 HK0
  by_cases hlt:j<p.l.n
  ·have e3:wr.cell? ⟨w.heap.size,3,none⟩=some (.slice p.l.a p.l.n p.l.c):=(HR.out wr hK.out).1.b.cell 3 rfl
   have lg:w.heap.size<wr.heap.size:=(HR.out wr hK.out).1.b.lt
   rcases (HIn.out wr (HR.out wr hK.out).1.f).l.2 with h0 | ⟨b,off,ea,hbl,hcl⟩
   ·omega
   obtain ⟨ls,hls⟩:∃ ls,h.lab[j]?=some ls:=⟨h.lab[j]'(by have:=HLn.out;omega),List.getElem?_eq_getElem (by have:=HLn.out;omega)⟩
   obtain ⟨al,cl,cx,hIs,_⟩:=hcl j _ hls
   have h1l:=HLb.out ls (List.mem_of_getElem? hls)
   have hzl:al=none→ls.length=0∧cl=0:=fun ha=>by
    rcases hIs.2 with h0 | ⟨b',off',hb',_⟩
    ·omega
    ·rw [ha] at hb';cases hb'
   rw [ea] at e3
   have b1:(0:Int)≤(j:Int):=by omega
   have b2:(j:Int)<(p.l.n:Int):=by omega
   have HIs:=hideIt hIs
   have HT2:Hid (∀ r:Rw,r.t=ls→rts (R ++ [r])=h.lab.take (j+1)):=fun r hr=>by rw [rts_snoc,HTk.out,take_snocF h.lab j ls hls,hr]
   clear hcl hIs hls HTk ea
   go_wp2_with (at_builtin;refine cpI20 _ _ rfl rfl rfl ls al ls.length cl rfl HIs.out (by omega) hzl ?_;intro xg zc u1 ho hb;refine Hid.out ?_)
   refine hidp20 ?_
   obtain ⟨g,rfl⟩:∃ g,xg=some ⟨g,0,none⟩:=by
    rcases ho.2 with ⟨hv,_⟩ | ⟨g,cap,cur,hv,_⟩
    ·have:=ho.1
     rw [ic_len] at this
     simp only [Value.slice.injEq] at hv
     omega
    ·simp only [Value.slice.injEq] at hv
     exact ⟨g,hv.1⟩
   have F1:FB u1 W4.heap.size u1.heap.size a j c R:=hF.out.keep hb
   have K1:Below W4.heap.size W4 u1:=hK.out.trans (hb.mono hK.out.size)
   have hr1:RwB u1 ⟨g,zc,ls⟩:=RwB.of_own ho
   have hg1:=(ho.lt g rfl).1
   have HAp:Hid (∀ a' c' u',FB u' W4.heap.size u'.heap.size a' (j+1) c' (R ++ [⟨g,zc,ls⟩])→(u1.alloc (.cells #[Rw.hdr ⟨g,zc,ls⟩] 24)).grownBy u' (Value.slice a j c).ownBlock→Hid (Below W4.heap.size W4 u')):=fun a' c' u' hF' hg' =>
    Below.grown (K1.alloc K1.size _) hg' (by have:=K1.size;simp;omega) (fun b hb2=>(F1.own.lt b hb2).1)
   have HF1:=hideIt F1
   have Hr1:=hideIt hr1
   have hl1:W4.heap.size≤g:=Nat.le_trans hK.out.size hg1
   have hne1:Hid (∀ x ∈ R,x.g≠g):=fun x hx e=>by have:=(hF.out.ins x hx).2.2;omega
   clear e3 cx HIs ho hb F1 K1 hr1 hF hK
   go_wp2_with (at_builtin;refine apH20 (r:=⟨g,zc,ls⟩) _ _ rfl rfl rfl rfl HF1.out Hr1.out hl1 hne1.out (by omega) ?_;intro a' c' u' hF' hg';refine Hid.out ?_)
   refine hidp20 ?_
   have HA:=HAp.out a' c' u' hF' hg'
   have HF2:=hideIt hF'
   clear hF' hg' HAp
   go_wp2
   exact ⟨⟨j+1,a',c',_,by omega,rfl,by go_num,HT2.out _ rfl,HF2,HA⟩,by simp [intOf];omega⟩
  ·have ej:Hid (j=p.l.n):=by show j=p.l.n;omega
   have HTf:Hid (rts R=h.lab):=by show _=_;rw [HTk.out,List.take_of_length_le (by have:=HLn.out;omega)]
   have K:=(HR.out wr hK.out).1
   have e3:=K.b.cell 3 rfl
   have f3:=K.b.frozen 3
   have l3:wr.cell? ⟨w.heap.size,3,none⟩=some (.slice p.l.a p.l.n p.l.c):=e3
   have lg:w.heap.size<wr.heap.size:=K.b.lt
   have dj:decide ((j:Int)<(p.l.n:Int))=false:=decide_eq_false (by omega)
   clear HTk K
   go_upto_region 11 with fail
   obtain ⟨ZB,hZB⟩:=ex0 (wr.setCell ⟨w.heap.size,3,none⟩ (.slice a j c))
   rw [← hZB]
   have KB:CqS w h ⟨⟨x1,p.o.n,z1⟩,⟨x2,p.c.n,z2⟩,⟨a,j,c⟩,⟨x3,p.n.n,z3⟩,p.e,⟨x4,p.s.n,z4⟩⟩ ZB:=by rw [hZB];exact (HR.out wr hK.out).1.set 3 _ rfl
   have r1:ZB.ownsRow (w.heap.size+2) 3 1 (.slice x1 p.o.n z1) p.o.n (ic h.own):=by rw [hZB];exact own_lowA (HR.out wr hK.out).2.1.1 (by omega)
   have r2:ZB.ownsRow (w.heap.size+2) 107 2 (.slice x2 p.c.n z2) p.c.n (O.ecells h.cuts):=by rw [hZB];exact own_lowA (HR.out wr hK.out).2.1.2 (by omega)
   have r3:ZB.ownsRow (w.heap.size+2) 3 1 (.slice x3 p.n.n z3) p.n.n (ic h.nums):=by rw [hZB];exact own_lowA (HR.out wr hK.out).2.2.1 (by omega)
   have r4:ZB.ownsRow (w.heap.size+2) 82 6 (.slice x4 p.s.n z4) p.s.n (scells h.said):=by rw [hZB];exact own_lowA (HR.out wr hK.out).2.2.2 (by omega)
   have rF:FB ZB W4.heap.size ZB.heap.size a j c R:=by
    rw [hZB]
    exact hF.out.grB (grownSet wr w.heap.size 3 (.slice a j c)) (by have:=HL4.out;omega)
   have HCO:=hideIt (copyOrder20 h.num h.op h.v h.es p.e.a p.e.n p.e.c (by have:=HLn.out;omega) HZe.out ZB (HIn.out ZB KB.f).e)
   have HR5:=hideIt (And.intro (And.intro r1 r2) (And.intro r3 r4))
   have HrF:=hideIt rF
   have HKB:=hideIt KB
   have z10:=KB.b.cell 10 rfl
   have z11:=KB.b.cell 11 rfl
   have z12:=KB.b.cell 12 rfl
   have z13:=KB.b.cell 13 rfl
   clear hZB KB r1 r2 r3 r4 rF hF hK HR e3 f3 l3 lg
   go_wp2_with (go_at_call 56;refine HCO.out.mono ?_;rintro e u9 ⟨x5,z5,rfl,ho5,hb5⟩;refine Hid.out ?_)
   refine hidp20 ?_
   have KC:=HKB.out.up hb5
   have HKC:=hideIt KC
   have HCE:Hid (∀ b,(Value.slice x2 p.c.n z2).ownBlock=some b→(Value.slice x5 p.e.n z5).ownBlock≠some b):=fun b h1 h2=>by have:=(HR5.out.1.2.lt b h1).2;have:=(ho5.lt b h2).1;omega
   have HR6:Hid (((u9.ownsRow (w.heap.size+2) 3 1 (.slice x1 p.o.n z1) p.o.n (ic h.own))∧(u9.ownsRow (w.heap.size+2) 107 2 (.slice x2 p.c.n z2) p.c.n (O.ecells h.cuts)))∧(u9.ownsRow (w.heap.size+2) 3 1 (.slice x3 p.n.n z3) p.n.n (ic h.nums))∧(u9.ownsRow (w.heap.size+2) 82 6 (.slice x4 p.s.n z4) p.s.n (scells h.said))):=⟨⟨own_up HR5.out.1.1 hb5,own_up HR5.out.1.2 hb5⟩,own_up HR5.out.2.1 hb5,own_up HR5.out.2.2 hb5⟩
   have HO5:=hideIt (own_mono ho5 (show w.heap.size+2≤ZB.heap.size from HKB.out.lt))
   have HrF6:=hideIt (HrF.out.keep hb5)
   have k10:=KC.b.cell 10 rfl
   have k11:=KC.b.cell 11 rfl
   have k12:=KC.b.cell 12 rfl
   have k13:=KC.b.cell 13 rfl
   have f10:=KC.b.frozen 10
   have f11:=KC.b.frozen 11
   have f12:=KC.b.frozen 12
   have f13:=KC.b.frozen 13
   have lg:=KC.b.lt
   clear KC ho5 hb5 HR5 HrF HKB HCO z10 z11 z12 z13
   go_upto_region 12 with fail
   obtain ⟨ZC,hZC⟩:=ex0 (((((u9.setCell ⟨w.heap.size,10,none⟩ (.int .i64 h.num)).setCell ⟨w.heap.size,11,none⟩ (.int .i64 h.op)).setCell ⟨w.heap.size,12,none⟩ (.slice x5 p.e.n z5)).setCell ⟨w.heap.size,13,none⟩ (.int .i64 h.v)))
   rw [← hZC]
   have hlo:w.heap.size<w.heap.size+2:=by omega
   have KD:CqS w h ⟨⟨x1,p.o.n,z1⟩,⟨x2,p.c.n,z2⟩,⟨a,j,c⟩,⟨x3,p.n.n,z3⟩,⟨x5,p.e.n,z5⟩,⟨x4,p.s.n,z4⟩⟩ ZC:=by
    rw [hZC]
    exact (((HKC.out.set (q':=⟨⟨x1,p.o.n,z1⟩,⟨x2,p.c.n,z2⟩,⟨a,j,c⟩,⟨x3,p.n.n,z3⟩,p.e,⟨x4,p.s.n,z4⟩⟩) 10 _ rfl).set (q':=⟨⟨x1,p.o.n,z1⟩,⟨x2,p.c.n,z2⟩,⟨a,j,c⟩,⟨x3,p.n.n,z3⟩,p.e,⟨x4,p.s.n,z4⟩⟩) 11 _ rfl).set (q':=⟨⟨x1,p.o.n,z1⟩,⟨x2,p.c.n,z2⟩,⟨a,j,c⟩,⟨x3,p.n.n,z3⟩,⟨x5,p.e.n,z5⟩,⟨x4,p.s.n,z4⟩⟩) 12 _ rfl).set 13 _ rfl
   have L4:∀ {B e s n:Nat} {v:Value} {xs:List Value},w.heap.size<B→u9.ownsRow B e s v n xs→ZC.ownsRow B e s v n xs:=fun hB hx=>by rw [hZC];exact own_lowA (own_lowA (own_lowA (own_lowA hx hB) hB) hB) hB
   have hFZ:FB ZC W4.heap.size ZC.heap.size a j c R:=by
    have hB:w.heap.size<W4.heap.size:=by have:=HL4.out;omega
    rw [hZC]
    exact (((HrF6.out.grB (grownSet _ _ _ _) hB).grB (grownSet _ _ _ _) hB).grB (grownSet _ _ _ _) hB).grB (grownSet _ _ _ _) hB
   have HWZ:Hid (HW ZC (w.heap.size+2) h ⟨⟨x1,p.o.n,z1⟩,⟨x2,p.c.n,z2⟩,⟨a,j,c⟩,⟨x3,p.n.n,z3⟩,⟨x5,p.e.n,z5⟩,⟨x4,p.s.n,z4⟩⟩ R):=⟨⟨L4 hlo HR6.out.1.1,L4 hlo HR6.out.1.2,hFZ.lo HL4.out,HTf.out,L4 hlo HR6.out.2.1,L4 hlo HO5.out,L4 hlo HR6.out.2.2⟩,⟨HS13.out,fun r hr h1=>by have:=HB13.out.1 _ h1;have:=(hFZ.ins r hr).2.1;omega,fun r hr h1=>by have:=HB13.out.2 _ h1;have:=(hFZ.ins r hr).2.1;omega⟩,HCE.out⟩
   have HKD:=hideIt KD
   clear hZC KD L4 hFZ k10 k11 k12 k13 f10 f11 f12 f13 HR6 HO5 HrF6 HKC
   refine wp_region_lit ?_
   go_step
   refine wp_loadH HKD.out.b rfl rfl ?_
   go_step
   go_step
   refine wp_storeH HKD.out.z rfl rfl rfl ?_
   intro v XV gv zv
   have HXV:=hideIt XV
   have HF9:=hideIt (And.intro ((HWZ.out.grB gv (by omega)).low (show w.heap.size≤w.heap.size+2 by omega)) (below_grB HKD.out.f gv (by omega) (Nat.le_refl _)))
   clear XV gv zv
   go_wp2
   exact bodyPost_ret (results_H1 Tryz.results23 rfl HXV.out) rfl ⟨_,R,rfl,HF9.out.1,HF9.out.2⟩
end Go.Proofs.YtnagchanokbgdaaGreat
