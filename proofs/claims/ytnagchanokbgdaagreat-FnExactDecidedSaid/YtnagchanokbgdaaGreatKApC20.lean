/- The program's copy of a head that records lead to. A list laid anew by append onto an empty one. A list laid anew by append onto an empty one: of numbers, of edges, of what is said. -/
import Derived.Test.YtnagchanokbgdaaGreatKHx20
import Derived.Test.YtnagchanokbgdaaGreatKSq0
import Derived.Test.YtnagchanokbgdaaGreatKVerts
import Derived.Laws.AppendOwnNone
import Derived.Deep.AppendLies
namespace Go.Proofs.YtnagchanokbgdaaGreat
open Go.RowKit
theorem set_otherB20 {y:World} {b b' i j:Nat} {v:Value} (hne:b≠b'):(y.setCell ⟨b',j,none⟩ v).cell? ⟨b,i,none⟩=y.cell? ⟨b,i,none⟩:=World.cell?_of_block (w:=y) (Below.heap_setCell _ _ _ _ (by show b≠b';exact hne))
structure CpR (w:World) (h:Hd) (nO nC nN nE nS p1 c1:Nat) (p2:Option Addr) (c2 p3 c3:Nat) (p5:Option Addr) (c5:Nat) (p4:Option Addr) (c4:Nat) (x:World):Prop where
 o:x.ownsRow (w.heap.size+3) 3 1 (.slice (some ⟨p1,0,none⟩) nO c1) nO (ic h.own)
 c:x.ownsRow (w.heap.size+3) 107 2 (.slice p2 nC c2) nC (O.ecells h.cuts)
 n:x.ownsRow (w.heap.size+3) 3 1 (.slice (some ⟨p3,0,none⟩) nN c3) nN (ic h.nums)
 e:x.ownsRow (w.heap.size+3) 107 2 (.slice p5 nE c5) nE (O.ecells h.es)
 s:x.ownsRow (w.heap.size+3) 82 6 (.slice p4 nS c4) nS (scells h.said)
theorem CpR.up {w x y:World} {h:Hd} {nO nC nN nE nS p1 c1:Nat} {p2:Option Addr} {c2 p3 c3:Nat} {p5:Option Addr} {c5:Nat} {p4:Option Addr} {c4:Nat} (k:CpR w h nO nC nN nE nS p1 c1 p2 c2 p3 c3 p5 c5 p4 c4 x) (hb:Below x.heap.size x y):CpR w h nO nC nN nE nS p1 c1 p2 c2 p3 c3 p5 c5 p4 c4 y:=⟨own_up k.o hb,own_up k.c hb,own_up k.n hb,own_up k.e hb,own_up k.s hb⟩
theorem CpR.set {w x:World} {h:Hd} {nO nC nN nE nS p1 c1:Nat} {p2:Option Addr} {c2 p3 c3:Nat} {p5:Option Addr} {c5:Nat} {p4:Option Addr} {c4:Nat} (k:CpR w h nO nC nN nE nS p1 c1 p2 c2 p3 c3 p5 c5 p4 c4 x) (off:Nat) (v:Value):CpR w h nO nC nN nE nS p1 c1 p2 c2 p3 c3 p5 c5 p4 c4 (x.setCell ⟨w.heap.size+1+1,off,none⟩ v):=⟨own_lowA k.o (by omega),own_lowA k.c (by omega),own_lowA k.n (by omega),own_lowA k.e (by omega),own_lowA k.s (by omega)⟩
theorem own_rowNe {x:World} {B e s n B' g m c:Nat} {y:Value} {ys xs:List Value} (h:x.ownsRow B e s y n ys) (hr:x.ownsRow B' 24 1 (.slice (some ⟨g,0,none⟩) m c) m xs) (he:e≠24) (off:Nat) (v:Value):(x.setCell ⟨g,off,none⟩ v).ownsRow B e s y n ys:=by
 refine World.ownsRow.kept h (grownSet x g off v) ?_
 cases hb:y.ownBlock with
 | none=>exact .inl rfl
 | some b=>exact .inr fun e=>rowsNe h hr he b hb (show some g=some b from e.symm)
theorem CpR.row {w x:World} {h:Hd} {nO nC nN nE nS p1 c1:Nat} {p2:Option Addr} {c2 p3 c3:Nat} {p5:Option Addr} {c5:Nat} {p4:Option Addr} {c4:Nat} (k:CpR w h nO nC nN nE nS p1 c1 p2 c2 p3 c3 p5 c5 p4 c4 x) {B g m c:Nat} {xs:List Value} (hr:x.ownsRow B 24 1 (.slice (some ⟨g,0,none⟩) m c) m xs) (off:Nat) (v:Value):CpR w h nO nC nN nE nS p1 c1 p2 c2 p3 c3 p5 c5 p4 c4 (x.setCell ⟨g,off,none⟩ v) :=
 ⟨own_rowNe k.o hr (by decide) off v,own_rowNe k.c hr (by decide) off v,own_rowNe k.n hr (by decide) off v,own_rowNe k.e hr (by decide) off v,own_rowNe k.s hr (by decide) off v⟩
set_option maxRecDepth 100000 in
set_option maxHeartbeats 16000000 in
theorem headCopy_inv {S:Nat} {h:Hd} {p:Hp} (w:World) (R0:HR S w h p) :
  Calls Tryz.prog 89 #[.agg (hC h p)] w fun e w'=>∃ p' R,e=.returned (.agg (hC h p'))∧HW w' w.heap.size h p' R∧Below w.heap.size w w':=by
 have hln:=R0.inv.lens R0.inn
 have hel:=R0.elen
 have hsS:=R0.inv.s
 have hN1:=R0.inv.n
 obtain ⟨pO,pC,⟨aL,nL,cL⟩,pN,pE,pS⟩:=p
 dsimp only at hln hel
 obtain ⟨w2,hw2⟩:∃ w2,w2=((w.alloc (.cells (hC h ⟨pO,pC,⟨aL,nL,cL⟩,pN,pE,pS⟩) 35)).alloc (.cells #[.int .i64 0,.slice none 0 0,.slice none 0 0,.slice none 0 0,.slice none 0 0,.int .i64 0,.int .i64 0,.int .i64 0,.int .i64 0,.int .i64 0,.int .i64 0,.int .i64 0,.slice none 0 0,.int .i64 0,.slice none 0 0] 35)).alloc (.cells #[.int .i64 h.N,.slice pO.a pO.n pO.c,.slice pC.a pC.n pC.c,.slice aL nL cL,.slice pN.a pN.n pN.c,.int .i64 h.i,.int .i64 h.o,.int .i64 h.a,.int .i64 h.b,.int .i64 h.sh,.int .i64 h.num,.int .i64 h.op,.slice pE.a pE.n pE.c,.int .i64 h.v,.slice pS.a pS.n pS.c] 35):=⟨_,rfl⟩
 have B2:CpB w h ⟨pO,pC,⟨aL,nL,cL⟩,pN,pE,pS⟩ ⟨pO,pC,⟨aL,nL,cL⟩,pN,pE,pS⟩ w2:=by
  have h0:=((BxA.new w 35 (hC h ⟨pO,pC,⟨aL,nL,cL⟩,pN,pE,pS⟩)).up (belA _ (.cells #[.int .i64 0,.slice none 0 0,.slice none 0 0,.slice none 0 0,.slice none 0 0,.int .i64 0,.int .i64 0,.int .i64 0,.int .i64 0,.int .i64 0,.int .i64 0,.int .i64 0,.slice none 0 0,.int .i64 0,.slice none 0 0] 35))).up (belA _ (.cells #[.int .i64 h.N,.slice pO.a pO.n pO.c,.slice pC.a pC.n pC.c,.slice aL nL cL,.slice pN.a pN.n pN.c,.int .i64 h.i,.int .i64 h.o,.int .i64 h.a,.int .i64 h.b,.int .i64 h.sh,.int .i64 h.num,.int .i64 h.op,.slice pE.a pE.n pE.c,.int .i64 h.v,.slice pS.a pS.n pS.c] 35))
  have h1:=(BxA.new (w.alloc (.cells (hC h ⟨pO,pC,⟨aL,nL,cL⟩,pN,pE,pS⟩) 35)) 35 #[.int .i64 0,.slice none 0 0,.slice none 0 0,.slice none 0 0,.slice none 0 0,.int .i64 0,.int .i64 0,.int .i64 0,.int .i64 0,.int .i64 0,.int .i64 0,.int .i64 0,.slice none 0 0,.int .i64 0,.slice none 0 0]).up (belA _ (.cells #[.int .i64 h.N,.slice pO.a pO.n pO.c,.slice pC.a pC.n pC.c,.slice aL nL cL,.slice pN.a pN.n pN.c,.int .i64 h.i,.int .i64 h.o,.int .i64 h.a,.int .i64 h.b,.int .i64 h.sh,.int .i64 h.num,.int .i64 h.op,.slice pE.a pE.n pE.c,.int .i64 h.v,.slice pS.a pS.n pS.c] 35))
  have h2:=BxA.new ((w.alloc (.cells (hC h ⟨pO,pC,⟨aL,nL,cL⟩,pN,pE,pS⟩) 35)).alloc (.cells #[.int .i64 0,.slice none 0 0,.slice none 0 0,.slice none 0 0,.slice none 0 0,.int .i64 0,.int .i64 0,.int .i64 0,.int .i64 0,.int .i64 0,.int .i64 0,.int .i64 0,.slice none 0 0,.int .i64 0,.slice none 0 0] 35)) 35 #[.int .i64 h.N,.slice pO.a pO.n pO.c,.slice pC.a pC.n pC.c,.slice aL nL cL,.slice pN.a pN.n pN.c,.int .i64 h.i,.int .i64 h.o,.int .i64 h.a,.int .i64 h.b,.int .i64 h.sh,.int .i64 h.num,.int .i64 h.op,.slice pE.a pE.n pE.c,.int .i64 h.v,.slice pS.a pS.n pS.c]
  rw [show (w.alloc (.cells (hC h ⟨pO,pC,⟨aL,nL,cL⟩,pN,pE,pS⟩) 35)).heap.size=w.heap.size+1 by simp] at h1
  rw [show ((w.alloc (.cells (hC h ⟨pO,pC,⟨aL,nL,cL⟩,pN,pE,pS⟩) 35)).alloc (.cells #[.int .i64 0,.slice none 0 0,.slice none 0 0,.slice none 0 0,.slice none 0 0,.int .i64 0,.int .i64 0,.int .i64 0,.int .i64 0,.int .i64 0,.int .i64 0,.int .i64 0,.slice none 0 0,.int .i64 0,.slice none 0 0] 35)).heap.size=w.heap.size+1+1 by simp] at h2
  rw [hw2]
  exact ⟨h2,h0,h1,(((Below.refl _ _).alloc (Nat.le_refl _) _).alloc (by simp) _).alloc (by simp;omega) _⟩
 have HLt:Hid (w.heap.size+3≤w2.heap.size):=B2.lt
 have BR:Hid (∀ u,Good w2 u→CpB w h ⟨pO,pC,⟨aL,nL,cL⟩,pN,pE,pS⟩ ⟨pO,pC,⟨aL,nL,cL⟩,pN,pE,pS⟩ u):=fun u hu=>B2.up hu
 have HC:Hid (∀ u,Good w2 u→u.cell? ⟨w.heap.size,1,none⟩=some (.slice pO.a pO.n pO.c)∧u.cell? ⟨w.heap.size,2,none⟩=some (.slice pC.a pC.n pC.c)∧u.cell? ⟨w.heap.size,4,none⟩=some (.slice pN.a pN.n pN.c)∧u.cell? ⟨w.heap.size,14,none⟩=some (.slice pS.a pS.n pS.c)):=fun u hu=>⟨(B2.up hu).h.cell 1 rfl,(B2.up hu).h.cell 2 rfl,(B2.up hu).h.cell 4 rfl,(B2.up hu).h.cell 14 rfl⟩
 have HSt:Hid (∀ (y:World) (j:Nat) (v:Value),(y.cell? ⟨w.heap.size,1,none⟩=some (.slice pO.a pO.n pO.c)∧y.cell? ⟨w.heap.size,2,none⟩=some (.slice pC.a pC.n pC.c)∧y.cell? ⟨w.heap.size,4,none⟩=some (.slice pN.a pN.n pN.c)∧y.cell? ⟨w.heap.size,14,none⟩=some (.slice pS.a pS.n pS.c))→(fun u=>u.cell? ⟨w.heap.size,1,none⟩=some (.slice pO.a pO.n pO.c)∧u.cell? ⟨w.heap.size,2,none⟩=some (.slice pC.a pC.n pC.c)∧u.cell? ⟨w.heap.size,4,none⟩=some (.slice pN.a pN.n pN.c)∧u.cell? ⟨w.heap.size,14,none⟩=some (.slice pS.a pS.n pS.c)) (y.setCell ⟨w.heap.size+1+1,j,none⟩ v)):=fun y j v hy=>by
  have hne:w.heap.size≠w.heap.size+1+1:=by omega
  dsimp only
  rw [set_otherB20 hne,set_otherB20 hne,set_otherB20 hne,set_otherB20 hne]
  exact hy
 have hS2:=HC.out _ (Good.refl w2).drew
 have HIn:Hid (∀ u,Below w.heap.size w u→HIn u h ⟨pO,pC,⟨aL,nL,cL⟩,pN,pE,pS⟩):=fun u hu=>R0.inn.up hu
 have HG2:Hid (∀ u,Good w2 u→Below w.heap.size w u):=fun u hu=>Below.trans B2.f (Below.mono hu B2.f.size)
 have HzE:Hid (pE.a=none→pE.n=0∧pE.c=0):=sl_nil R0.se
 have HE66:Hid (pE.n≤3000000):=by show _≤_;omega
 have HCo:Hid (∀ (u:World) (b:Nat),Good w2 u→(u.cell? ⟨b,0,none⟩=some (.slice pO.a pO.n pO.c)∧b<u.heap.size)→Calls Tryz.prog 94 #[.slice (some ⟨b,0,none⟩) 1 1] u fun e v=>∃ g c,e=.returned (.slice (some ⟨g,0,none⟩) pO.n c)∧v.ownsRow u.heap.size 3 1 (.slice (some ⟨g,0,none⟩) pO.n c) pO.n (ic h.own)∧Below u.heap.size u v):=fun u b hu hc =>
  con1I20 _ pO.a pO.n pO.c (by omega) (by omega) (sl_nil R0.so) b u (HIn.out u (HG2.out u hu)).o hc
 have HCn:Hid (∀ (u:World) (b:Nat),Good w2 u→(u.cell? ⟨b,0,none⟩=some (.slice pN.a pN.n pN.c)∧b<u.heap.size)→Calls Tryz.prog 94 #[.slice (some ⟨b,0,none⟩) 1 1] u fun e v=>∃ g c,e=.returned (.slice (some ⟨g,0,none⟩) pN.n c)∧v.ownsRow u.heap.size 3 1 (.slice (some ⟨g,0,none⟩) pN.n c) pN.n (ic h.nums)∧Below u.heap.size u v):=fun u b hu hc =>
  con1I20 _ pN.a pN.n pN.c (by omega) (by omega) (sl_nil R0.sn) b u (HIn.out u (HG2.out u hu)).n hc
 have HCe:Hid (∀ (u:World) (b:Nat),Good w2 u→(u.cell? ⟨b,0,none⟩=some (.slice pC.a pC.n pC.c)∧b<u.heap.size)→Calls Tryz.prog 107 #[.slice (some ⟨b,0,none⟩) 1 1] u fun e v=>∃ a c,e=.returned (.slice a pC.n c)∧v.ownsRow u.heap.size 107 2 (.slice a pC.n c) pC.n (O.ecells h.cuts)∧Below u.heap.size u v):=fun u b hu hc =>
  con1E20 _ pC.a pC.n pC.c (by omega) (sl_nil R0.sc) b u (HIn.out u (HG2.out u hu)).c hc
 have HCs:Hid (∀ (u:World) (b:Nat),Good w2 u→(u.cell? ⟨b,0,none⟩=some (.slice pS.a pS.n pS.c)∧b<u.heap.size)→Calls Tryz.prog 108 #[.slice (some ⟨b,0,none⟩) 1 1] u fun e v=>∃ a c,e=.returned (.slice a pS.n c)∧v.ownsRow u.heap.size 82 6 (.slice a pS.n c) pS.n (scells h.said)∧Below u.heap.size u v):=fun u b hu hc =>
  con1S20 _ pS.a pS.n pS.c (by omega) (sl_nil R0.ss) b u (HIn.out u (HG2.out u hu)).s hc
 have HL:Hid (h.lab.length=nL∧nL=S∧(∀ l ∈ h.lab,(l.length:Int)=h.N)):=⟨hln.2.2.2.2.2.2.2.1,hln.2.2.1,fun l hl=>(O.lB_bytes hN1.2 (R0.inv.lab.2 l hl)).1⟩
 have hsh:nL≤3:=by omega
 obtain ⟨i1,hi',hy0,hy1,hy2⟩:=info_parts infoIT
 have hmk:∀ u:World,(Instr.makeSlice 26 (.int .i64 (nL:Int)) (.int .i64 (nL:Int))).run Tryz.prog u =
   .ok (.slice (some ⟨u.heap.size,0,none⟩) nL nL) (u.alloc (.cells (madeCells #[.slice none 0 0] nL) 24)):=fun u=>by
  have h:=run_make (P:=Tryz.prog) u 26 24 i1 _ Tryz.underlying26 hi' hy0 .i64 .i64 (nL:Int) (nL:Int) (by omega) (by omega) (by rw [hy2];omega) (by omega)
  rw [Int.toNat_natCast] at h
  simpa [hy1,Value.cells] using h
 have HN12:=hideIt hN1
 obtain ⟨y0,y1,y2,y3,y4,y5,y6,y7,y8,y9,y10,y11,y12,y13,y14⟩:=(((BxA.new w 35 (hC h ⟨pO,pC,⟨aL,nL,cL⟩,pN,pE,pS⟩)).up (belA _ (.cells #[.int .i64 0,.slice none 0 0,.slice none 0 0,.slice none 0 0,.slice none 0 0,.int .i64 0,.int .i64 0,.int .i64 0,.int .i64 0,.int .i64 0,.int .i64 0,.int .i64 0,.slice none 0 0,.int .i64 0,.slice none 0 0] 35)))).all15p
 clear R0 B2 hln hel hsS hN1
 go_enter Tryz.func89,Tryz.ntmps89
 go_upto_region 2 with fail
 rw [← hw2]
 clear hw2 y0 y1 y2 y3 y4 y5 y6 y7 y8 y9 y10 y11 y12 y13 y14
 (
  apply viaT
  intro t2_3_6_7_10_11_14_15_16_
  apply viaT
  intro t2_3_6_7_10_11_14_16_
  apply viaT
  intro t2_3_6_7_10_11_14_15_
  apply viaT
  intro t2_3_6_7_10_11_16_
  apply viaT
  intro t2_3_6_7_10_14_16_
  apply viaT
  intro t2_3_6_7_10_11_14_
  apply viaT
  intro t2_3_6_7_10_16_
  apply viaT
  intro t2_3_6_7_14_16_
  apply viaT
  intro t2_3_6_10_14_16_
  apply viaT
  intro t2_3_6_7_10_11_
  apply viaT
  intro t2_3_6_7_10_14_
  apply viaT
  intro t2_3_6_7_16_
  apply viaT
  intro t2_3_6_10_16_
  apply viaT
  intro t2_3_6_14_16_
  apply viaT
  intro t2_3_10_14_16_
  apply viaT
  intro t2_3_6_7_10_
  apply viaT
  intro t2_3_6_7_14_
  apply viaT
  intro t2_3_6_10_14_
  apply viaT
  intro t2_3_6_16_
  apply viaT
  intro t2_3_10_16_
  apply viaT
  intro t2_3_14_16_
  apply viaT
  intro t2_3_6_7_
  apply viaT
  intro t2_3_6_10_
  apply viaT
  intro t2_3_6_14_
  apply viaT
  intro t2_3_10_14_
  apply viaT
  intro t2_6_10_14_
  apply viaT
  intro t2_3_16_
  apply viaT
  intro t2_3_6_
  apply viaT
  intro t2_3_10_
  apply viaT
  intro t2_3_14_
  apply viaT
  intro t2_6_10_
  apply viaT
  intro t2_6_14_
  apply viaT
  intro t2_10_14_
  apply viaT
  intro t6_10_14_
  apply viaT
  intro t2_3_
  apply viaT
  intro t2_6_
  apply viaT
  intro t2_10_
  apply viaT
  intro t2_14_
  apply viaT
  intro t6_10_
  apply viaT
  intro t6_14_
  apply viaT
  intro t10_14_
  apply viaT
  intro t2_
  apply viaT
  intro t6_
  apply viaT
  intro t10_
  apply viaT
  intro t14_
  focus (
  refine wp_region_held_drew (S:=(fun u=>u.cell? ⟨w.heap.size,1,none⟩=some (.slice pO.a pO.n pO.c)∧u.cell? ⟨w.heap.size,2,none⟩=some (.slice pC.a pC.n pC.c)∧u.cell? ⟨w.heap.size,4,none⟩=some (.slice pN.a pN.n pN.c)∧u.cell? ⟨w.heap.size,14,none⟩=some (.slice pS.a pS.n pS.c))) (by kernel_rfl) hS2 (fun hHeld=>?_)
  refine tq0 (i:=0) (v:=?_) rfl ?_ (by assumption) ?_
  rotate_left
  ·intro w hSw;(try dsimp only at hSw);go_simp;try with_reducible rfl
  try simp only [Act.put,pS0,pT0]
  refine tq0 (i:=1) (v:=?_) rfl ?_ (by assumption) ?_
  rotate_left
  ·intro w hSw;(try dsimp only at hSw);go_simp;try with_reducible rfl
  try simp only [Act.put,pS0,pT0]
  refine tq0 (i:=4) (v:=?_) rfl ?_ (by assumption) ?_
  rotate_left
  ·intro w hSw;(try dsimp only at hSw);go_simp;try with_reducible rfl
  try simp only [Act.put,pS0,pT0]
  refine tq0 (i:=5) (v:=?_) rfl ?_ (by assumption) ?_
  rotate_left
  ·intro w hSw;(try dsimp only at hSw);go_simp;try with_reducible rfl
  try simp only [Act.put,pS0,pT0]
  refine tq0 (i:=8) (v:=?_) rfl ?_ (by assumption) ?_
  rotate_left
  ·intro w hSw;(try dsimp only at hSw);go_simp;try with_reducible rfl
  try simp only [Act.put,pS0,pT0]
  refine tq0 (i:=9) (v:=?_) rfl ?_ (by assumption) ?_
  rotate_left
  ·intro w hSw;(try dsimp only at hSw);go_simp;try with_reducible rfl
  try simp only [Act.put,pS0,pT0]
  refine tq0 (i:=12) (v:=?_) rfl ?_ (by assumption) ?_
  rotate_left
  ·intro w hSw;(try dsimp only at hSw);go_simp;try with_reducible rfl
  try simp only [Act.put,pS0,pT0]
  refine tq0 (i:=13) (v:=?_) rfl ?_ (by assumption) ?_
  rotate_left
  ·intro w hSw;(try dsimp only at hSw);go_simp;try with_reducible rfl
  try simp only [Act.put,pS0,pT0]
  obtain ⟨y,hy⟩:∃ y,y=w2.drew:=⟨_,rfl⟩
  have GU:Good w2 y:=by rw [hy];exact (Good.refl _).drew
  rw [← hy]
  clear hy hHeld
  refine wpAnyH_ready (rs:=[2,6,10,14]) (by kernel_rfl) (by simp) ?_
  refine AllReadyH.cons rfl (fun K hK=>?_) (AllReadyH.cons rfl (fun K hK=>?_) (AllReadyH.cons rfl (fun K hK=>?_) (AllReadyH.cons rfl (fun K hK=>?_) AllReadyH.nil)))
  focus (
  go_simp
  refine hK.out _ _ (HC.out _ (GU.alloc _)) (fun hHeld=>?_)
  clear hK K
  try simp only [Act.put,pS0,pT0]
  obtain ⟨z,hz⟩:∃ z,z=y.alloc (.cells #[.slice pO.a pO.n pO.c] 24):=⟨_,rfl⟩
  have gg:Below y.heap.size y z:=by rw [hz];exact (Below.refl _ _).alloc (Nat.le_refl _) _
  have P1:z.cell? ⟨y.heap.size,0,none⟩=some (.slice pO.a pO.n pO.c)∧y.heap.size<z.heap.size:=by rw [hz];simp [go_sem]
  replace GU:=Good.up GU gg
  rw [← hz]
  clear hz gg hHeld
  generalize y.heap.size=bA at *
  refine lstH (l':=#[true,true,true,false,true,true,false,false,true,true,false,false,true,true,false,false,false,false,false,false,false,false,false,false]) (by kernel_rfl) ?_
  have F:=And.intro GU P1
  clear GU P1
  revert F
  revert bA
  revert z
  exact t2_.out
  )
  focus (
  go_simp
  refine hK.out _ _ (HC.out _ (GU.alloc _)) (fun hHeld=>?_)
  clear hK K
  try simp only [Act.put,pS0,pT0]
  obtain ⟨z,hz⟩:∃ z,z=y.alloc (.cells #[.slice pC.a pC.n pC.c] 25):=⟨_,rfl⟩
  have gg:Below y.heap.size y z:=by rw [hz];exact (Below.refl _ _).alloc (Nat.le_refl _) _
  have P2:z.cell? ⟨y.heap.size,0,none⟩=some (.slice pC.a pC.n pC.c)∧y.heap.size<z.heap.size:=by rw [hz];simp [go_sem]
  replace GU:=Good.up GU gg
  rw [← hz]
  clear hz gg hHeld
  generalize y.heap.size=bB at *
  refine lstH (l':=#[true,true,false,false,true,true,true,false,true,true,false,false,true,true,false,false,false,false,false,false,false,false,false,false]) (by kernel_rfl) ?_
  have F:=And.intro GU P2
  clear GU P2
  revert F
  revert bB
  revert z
  exact t6_.out
  )
  focus (
  go_simp
  refine hK.out _ _ (HC.out _ (GU.alloc _)) (fun hHeld=>?_)
  clear hK K
  try simp only [Act.put,pS0,pT0]
  obtain ⟨z,hz⟩:∃ z,z=y.alloc (.cells #[.slice pN.a pN.n pN.c] 24):=⟨_,rfl⟩
  have gg:Below y.heap.size y z:=by rw [hz];exact (Below.refl _ _).alloc (Nat.le_refl _) _
  have P3:z.cell? ⟨y.heap.size,0,none⟩=some (.slice pN.a pN.n pN.c)∧y.heap.size<z.heap.size:=by rw [hz];simp [go_sem]
  replace GU:=Good.up GU gg
  rw [← hz]
  clear hz gg hHeld
  generalize y.heap.size=bC at *
  refine lstH (l':=#[true,true,false,false,true,true,false,false,true,true,true,false,true,true,false,false,false,false,false,false,false,false,false,false]) (by kernel_rfl) ?_
  have F:=And.intro GU P3
  clear GU P3
  revert F
  revert bC
  revert z
  exact t10_.out
  )
  focus (
  go_simp
  refine hK.out _ _ (HC.out _ (GU.alloc _)) (fun hHeld=>?_)
  clear hK K
  try simp only [Act.put,pS0,pT0]
  obtain ⟨z,hz⟩:∃ z,z=y.alloc (.cells #[.slice pS.a pS.n pS.c] 33):=⟨_,rfl⟩
  have gg:Below y.heap.size y z:=by rw [hz];exact (Below.refl _ _).alloc (Nat.le_refl _) _
  have P4:z.cell? ⟨y.heap.size,0,none⟩=some (.slice pS.a pS.n pS.c)∧y.heap.size<z.heap.size:=by rw [hz];simp [go_sem]
  replace GU:=Good.up GU gg
  rw [← hz]
  clear hz gg hHeld
  generalize y.heap.size=bD at *
  refine lstH (l':=#[true,true,false,false,true,true,false,false,true,true,false,false,true,true,true,false,false,false,false,false,false,false,false,false]) (by kernel_rfl) ?_
  have F:=And.intro GU P4
  clear GU P4
  revert F
  revert bD
  revert z
  exact t14_.out
  )
  )
  focus (
  intro y bD F
  obtain ⟨GU,P4⟩:=F
  have hHeld:=HC.out _ GU
  clear hHeld
  refine wpAnyH_ready (rs:=[2,6,10]) (by kernel_rfl) (by simp) ?_
  refine AllReadyH.cons rfl (fun K hK=>?_) (AllReadyH.cons rfl (fun K hK=>?_) (AllReadyH.cons rfl (fun K hK=>?_) AllReadyH.nil))
  focus (
  go_simp
  refine hK.out _ _ (HC.out _ (GU.alloc _)) (fun hHeld=>?_)
  clear hK K
  try simp only [pT0]
  obtain ⟨z,hz⟩:∃ z,z=y.alloc (.cells #[.slice pO.a pO.n pO.c] 24):=⟨_,rfl⟩
  have gg:Below y.heap.size y z:=by rw [hz];exact (Below.refl _ _).alloc (Nat.le_refl _) _
  have P1:z.cell? ⟨y.heap.size,0,none⟩=some (.slice pO.a pO.n pO.c)∧y.heap.size<z.heap.size:=by rw [hz];simp [go_sem]
  replace GU:=Good.up GU gg
  replace P4:=keepQ20 P4 gg
  rw [← hz]
  clear hz gg hHeld
  generalize y.heap.size=bA at *
  refine lstH (l':=#[true,true,true,false,true,true,false,false,true,true,false,false,true,true,true,false,false,false,false,false,false,false,false,false]) (by kernel_rfl) ?_
  have F:=And.intro GU (And.intro P1 P4)
  clear GU P1 P4
  revert F
  revert bD
  revert bA
  revert z
  exact t2_14_.out
  )
  focus (
  go_simp
  refine hK.out _ _ (HC.out _ (GU.alloc _)) (fun hHeld=>?_)
  clear hK K
  try simp only [pT0]
  obtain ⟨z,hz⟩:∃ z,z=y.alloc (.cells #[.slice pC.a pC.n pC.c] 25):=⟨_,rfl⟩
  have gg:Below y.heap.size y z:=by rw [hz];exact (Below.refl _ _).alloc (Nat.le_refl _) _
  have P2:z.cell? ⟨y.heap.size,0,none⟩=some (.slice pC.a pC.n pC.c)∧y.heap.size<z.heap.size:=by rw [hz];simp [go_sem]
  replace GU:=Good.up GU gg
  replace P4:=keepQ20 P4 gg
  rw [← hz]
  clear hz gg hHeld
  generalize y.heap.size=bB at *
  refine lstH (l':=#[true,true,false,false,true,true,true,false,true,true,false,false,true,true,true,false,false,false,false,false,false,false,false,false]) (by kernel_rfl) ?_
  have F:=And.intro GU (And.intro P2 P4)
  clear GU P2 P4
  revert F
  revert bD
  revert bB
  revert z
  exact t6_14_.out
  )
  focus (
  go_simp
  refine hK.out _ _ (HC.out _ (GU.alloc _)) (fun hHeld=>?_)
  clear hK K
  try simp only [pT0]
  obtain ⟨z,hz⟩:∃ z,z=y.alloc (.cells #[.slice pN.a pN.n pN.c] 24):=⟨_,rfl⟩
  have gg:Below y.heap.size y z:=by rw [hz];exact (Below.refl _ _).alloc (Nat.le_refl _) _
  have P3:z.cell? ⟨y.heap.size,0,none⟩=some (.slice pN.a pN.n pN.c)∧y.heap.size<z.heap.size:=by rw [hz];simp [go_sem]
  replace GU:=Good.up GU gg
  replace P4:=keepQ20 P4 gg
  rw [← hz]
  clear hz gg hHeld
  generalize y.heap.size=bC at *
  refine lstH (l':=#[true,true,false,false,true,true,false,false,true,true,true,false,true,true,true,false,false,false,false,false,false,false,false,false]) (by kernel_rfl) ?_
  have F:=And.intro GU (And.intro P3 P4)
  clear GU P3 P4
  revert F
  revert bD
  revert bC
  revert z
  exact t10_14_.out
  )
  )
  focus (
  intro y bC F
  obtain ⟨GU,P3⟩:=F
  have hHeld:=HC.out _ GU
  clear hHeld
  refine wpAnyH_ready (rs:=[2,6,14]) (by kernel_rfl) (by simp) ?_
  refine AllReadyH.cons rfl (fun K hK=>?_) (AllReadyH.cons rfl (fun K hK=>?_) (AllReadyH.cons rfl (fun K hK=>?_) AllReadyH.nil))
  focus (
  go_simp
  refine hK.out _ _ (HC.out _ (GU.alloc _)) (fun hHeld=>?_)
  clear hK K
  try simp only [pT0]
  obtain ⟨z,hz⟩:∃ z,z=y.alloc (.cells #[.slice pO.a pO.n pO.c] 24):=⟨_,rfl⟩
  have gg:Below y.heap.size y z:=by rw [hz];exact (Below.refl _ _).alloc (Nat.le_refl _) _
  have P1:z.cell? ⟨y.heap.size,0,none⟩=some (.slice pO.a pO.n pO.c)∧y.heap.size<z.heap.size:=by rw [hz];simp [go_sem]
  replace GU:=Good.up GU gg
  replace P3:=keepQ20 P3 gg
  rw [← hz]
  clear hz gg hHeld
  generalize y.heap.size=bA at *
  refine lstH (l':=#[true,true,true,false,true,true,false,false,true,true,true,false,true,true,false,false,false,false,false,false,false,false,false,false]) (by kernel_rfl) ?_
  have F:=And.intro GU (And.intro P1 P3)
  clear GU P1 P3
  revert F
  revert bC
  revert bA
  revert z
  exact t2_10_.out
  )
  focus (
  go_simp
  refine hK.out _ _ (HC.out _ (GU.alloc _)) (fun hHeld=>?_)
  clear hK K
  try simp only [pT0]
  obtain ⟨z,hz⟩:∃ z,z=y.alloc (.cells #[.slice pC.a pC.n pC.c] 25):=⟨_,rfl⟩
  have gg:Below y.heap.size y z:=by rw [hz];exact (Below.refl _ _).alloc (Nat.le_refl _) _
  have P2:z.cell? ⟨y.heap.size,0,none⟩=some (.slice pC.a pC.n pC.c)∧y.heap.size<z.heap.size:=by rw [hz];simp [go_sem]
  replace GU:=Good.up GU gg
  replace P3:=keepQ20 P3 gg
  rw [← hz]
  clear hz gg hHeld
  generalize y.heap.size=bB at *
  refine lstH (l':=#[true,true,false,false,true,true,true,false,true,true,true,false,true,true,false,false,false,false,false,false,false,false,false,false]) (by kernel_rfl) ?_
  have F:=And.intro GU (And.intro P2 P3)
  clear GU P2 P3
  revert F
  revert bC
  revert bB
  revert z
  exact t6_10_.out
  )
  focus (
  go_simp
  refine hK.out _ _ (HC.out _ (GU.alloc _)) (fun hHeld=>?_)
  clear hK K
  try simp only [pT0]
  obtain ⟨z,hz⟩:∃ z,z=y.alloc (.cells #[.slice pS.a pS.n pS.c] 33):=⟨_,rfl⟩
  have gg:Below y.heap.size y z:=by rw [hz];exact (Below.refl _ _).alloc (Nat.le_refl _) _
  have P4:z.cell? ⟨y.heap.size,0,none⟩=some (.slice pS.a pS.n pS.c)∧y.heap.size<z.heap.size:=by rw [hz];simp [go_sem]
  replace GU:=Good.up GU gg
  replace P3:=keepQ20 P3 gg
  rw [← hz]
  clear hz gg hHeld
  generalize y.heap.size=bD at *
  refine lstH (l':=#[true,true,false,false,true,true,false,false,true,true,true,false,true,true,true,false,false,false,false,false,false,false,false,false]) (by kernel_rfl) ?_
  have F:=And.intro GU (And.intro P3 P4)
  clear GU P3 P4
  revert F
  revert bD
  revert bC
  revert z
  exact t10_14_.out
  )
  )
  focus (
  intro y bB F
  obtain ⟨GU,P2⟩:=F
  have hHeld:=HC.out _ GU
  clear hHeld
  refine wpAnyH_ready (rs:=[2,10,14]) (by kernel_rfl) (by simp) ?_
  refine AllReadyH.cons rfl (fun K hK=>?_) (AllReadyH.cons rfl (fun K hK=>?_) (AllReadyH.cons rfl (fun K hK=>?_) AllReadyH.nil))
  focus (
  go_simp
  refine hK.out _ _ (HC.out _ (GU.alloc _)) (fun hHeld=>?_)
  clear hK K
  try simp only [pT0]
  obtain ⟨z,hz⟩:∃ z,z=y.alloc (.cells #[.slice pO.a pO.n pO.c] 24):=⟨_,rfl⟩
  have gg:Below y.heap.size y z:=by rw [hz];exact (Below.refl _ _).alloc (Nat.le_refl _) _
  have P1:z.cell? ⟨y.heap.size,0,none⟩=some (.slice pO.a pO.n pO.c)∧y.heap.size<z.heap.size:=by rw [hz];simp [go_sem]
  replace GU:=Good.up GU gg
  replace P2:=keepQ20 P2 gg
  rw [← hz]
  clear hz gg hHeld
  generalize y.heap.size=bA at *
  refine lstH (l':=#[true,true,true,false,true,true,true,false,true,true,false,false,true,true,false,false,false,false,false,false,false,false,false,false]) (by kernel_rfl) ?_
  have F:=And.intro GU (And.intro P1 P2)
  clear GU P1 P2
  revert F
  revert bB
  revert bA
  revert z
  exact t2_6_.out
  )
  focus (
  go_simp
  refine hK.out _ _ (HC.out _ (GU.alloc _)) (fun hHeld=>?_)
  clear hK K
  try simp only [pT0]
  obtain ⟨z,hz⟩:∃ z,z=y.alloc (.cells #[.slice pN.a pN.n pN.c] 24):=⟨_,rfl⟩
  have gg:Below y.heap.size y z:=by rw [hz];exact (Below.refl _ _).alloc (Nat.le_refl _) _
  have P3:z.cell? ⟨y.heap.size,0,none⟩=some (.slice pN.a pN.n pN.c)∧y.heap.size<z.heap.size:=by rw [hz];simp [go_sem]
  replace GU:=Good.up GU gg
  replace P2:=keepQ20 P2 gg
  rw [← hz]
  clear hz gg hHeld
  generalize y.heap.size=bC at *
  refine lstH (l':=#[true,true,false,false,true,true,true,false,true,true,true,false,true,true,false,false,false,false,false,false,false,false,false,false]) (by kernel_rfl) ?_
  have F:=And.intro GU (And.intro P2 P3)
  clear GU P2 P3
  revert F
  revert bC
  revert bB
  revert z
  exact t6_10_.out
  )
  focus (
  go_simp
  refine hK.out _ _ (HC.out _ (GU.alloc _)) (fun hHeld=>?_)
  clear hK K
  try simp only [pT0]
  obtain ⟨z,hz⟩:∃ z,z=y.alloc (.cells #[.slice pS.a pS.n pS.c] 33):=⟨_,rfl⟩
  have gg:Below y.heap.size y z:=by rw [hz];exact (Below.refl _ _).alloc (Nat.le_refl _) _
  have P4:z.cell? ⟨y.heap.size,0,none⟩=some (.slice pS.a pS.n pS.c)∧y.heap.size<z.heap.size:=by rw [hz];simp [go_sem]
  replace GU:=Good.up GU gg
  replace P2:=keepQ20 P2 gg
  rw [← hz]
  clear hz gg hHeld
  generalize y.heap.size=bD at *
  refine lstH (l':=#[true,true,false,false,true,true,true,false,true,true,false,false,true,true,true,false,false,false,false,false,false,false,false,false]) (by kernel_rfl) ?_
  have F:=And.intro GU (And.intro P2 P4)
  clear GU P2 P4
  revert F
  revert bD
  revert bB
  revert z
  exact t6_14_.out
  )
  )
  focus (
  intro y bA F
  obtain ⟨GU,P1⟩:=F
  have hHeld:=HC.out _ GU
  clear hHeld
  refine wpAnyH_ready (rs:=[3,6,10,14]) (by kernel_rfl) (by simp) ?_
  refine AllReadyH.cons rfl (fun K hK=>?_) (AllReadyH.cons rfl (fun K hK=>?_) (AllReadyH.cons rfl (fun K hK=>?_) (AllReadyH.cons rfl (fun K hK=>?_) AllReadyH.nil)))
  focus (
  rw [if_pos]
  rotate_left
  ·kernel_rfl
  have HCall:=hideIt (HCo.out _ bA GU P1)
  go_wp2_with (go_at_call 94;refine HCall.out.mono ?_;rintro e z ⟨p1,c1,rfl,ho,gg⟩;refine Hid.out ?_)
  refine hidp ?_
  refine hK.out _ _ (HC.out _ (Good.up GU gg)) (fun hHeld=>?_)
  clear hK K HCall
  try simp only [pT0]
  have lGU:=Nat.le_trans HLt.out GU.size
  have O1:=own_mono ho lGU
  clear ho lGU
  replace GU:=Good.up GU gg
  clear gg P1
  clear hHeld
  refine lstH (l':=#[true,true,true,true,true,true,false,false,true,true,false,false,true,true,false,false,false,false,false,false,false,false,false,false]) (by kernel_rfl) ?_
  have F:=And.intro GU O1
  clear GU O1
  revert F
  revert c1
  revert p1
  revert bA
  revert z
  exact t2_3_.out
  )
  focus (
  go_simp
  refine hK.out _ _ (HC.out _ (GU.alloc _)) (fun hHeld=>?_)
  clear hK K
  try simp only [pT0]
  obtain ⟨z,hz⟩:∃ z,z=y.alloc (.cells #[.slice pC.a pC.n pC.c] 25):=⟨_,rfl⟩
  have gg:Below y.heap.size y z:=by rw [hz];exact (Below.refl _ _).alloc (Nat.le_refl _) _
  have P2:z.cell? ⟨y.heap.size,0,none⟩=some (.slice pC.a pC.n pC.c)∧y.heap.size<z.heap.size:=by rw [hz];simp [go_sem]
  replace GU:=Good.up GU gg
  replace P1:=keepQ20 P1 gg
  rw [← hz]
  clear hz gg hHeld
  generalize y.heap.size=bB at *
  refine lstH (l':=#[true,true,true,false,true,true,true,false,true,true,false,false,true,true,false,false,false,false,false,false,false,false,false,false]) (by kernel_rfl) ?_
  have F:=And.intro GU (And.intro P1 P2)
  clear GU P1 P2
  revert F
  revert bB
  revert bA
  revert z
  exact t2_6_.out
  )
  focus (
  go_simp
  refine hK.out _ _ (HC.out _ (GU.alloc _)) (fun hHeld=>?_)
  clear hK K
  try simp only [pT0]
  obtain ⟨z,hz⟩:∃ z,z=y.alloc (.cells #[.slice pN.a pN.n pN.c] 24):=⟨_,rfl⟩
  have gg:Below y.heap.size y z:=by rw [hz];exact (Below.refl _ _).alloc (Nat.le_refl _) _
  have P3:z.cell? ⟨y.heap.size,0,none⟩=some (.slice pN.a pN.n pN.c)∧y.heap.size<z.heap.size:=by rw [hz];simp [go_sem]
  replace GU:=Good.up GU gg
  replace P1:=keepQ20 P1 gg
  rw [← hz]
  clear hz gg hHeld
  generalize y.heap.size=bC at *
  refine lstH (l':=#[true,true,true,false,true,true,false,false,true,true,true,false,true,true,false,false,false,false,false,false,false,false,false,false]) (by kernel_rfl) ?_
  have F:=And.intro GU (And.intro P1 P3)
  clear GU P1 P3
  revert F
  revert bC
  revert bA
  revert z
  exact t2_10_.out
  )
  focus (
  go_simp
  refine hK.out _ _ (HC.out _ (GU.alloc _)) (fun hHeld=>?_)
  clear hK K
  try simp only [pT0]
  obtain ⟨z,hz⟩:∃ z,z=y.alloc (.cells #[.slice pS.a pS.n pS.c] 33):=⟨_,rfl⟩
  have gg:Below y.heap.size y z:=by rw [hz];exact (Below.refl _ _).alloc (Nat.le_refl _) _
  have P4:z.cell? ⟨y.heap.size,0,none⟩=some (.slice pS.a pS.n pS.c)∧y.heap.size<z.heap.size:=by rw [hz];simp [go_sem]
  replace GU:=Good.up GU gg
  replace P1:=keepQ20 P1 gg
  rw [← hz]
  clear hz gg hHeld
  generalize y.heap.size=bD at *
  refine lstH (l':=#[true,true,true,false,true,true,false,false,true,true,false,false,true,true,true,false,false,false,false,false,false,false,false,false]) (by kernel_rfl) ?_
  have F:=And.intro GU (And.intro P1 P4)
  clear GU P1 P4
  revert F
  revert bD
  revert bA
  revert z
  exact t2_14_.out
  )
  )
  focus (
  intro y bC bD F
  obtain ⟨GU,P3,P4⟩:=F
  have hHeld:=HC.out _ GU
  clear hHeld
  refine wpAnyH_ready (rs:=[2,6]) (by kernel_rfl) (by simp) ?_
  refine AllReadyH.cons rfl (fun K hK=>?_) (AllReadyH.cons rfl (fun K hK=>?_) AllReadyH.nil)
  focus (
  go_simp
  refine hK.out _ _ (HC.out _ (GU.alloc _)) (fun hHeld=>?_)
  clear hK K
  try simp only [pT0]
  obtain ⟨z,hz⟩:∃ z,z=y.alloc (.cells #[.slice pO.a pO.n pO.c] 24):=⟨_,rfl⟩
  have gg:Below y.heap.size y z:=by rw [hz];exact (Below.refl _ _).alloc (Nat.le_refl _) _
  have P1:z.cell? ⟨y.heap.size,0,none⟩=some (.slice pO.a pO.n pO.c)∧y.heap.size<z.heap.size:=by rw [hz];simp [go_sem]
  replace GU:=Good.up GU gg
  replace P3:=keepQ20 P3 gg
  replace P4:=keepQ20 P4 gg
  rw [← hz]
  clear hz gg hHeld
  generalize y.heap.size=bA at *
  refine lstH (l':=#[true,true,true,false,true,true,false,false,true,true,true,false,true,true,true,false,false,false,false,false,false,false,false,false]) (by kernel_rfl) ?_
  have F:=And.intro GU (And.intro P1 (And.intro P3 P4))
  clear GU P1 P3 P4
  revert F
  revert bD
  revert bC
  revert bA
  revert z
  exact t2_10_14_.out
  )
  focus (
  go_simp
  refine hK.out _ _ (HC.out _ (GU.alloc _)) (fun hHeld=>?_)
  clear hK K
  try simp only [pT0]
  obtain ⟨z,hz⟩:∃ z,z=y.alloc (.cells #[.slice pC.a pC.n pC.c] 25):=⟨_,rfl⟩
  have gg:Below y.heap.size y z:=by rw [hz];exact (Below.refl _ _).alloc (Nat.le_refl _) _
  have P2:z.cell? ⟨y.heap.size,0,none⟩=some (.slice pC.a pC.n pC.c)∧y.heap.size<z.heap.size:=by rw [hz];simp [go_sem]
  replace GU:=Good.up GU gg
  replace P3:=keepQ20 P3 gg
  replace P4:=keepQ20 P4 gg
  rw [← hz]
  clear hz gg hHeld
  generalize y.heap.size=bB at *
  refine lstH (l':=#[true,true,false,false,true,true,true,false,true,true,true,false,true,true,true,false,false,false,false,false,false,false,false,false]) (by kernel_rfl) ?_
  have F:=And.intro GU (And.intro P2 (And.intro P3 P4))
  clear GU P2 P3 P4
  revert F
  revert bD
  revert bC
  revert bB
  revert z
  exact t6_10_14_.out
  )
  )
  focus (
  intro y bB bD F
  obtain ⟨GU,P2,P4⟩:=F
  have hHeld:=HC.out _ GU
  clear hHeld
  refine wpAnyH_ready (rs:=[2,10]) (by kernel_rfl) (by simp) ?_
  refine AllReadyH.cons rfl (fun K hK=>?_) (AllReadyH.cons rfl (fun K hK=>?_) AllReadyH.nil)
  focus (
  go_simp
  refine hK.out _ _ (HC.out _ (GU.alloc _)) (fun hHeld=>?_)
  clear hK K
  try simp only [pT0]
  obtain ⟨z,hz⟩:∃ z,z=y.alloc (.cells #[.slice pO.a pO.n pO.c] 24):=⟨_,rfl⟩
  have gg:Below y.heap.size y z:=by rw [hz];exact (Below.refl _ _).alloc (Nat.le_refl _) _
  have P1:z.cell? ⟨y.heap.size,0,none⟩=some (.slice pO.a pO.n pO.c)∧y.heap.size<z.heap.size:=by rw [hz];simp [go_sem]
  replace GU:=Good.up GU gg
  replace P2:=keepQ20 P2 gg
  replace P4:=keepQ20 P4 gg
  rw [← hz]
  clear hz gg hHeld
  generalize y.heap.size=bA at *
  refine lstH (l':=#[true,true,true,false,true,true,true,false,true,true,false,false,true,true,true,false,false,false,false,false,false,false,false,false]) (by kernel_rfl) ?_
  have F:=And.intro GU (And.intro P1 (And.intro P2 P4))
  clear GU P1 P2 P4
  revert F
  revert bD
  revert bB
  revert bA
  revert z
  exact t2_6_14_.out
  )
  focus (
  go_simp
  refine hK.out _ _ (HC.out _ (GU.alloc _)) (fun hHeld=>?_)
  clear hK K
  try simp only [pT0]
  obtain ⟨z,hz⟩:∃ z,z=y.alloc (.cells #[.slice pN.a pN.n pN.c] 24):=⟨_,rfl⟩
  have gg:Below y.heap.size y z:=by rw [hz];exact (Below.refl _ _).alloc (Nat.le_refl _) _
  have P3:z.cell? ⟨y.heap.size,0,none⟩=some (.slice pN.a pN.n pN.c)∧y.heap.size<z.heap.size:=by rw [hz];simp [go_sem]
  replace GU:=Good.up GU gg
  replace P2:=keepQ20 P2 gg
  replace P4:=keepQ20 P4 gg
  rw [← hz]
  clear hz gg hHeld
  generalize y.heap.size=bC at *
  refine lstH (l':=#[true,true,false,false,true,true,true,false,true,true,true,false,true,true,true,false,false,false,false,false,false,false,false,false]) (by kernel_rfl) ?_
  have F:=And.intro GU (And.intro P2 (And.intro P3 P4))
  clear GU P2 P3 P4
  revert F
  revert bD
  revert bC
  revert bB
  revert z
  exact t6_10_14_.out
  )
  )
  focus (
  intro y bB bC F
  obtain ⟨GU,P2,P3⟩:=F
  have hHeld:=HC.out _ GU
  clear hHeld
  refine wpAnyH_ready (rs:=[2,14]) (by kernel_rfl) (by simp) ?_
  refine AllReadyH.cons rfl (fun K hK=>?_) (AllReadyH.cons rfl (fun K hK=>?_) AllReadyH.nil)
  focus (
  go_simp
  refine hK.out _ _ (HC.out _ (GU.alloc _)) (fun hHeld=>?_)
  clear hK K
  try simp only [pT0]
  obtain ⟨z,hz⟩:∃ z,z=y.alloc (.cells #[.slice pO.a pO.n pO.c] 24):=⟨_,rfl⟩
  have gg:Below y.heap.size y z:=by rw [hz];exact (Below.refl _ _).alloc (Nat.le_refl _) _
  have P1:z.cell? ⟨y.heap.size,0,none⟩=some (.slice pO.a pO.n pO.c)∧y.heap.size<z.heap.size:=by rw [hz];simp [go_sem]
  replace GU:=Good.up GU gg
  replace P2:=keepQ20 P2 gg
  replace P3:=keepQ20 P3 gg
  rw [← hz]
  clear hz gg hHeld
  generalize y.heap.size=bA at *
  refine lstH (l':=#[true,true,true,false,true,true,true,false,true,true,true,false,true,true,false,false,false,false,false,false,false,false,false,false]) (by kernel_rfl) ?_
  have F:=And.intro GU (And.intro P1 (And.intro P2 P3))
  clear GU P1 P2 P3
  revert F
  revert bC
  revert bB
  revert bA
  revert z
  exact t2_6_10_.out
  )
  focus (
  go_simp
  refine hK.out _ _ (HC.out _ (GU.alloc _)) (fun hHeld=>?_)
  clear hK K
  try simp only [pT0]
  obtain ⟨z,hz⟩:∃ z,z=y.alloc (.cells #[.slice pS.a pS.n pS.c] 33):=⟨_,rfl⟩
  have gg:Below y.heap.size y z:=by rw [hz];exact (Below.refl _ _).alloc (Nat.le_refl _) _
  have P4:z.cell? ⟨y.heap.size,0,none⟩=some (.slice pS.a pS.n pS.c)∧y.heap.size<z.heap.size:=by rw [hz];simp [go_sem]
  replace GU:=Good.up GU gg
  replace P2:=keepQ20 P2 gg
  replace P3:=keepQ20 P3 gg
  rw [← hz]
  clear hz gg hHeld
  generalize y.heap.size=bD at *
  refine lstH (l':=#[true,true,false,false,true,true,true,false,true,true,true,false,true,true,true,false,false,false,false,false,false,false,false,false]) (by kernel_rfl) ?_
  have F:=And.intro GU (And.intro P2 (And.intro P3 P4))
  clear GU P2 P3 P4
  revert F
  revert bD
  revert bC
  revert bB
  revert z
  exact t6_10_14_.out
  )
  )
  focus (
  intro y bA bD F
  obtain ⟨GU,P1,P4⟩:=F
  have hHeld:=HC.out _ GU
  clear hHeld
  refine wpAnyH_ready (rs:=[3,6,10]) (by kernel_rfl) (by simp) ?_
  refine AllReadyH.cons rfl (fun K hK=>?_) (AllReadyH.cons rfl (fun K hK=>?_) (AllReadyH.cons rfl (fun K hK=>?_) AllReadyH.nil))
  focus (
  rw [if_pos]
  rotate_left
  ·kernel_rfl
  have HCall:=hideIt (HCo.out _ bA GU P1)
  go_wp2_with (go_at_call 94;refine HCall.out.mono ?_;rintro e z ⟨p1,c1,rfl,ho,gg⟩;refine Hid.out ?_)
  refine hidp ?_
  refine hK.out _ _ (HC.out _ (Good.up GU gg)) (fun hHeld=>?_)
  clear hK K HCall
  try simp only [pT0]
  have lGU:=Nat.le_trans HLt.out GU.size
  have O1:=own_mono ho lGU
  clear ho lGU
  replace GU:=Good.up GU gg
  replace P4:=keepQ20 P4 gg
  clear gg P1
  clear hHeld
  refine lstH (l':=#[true,true,true,true,true,true,false,false,true,true,false,false,true,true,true,false,false,false,false,false,false,false,false,false]) (by kernel_rfl) ?_
  have F:=And.intro GU (And.intro P4 O1)
  clear GU P4 O1
  revert F
  revert bD
  revert c1
  revert p1
  revert bA
  revert z
  exact t2_3_14_.out
  )
  focus (
  go_simp
  refine hK.out _ _ (HC.out _ (GU.alloc _)) (fun hHeld=>?_)
  clear hK K
  try simp only [pT0]
  obtain ⟨z,hz⟩:∃ z,z=y.alloc (.cells #[.slice pC.a pC.n pC.c] 25):=⟨_,rfl⟩
  have gg:Below y.heap.size y z:=by rw [hz];exact (Below.refl _ _).alloc (Nat.le_refl _) _
  have P2:z.cell? ⟨y.heap.size,0,none⟩=some (.slice pC.a pC.n pC.c)∧y.heap.size<z.heap.size:=by rw [hz];simp [go_sem]
  replace GU:=Good.up GU gg
  replace P1:=keepQ20 P1 gg
  replace P4:=keepQ20 P4 gg
  rw [← hz]
  clear hz gg hHeld
  generalize y.heap.size=bB at *
  refine lstH (l':=#[true,true,true,false,true,true,true,false,true,true,false,false,true,true,true,false,false,false,false,false,false,false,false,false]) (by kernel_rfl) ?_
  have F:=And.intro GU (And.intro P1 (And.intro P2 P4))
  clear GU P1 P2 P4
  revert F
  revert bD
  revert bB
  revert bA
  revert z
  exact t2_6_14_.out
  )
  focus (
  go_simp
  refine hK.out _ _ (HC.out _ (GU.alloc _)) (fun hHeld=>?_)
  clear hK K
  try simp only [pT0]
  obtain ⟨z,hz⟩:∃ z,z=y.alloc (.cells #[.slice pN.a pN.n pN.c] 24):=⟨_,rfl⟩
  have gg:Below y.heap.size y z:=by rw [hz];exact (Below.refl _ _).alloc (Nat.le_refl _) _
  have P3:z.cell? ⟨y.heap.size,0,none⟩=some (.slice pN.a pN.n pN.c)∧y.heap.size<z.heap.size:=by rw [hz];simp [go_sem]
  replace GU:=Good.up GU gg
  replace P1:=keepQ20 P1 gg
  replace P4:=keepQ20 P4 gg
  rw [← hz]
  clear hz gg hHeld
  generalize y.heap.size=bC at *
  refine lstH (l':=#[true,true,true,false,true,true,false,false,true,true,true,false,true,true,true,false,false,false,false,false,false,false,false,false]) (by kernel_rfl) ?_
  have F:=And.intro GU (And.intro P1 (And.intro P3 P4))
  clear GU P1 P3 P4
  revert F
  revert bD
  revert bC
  revert bA
  revert z
  exact t2_10_14_.out
  )
  )
  focus (
  intro y bA bC F
  obtain ⟨GU,P1,P3⟩:=F
  have hHeld:=HC.out _ GU
  clear hHeld
  refine wpAnyH_ready (rs:=[3,6,14]) (by kernel_rfl) (by simp) ?_
  refine AllReadyH.cons rfl (fun K hK=>?_) (AllReadyH.cons rfl (fun K hK=>?_) (AllReadyH.cons rfl (fun K hK=>?_) AllReadyH.nil))
  focus (
  rw [if_pos]
  rotate_left
  ·kernel_rfl
  have HCall:=hideIt (HCo.out _ bA GU P1)
  go_wp2_with (go_at_call 94;refine HCall.out.mono ?_;rintro e z ⟨p1,c1,rfl,ho,gg⟩;refine Hid.out ?_)
  refine hidp ?_
  refine hK.out _ _ (HC.out _ (Good.up GU gg)) (fun hHeld=>?_)
  clear hK K HCall
  try simp only [pT0]
  have lGU:=Nat.le_trans HLt.out GU.size
  have O1:=own_mono ho lGU
  clear ho lGU
  replace GU:=Good.up GU gg
  replace P3:=keepQ20 P3 gg
  clear gg P1
  clear hHeld
  refine lstH (l':=#[true,true,true,true,true,true,false,false,true,true,true,false,true,true,false,false,false,false,false,false,false,false,false,false]) (by kernel_rfl) ?_
  have F:=And.intro GU (And.intro P3 O1)
  clear GU P3 O1
  revert F
  revert bC
  revert c1
  revert p1
  revert bA
  revert z
  exact t2_3_10_.out
  )
  focus (
  go_simp
  refine hK.out _ _ (HC.out _ (GU.alloc _)) (fun hHeld=>?_)
  clear hK K
  try simp only [pT0]
  obtain ⟨z,hz⟩:∃ z,z=y.alloc (.cells #[.slice pC.a pC.n pC.c] 25):=⟨_,rfl⟩
  have gg:Below y.heap.size y z:=by rw [hz];exact (Below.refl _ _).alloc (Nat.le_refl _) _
  have P2:z.cell? ⟨y.heap.size,0,none⟩=some (.slice pC.a pC.n pC.c)∧y.heap.size<z.heap.size:=by rw [hz];simp [go_sem]
  replace GU:=Good.up GU gg
  replace P1:=keepQ20 P1 gg
  replace P3:=keepQ20 P3 gg
  rw [← hz]
  clear hz gg hHeld
  generalize y.heap.size=bB at *
  refine lstH (l':=#[true,true,true,false,true,true,true,false,true,true,true,false,true,true,false,false,false,false,false,false,false,false,false,false]) (by kernel_rfl) ?_
  have F:=And.intro GU (And.intro P1 (And.intro P2 P3))
  clear GU P1 P2 P3
  revert F
  revert bC
  revert bB
  revert bA
  revert z
  exact t2_6_10_.out
  )
  focus (
  go_simp
  refine hK.out _ _ (HC.out _ (GU.alloc _)) (fun hHeld=>?_)
  clear hK K
  try simp only [pT0]
  obtain ⟨z,hz⟩:∃ z,z=y.alloc (.cells #[.slice pS.a pS.n pS.c] 33):=⟨_,rfl⟩
  have gg:Below y.heap.size y z:=by rw [hz];exact (Below.refl _ _).alloc (Nat.le_refl _) _
  have P4:z.cell? ⟨y.heap.size,0,none⟩=some (.slice pS.a pS.n pS.c)∧y.heap.size<z.heap.size:=by rw [hz];simp [go_sem]
  replace GU:=Good.up GU gg
  replace P1:=keepQ20 P1 gg
  replace P3:=keepQ20 P3 gg
  rw [← hz]
  clear hz gg hHeld
  generalize y.heap.size=bD at *
  refine lstH (l':=#[true,true,true,false,true,true,false,false,true,true,true,false,true,true,true,false,false,false,false,false,false,false,false,false]) (by kernel_rfl) ?_
  have F:=And.intro GU (And.intro P1 (And.intro P3 P4))
  clear GU P1 P3 P4
  revert F
  revert bD
  revert bC
  revert bA
  revert z
  exact t2_10_14_.out
  )
  )
  focus (
  intro y bA bB F
  obtain ⟨GU,P1,P2⟩:=F
  have hHeld:=HC.out _ GU
  clear hHeld
  refine wpAnyH_ready (rs:=[3,10,14]) (by kernel_rfl) (by simp) ?_
  refine AllReadyH.cons rfl (fun K hK=>?_) (AllReadyH.cons rfl (fun K hK=>?_) (AllReadyH.cons rfl (fun K hK=>?_) AllReadyH.nil))
  focus (
  rw [if_pos]
  rotate_left
  ·kernel_rfl
  have HCall:=hideIt (HCo.out _ bA GU P1)
  go_wp2_with (go_at_call 94;refine HCall.out.mono ?_;rintro e z ⟨p1,c1,rfl,ho,gg⟩;refine Hid.out ?_)
  refine hidp ?_
  refine hK.out _ _ (HC.out _ (Good.up GU gg)) (fun hHeld=>?_)
  clear hK K HCall
  try simp only [pT0]
  have lGU:=Nat.le_trans HLt.out GU.size
  have O1:=own_mono ho lGU
  clear ho lGU
  replace GU:=Good.up GU gg
  replace P2:=keepQ20 P2 gg
  clear gg P1
  clear hHeld
  refine lstH (l':=#[true,true,true,true,true,true,true,false,true,true,false,false,true,true,false,false,false,false,false,false,false,false,false,false]) (by kernel_rfl) ?_
  have F:=And.intro GU (And.intro P2 O1)
  clear GU P2 O1
  revert F
  revert bB
  revert c1
  revert p1
  revert bA
  revert z
  exact t2_3_6_.out
  )
  focus (
  go_simp
  refine hK.out _ _ (HC.out _ (GU.alloc _)) (fun hHeld=>?_)
  clear hK K
  try simp only [pT0]
  obtain ⟨z,hz⟩:∃ z,z=y.alloc (.cells #[.slice pN.a pN.n pN.c] 24):=⟨_,rfl⟩
  have gg:Below y.heap.size y z:=by rw [hz];exact (Below.refl _ _).alloc (Nat.le_refl _) _
  have P3:z.cell? ⟨y.heap.size,0,none⟩=some (.slice pN.a pN.n pN.c)∧y.heap.size<z.heap.size:=by rw [hz];simp [go_sem]
  replace GU:=Good.up GU gg
  replace P1:=keepQ20 P1 gg
  replace P2:=keepQ20 P2 gg
  rw [← hz]
  clear hz gg hHeld
  generalize y.heap.size=bC at *
  refine lstH (l':=#[true,true,true,false,true,true,true,false,true,true,true,false,true,true,false,false,false,false,false,false,false,false,false,false]) (by kernel_rfl) ?_
  have F:=And.intro GU (And.intro P1 (And.intro P2 P3))
  clear GU P1 P2 P3
  revert F
  revert bC
  revert bB
  revert bA
  revert z
  exact t2_6_10_.out
  )
  focus (
  go_simp
  refine hK.out _ _ (HC.out _ (GU.alloc _)) (fun hHeld=>?_)
  clear hK K
  try simp only [pT0]
  obtain ⟨z,hz⟩:∃ z,z=y.alloc (.cells #[.slice pS.a pS.n pS.c] 33):=⟨_,rfl⟩
  have gg:Below y.heap.size y z:=by rw [hz];exact (Below.refl _ _).alloc (Nat.le_refl _) _
  have P4:z.cell? ⟨y.heap.size,0,none⟩=some (.slice pS.a pS.n pS.c)∧y.heap.size<z.heap.size:=by rw [hz];simp [go_sem]
  replace GU:=Good.up GU gg
  replace P1:=keepQ20 P1 gg
  replace P2:=keepQ20 P2 gg
  rw [← hz]
  clear hz gg hHeld
  generalize y.heap.size=bD at *
  refine lstH (l':=#[true,true,true,false,true,true,true,false,true,true,false,false,true,true,true,false,false,false,false,false,false,false,false,false]) (by kernel_rfl) ?_
  have F:=And.intro GU (And.intro P1 (And.intro P2 P4))
  clear GU P1 P2 P4
  revert F
  revert bD
  revert bB
  revert bA
  revert z
  exact t2_6_14_.out
  )
  )
  focus (
  intro y bA p1 c1 F
  obtain ⟨GU,O1⟩:=F
  have hHeld:=HC.out _ GU
  clear hHeld
  refine wpAnyH_ready (rs:=[6,10,14,16]) (by kernel_rfl) (by simp) ?_
  refine AllReadyH.cons rfl (fun K hK=>?_) (AllReadyH.cons rfl (fun K hK=>?_) (AllReadyH.cons rfl (fun K hK=>?_) (AllReadyH.cons rfl (fun K hK=>?_) AllReadyH.nil)))
  focus (
  go_simp
  refine hK.out _ _ (HC.out _ (GU.alloc _)) (fun hHeld=>?_)
  clear hK K
  try simp only [pT0]
  obtain ⟨z,hz⟩:∃ z,z=y.alloc (.cells #[.slice pC.a pC.n pC.c] 25):=⟨_,rfl⟩
  have gg:Below y.heap.size y z:=by rw [hz];exact (Below.refl _ _).alloc (Nat.le_refl _) _
  have P2:z.cell? ⟨y.heap.size,0,none⟩=some (.slice pC.a pC.n pC.c)∧y.heap.size<z.heap.size:=by rw [hz];simp [go_sem]
  replace GU:=Good.up GU gg
  replace O1:=own_up O1 gg
  rw [← hz]
  clear hz gg hHeld
  generalize y.heap.size=bB at *
  refine lstH (l':=#[true,true,true,true,true,true,true,false,true,true,false,false,true,true,false,false,false,false,false,false,false,false,false,false]) (by kernel_rfl) ?_
  have F:=And.intro GU (And.intro P2 O1)
  clear GU P2 O1
  revert F
  revert bB
  revert c1
  revert p1
  revert bA
  revert z
  exact t2_3_6_.out
  )
  focus (
  go_simp
  refine hK.out _ _ (HC.out _ (GU.alloc _)) (fun hHeld=>?_)
  clear hK K
  try simp only [pT0]
  obtain ⟨z,hz⟩:∃ z,z=y.alloc (.cells #[.slice pN.a pN.n pN.c] 24):=⟨_,rfl⟩
  have gg:Below y.heap.size y z:=by rw [hz];exact (Below.refl _ _).alloc (Nat.le_refl _) _
  have P3:z.cell? ⟨y.heap.size,0,none⟩=some (.slice pN.a pN.n pN.c)∧y.heap.size<z.heap.size:=by rw [hz];simp [go_sem]
  replace GU:=Good.up GU gg
  replace O1:=own_up O1 gg
  rw [← hz]
  clear hz gg hHeld
  generalize y.heap.size=bC at *
  refine lstH (l':=#[true,true,true,true,true,true,false,false,true,true,true,false,true,true,false,false,false,false,false,false,false,false,false,false]) (by kernel_rfl) ?_
  have F:=And.intro GU (And.intro P3 O1)
  clear GU P3 O1
  revert F
  revert bC
  revert c1
  revert p1
  revert bA
  revert z
  exact t2_3_10_.out
  )
  focus (
  go_simp
  refine hK.out _ _ (HC.out _ (GU.alloc _)) (fun hHeld=>?_)
  clear hK K
  try simp only [pT0]
  obtain ⟨z,hz⟩:∃ z,z=y.alloc (.cells #[.slice pS.a pS.n pS.c] 33):=⟨_,rfl⟩
  have gg:Below y.heap.size y z:=by rw [hz];exact (Below.refl _ _).alloc (Nat.le_refl _) _
  have P4:z.cell? ⟨y.heap.size,0,none⟩=some (.slice pS.a pS.n pS.c)∧y.heap.size<z.heap.size:=by rw [hz];simp [go_sem]
  replace GU:=Good.up GU gg
  replace O1:=own_up O1 gg
  rw [← hz]
  clear hz gg hHeld
  generalize y.heap.size=bD at *
  refine lstH (l':=#[true,true,true,true,true,true,false,false,true,true,false,false,true,true,true,false,false,false,false,false,false,false,false,false]) (by kernel_rfl) ?_
  have F:=And.intro GU (And.intro P4 O1)
  clear GU P4 O1
  revert F
  revert bD
  revert c1
  revert p1
  revert bA
  revert z
  exact t2_3_14_.out
  )
  focus (
  go_simp
  refine hK.out _ _ (HC.out _ GU) (fun hHeld=>?_)
  clear hK K
  try simp only [pT0]
  clear hHeld
  refine lstH (l':=#[true,true,true,true,true,true,false,false,true,true,false,false,true,true,false,false,true,false,false,false,false,false,false,false]) (by kernel_rfl) ?_
  have F:=And.intro GU O1
  clear GU O1
  revert F
  revert c1
  revert p1
  revert bA
  revert y
  exact t2_3_16_.out
  )
  )
  focus (
  intro y bB bC bD F
  obtain ⟨GU,P2,P3,P4⟩:=F
  have hHeld:=HC.out _ GU
  clear hHeld
  refine wpAnyH_ready (rs:=[2]) (by kernel_rfl) (by simp) ?_
  refine AllReadyH.cons rfl (fun K hK=>?_) AllReadyH.nil
  focus (
  go_simp
  refine hK.out _ _ (HC.out _ (GU.alloc _)) (fun hHeld=>?_)
  clear hK K
  try simp only [pT0]
  obtain ⟨z,hz⟩:∃ z,z=y.alloc (.cells #[.slice pO.a pO.n pO.c] 24):=⟨_,rfl⟩
  have gg:Below y.heap.size y z:=by rw [hz];exact (Below.refl _ _).alloc (Nat.le_refl _) _
  have P1:z.cell? ⟨y.heap.size,0,none⟩=some (.slice pO.a pO.n pO.c)∧y.heap.size<z.heap.size:=by rw [hz];simp [go_sem]
  replace GU:=Good.up GU gg
  replace P2:=keepQ20 P2 gg
  replace P3:=keepQ20 P3 gg
  replace P4:=keepQ20 P4 gg
  rw [← hz]
  clear hz gg hHeld
  generalize y.heap.size=bA at *
  refine lstH (l':=#[true,true,true,false,true,true,true,false,true,true,true,false,true,true,true,false,false,false,false,false,false,false,false,false]) (by kernel_rfl) ?_
  have F:=And.intro GU (And.intro P1 (And.intro P2 (And.intro P3 P4)))
  clear GU P1 P2 P3 P4
  revert F
  revert bD
  revert bC
  revert bB
  revert bA
  revert z
  exact t2_6_10_14_.out
  )
  )
  focus (
  intro y bA bC bD F
  obtain ⟨GU,P1,P3,P4⟩:=F
  have hHeld:=HC.out _ GU
  clear hHeld
  refine wpAnyH_ready (rs:=[3,6]) (by kernel_rfl) (by simp) ?_
  refine AllReadyH.cons rfl (fun K hK=>?_) (AllReadyH.cons rfl (fun K hK=>?_) AllReadyH.nil)
  focus (
  rw [if_pos]
  rotate_left
  ·kernel_rfl
  have HCall:=hideIt (HCo.out _ bA GU P1)
  go_wp2_with (go_at_call 94;refine HCall.out.mono ?_;rintro e z ⟨p1,c1,rfl,ho,gg⟩;refine Hid.out ?_)
  refine hidp ?_
  refine hK.out _ _ (HC.out _ (Good.up GU gg)) (fun hHeld=>?_)
  clear hK K HCall
  try simp only [pT0]
  have lGU:=Nat.le_trans HLt.out GU.size
  have O1:=own_mono ho lGU
  clear ho lGU
  replace GU:=Good.up GU gg
  replace P3:=keepQ20 P3 gg
  replace P4:=keepQ20 P4 gg
  clear gg P1
  clear hHeld
  refine lstH (l':=#[true,true,true,true,true,true,false,false,true,true,true,false,true,true,true,false,false,false,false,false,false,false,false,false]) (by kernel_rfl) ?_
  have F:=And.intro GU (And.intro P3 (And.intro P4 O1))
  clear GU P3 P4 O1
  revert F
  revert bD
  revert bC
  revert c1
  revert p1
  revert bA
  revert z
  exact t2_3_10_14_.out
  )
  focus (
  go_simp
  refine hK.out _ _ (HC.out _ (GU.alloc _)) (fun hHeld=>?_)
  clear hK K
  try simp only [pT0]
  obtain ⟨z,hz⟩:∃ z,z=y.alloc (.cells #[.slice pC.a pC.n pC.c] 25):=⟨_,rfl⟩
  have gg:Below y.heap.size y z:=by rw [hz];exact (Below.refl _ _).alloc (Nat.le_refl _) _
  have P2:z.cell? ⟨y.heap.size,0,none⟩=some (.slice pC.a pC.n pC.c)∧y.heap.size<z.heap.size:=by rw [hz];simp [go_sem]
  replace GU:=Good.up GU gg
  replace P1:=keepQ20 P1 gg
  replace P3:=keepQ20 P3 gg
  replace P4:=keepQ20 P4 gg
  rw [← hz]
  clear hz gg hHeld
  generalize y.heap.size=bB at *
  refine lstH (l':=#[true,true,true,false,true,true,true,false,true,true,true,false,true,true,true,false,false,false,false,false,false,false,false,false]) (by kernel_rfl) ?_
  have F:=And.intro GU (And.intro P1 (And.intro P2 (And.intro P3 P4)))
  clear GU P1 P2 P3 P4
  revert F
  revert bD
  revert bC
  revert bB
  revert bA
  revert z
  exact t2_6_10_14_.out
  )
  )
  focus (
  intro y bA bB bD F
  obtain ⟨GU,P1,P2,P4⟩:=F
  have hHeld:=HC.out _ GU
  clear hHeld
  refine wpAnyH_ready (rs:=[3,10]) (by kernel_rfl) (by simp) ?_
  refine AllReadyH.cons rfl (fun K hK=>?_) (AllReadyH.cons rfl (fun K hK=>?_) AllReadyH.nil)
  focus (
  rw [if_pos]
  rotate_left
  ·kernel_rfl
  have HCall:=hideIt (HCo.out _ bA GU P1)
  go_wp2_with (go_at_call 94;refine HCall.out.mono ?_;rintro e z ⟨p1,c1,rfl,ho,gg⟩;refine Hid.out ?_)
  refine hidp ?_
  refine hK.out _ _ (HC.out _ (Good.up GU gg)) (fun hHeld=>?_)
  clear hK K HCall
  try simp only [pT0]
  have lGU:=Nat.le_trans HLt.out GU.size
  have O1:=own_mono ho lGU
  clear ho lGU
  replace GU:=Good.up GU gg
  replace P2:=keepQ20 P2 gg
  replace P4:=keepQ20 P4 gg
  clear gg P1
  clear hHeld
  refine lstH (l':=#[true,true,true,true,true,true,true,false,true,true,false,false,true,true,true,false,false,false,false,false,false,false,false,false]) (by kernel_rfl) ?_
  have F:=And.intro GU (And.intro P2 (And.intro P4 O1))
  clear GU P2 P4 O1
  revert F
  revert bD
  revert bB
  revert c1
  revert p1
  revert bA
  revert z
  exact t2_3_6_14_.out
  )
  focus (
  go_simp
  refine hK.out _ _ (HC.out _ (GU.alloc _)) (fun hHeld=>?_)
  clear hK K
  try simp only [pT0]
  obtain ⟨z,hz⟩:∃ z,z=y.alloc (.cells #[.slice pN.a pN.n pN.c] 24):=⟨_,rfl⟩
  have gg:Below y.heap.size y z:=by rw [hz];exact (Below.refl _ _).alloc (Nat.le_refl _) _
  have P3:z.cell? ⟨y.heap.size,0,none⟩=some (.slice pN.a pN.n pN.c)∧y.heap.size<z.heap.size:=by rw [hz];simp [go_sem]
  replace GU:=Good.up GU gg
  replace P1:=keepQ20 P1 gg
  replace P2:=keepQ20 P2 gg
  replace P4:=keepQ20 P4 gg
  rw [← hz]
  clear hz gg hHeld
  generalize y.heap.size=bC at *
  refine lstH (l':=#[true,true,true,false,true,true,true,false,true,true,true,false,true,true,true,false,false,false,false,false,false,false,false,false]) (by kernel_rfl) ?_
  have F:=And.intro GU (And.intro P1 (And.intro P2 (And.intro P3 P4)))
  clear GU P1 P2 P3 P4
  revert F
  revert bD
  revert bC
  revert bB
  revert bA
  revert z
  exact t2_6_10_14_.out
  )
  )
  focus (
  intro y bA bB bC F
  obtain ⟨GU,P1,P2,P3⟩:=F
  have hHeld:=HC.out _ GU
  clear hHeld
  refine wpAnyH_ready (rs:=[3,14]) (by kernel_rfl) (by simp) ?_
  refine AllReadyH.cons rfl (fun K hK=>?_) (AllReadyH.cons rfl (fun K hK=>?_) AllReadyH.nil)
  focus (
  rw [if_pos]
  rotate_left
  ·kernel_rfl
  have HCall:=hideIt (HCo.out _ bA GU P1)
  go_wp2_with (go_at_call 94;refine HCall.out.mono ?_;rintro e z ⟨p1,c1,rfl,ho,gg⟩;refine Hid.out ?_)
  refine hidp ?_
  refine hK.out _ _ (HC.out _ (Good.up GU gg)) (fun hHeld=>?_)
  clear hK K HCall
  try simp only [pT0]
  have lGU:=Nat.le_trans HLt.out GU.size
  have O1:=own_mono ho lGU
  clear ho lGU
  replace GU:=Good.up GU gg
  replace P2:=keepQ20 P2 gg
  replace P3:=keepQ20 P3 gg
  clear gg P1
  clear hHeld
  refine lstH (l':=#[true,true,true,true,true,true,true,false,true,true,true,false,true,true,false,false,false,false,false,false,false,false,false,false]) (by kernel_rfl) ?_
  have F:=And.intro GU (And.intro P2 (And.intro P3 O1))
  clear GU P2 P3 O1
  revert F
  revert bC
  revert bB
  revert c1
  revert p1
  revert bA
  revert z
  exact t2_3_6_10_.out
  )
  focus (
  go_simp
  refine hK.out _ _ (HC.out _ (GU.alloc _)) (fun hHeld=>?_)
  clear hK K
  try simp only [pT0]
  obtain ⟨z,hz⟩:∃ z,z=y.alloc (.cells #[.slice pS.a pS.n pS.c] 33):=⟨_,rfl⟩
  have gg:Below y.heap.size y z:=by rw [hz];exact (Below.refl _ _).alloc (Nat.le_refl _) _
  have P4:z.cell? ⟨y.heap.size,0,none⟩=some (.slice pS.a pS.n pS.c)∧y.heap.size<z.heap.size:=by rw [hz];simp [go_sem]
  replace GU:=Good.up GU gg
  replace P1:=keepQ20 P1 gg
  replace P2:=keepQ20 P2 gg
  replace P3:=keepQ20 P3 gg
  rw [← hz]
  clear hz gg hHeld
  generalize y.heap.size=bD at *
  refine lstH (l':=#[true,true,true,false,true,true,true,false,true,true,true,false,true,true,true,false,false,false,false,false,false,false,false,false]) (by kernel_rfl) ?_
  have F:=And.intro GU (And.intro P1 (And.intro P2 (And.intro P3 P4)))
  clear GU P1 P2 P3 P4
  revert F
  revert bD
  revert bC
  revert bB
  revert bA
  revert z
  exact t2_6_10_14_.out
  )
  )
  focus (
  intro y bA p1 c1 bD F
  obtain ⟨GU,P4,O1⟩:=F
  have hHeld:=HC.out _ GU
  clear hHeld
  refine wpAnyH_ready (rs:=[6,10,16]) (by kernel_rfl) (by simp) ?_
  refine AllReadyH.cons rfl (fun K hK=>?_) (AllReadyH.cons rfl (fun K hK=>?_) (AllReadyH.cons rfl (fun K hK=>?_) AllReadyH.nil))
  focus (
  go_simp
  refine hK.out _ _ (HC.out _ (GU.alloc _)) (fun hHeld=>?_)
  clear hK K
  try simp only [pT0]
  obtain ⟨z,hz⟩:∃ z,z=y.alloc (.cells #[.slice pC.a pC.n pC.c] 25):=⟨_,rfl⟩
  have gg:Below y.heap.size y z:=by rw [hz];exact (Below.refl _ _).alloc (Nat.le_refl _) _
  have P2:z.cell? ⟨y.heap.size,0,none⟩=some (.slice pC.a pC.n pC.c)∧y.heap.size<z.heap.size:=by rw [hz];simp [go_sem]
  replace GU:=Good.up GU gg
  replace P4:=keepQ20 P4 gg
  replace O1:=own_up O1 gg
  rw [← hz]
  clear hz gg hHeld
  generalize y.heap.size=bB at *
  refine lstH (l':=#[true,true,true,true,true,true,true,false,true,true,false,false,true,true,true,false,false,false,false,false,false,false,false,false]) (by kernel_rfl) ?_
  have F:=And.intro GU (And.intro P2 (And.intro P4 O1))
  clear GU P2 P4 O1
  revert F
  revert bD
  revert bB
  revert c1
  revert p1
  revert bA
  revert z
  exact t2_3_6_14_.out
  )
  focus (
  go_simp
  refine hK.out _ _ (HC.out _ (GU.alloc _)) (fun hHeld=>?_)
  clear hK K
  try simp only [pT0]
  obtain ⟨z,hz⟩:∃ z,z=y.alloc (.cells #[.slice pN.a pN.n pN.c] 24):=⟨_,rfl⟩
  have gg:Below y.heap.size y z:=by rw [hz];exact (Below.refl _ _).alloc (Nat.le_refl _) _
  have P3:z.cell? ⟨y.heap.size,0,none⟩=some (.slice pN.a pN.n pN.c)∧y.heap.size<z.heap.size:=by rw [hz];simp [go_sem]
  replace GU:=Good.up GU gg
  replace P4:=keepQ20 P4 gg
  replace O1:=own_up O1 gg
  rw [← hz]
  clear hz gg hHeld
  generalize y.heap.size=bC at *
  refine lstH (l':=#[true,true,true,true,true,true,false,false,true,true,true,false,true,true,true,false,false,false,false,false,false,false,false,false]) (by kernel_rfl) ?_
  have F:=And.intro GU (And.intro P3 (And.intro P4 O1))
  clear GU P3 P4 O1
  revert F
  revert bD
  revert bC
  revert c1
  revert p1
  revert bA
  revert z
  exact t2_3_10_14_.out
  )
  focus (
  go_simp
  refine hK.out _ _ (HC.out _ GU) (fun hHeld=>?_)
  clear hK K
  try simp only [pT0]
  clear hHeld
  refine lstH (l':=#[true,true,true,true,true,true,false,false,true,true,false,false,true,true,true,false,true,false,false,false,false,false,false,false]) (by kernel_rfl) ?_
  have F:=And.intro GU (And.intro P4 O1)
  clear GU P4 O1
  revert F
  revert bD
  revert c1
  revert p1
  revert bA
  revert y
  exact t2_3_14_16_.out
  )
  )
  focus (
  intro y bA p1 c1 bC F
  obtain ⟨GU,P3,O1⟩:=F
  have hHeld:=HC.out _ GU
  clear hHeld
  refine wpAnyH_ready (rs:=[6,14,16]) (by kernel_rfl) (by simp) ?_
  refine AllReadyH.cons rfl (fun K hK=>?_) (AllReadyH.cons rfl (fun K hK=>?_) (AllReadyH.cons rfl (fun K hK=>?_) AllReadyH.nil))
  focus (
  go_simp
  refine hK.out _ _ (HC.out _ (GU.alloc _)) (fun hHeld=>?_)
  clear hK K
  try simp only [pT0]
  obtain ⟨z,hz⟩:∃ z,z=y.alloc (.cells #[.slice pC.a pC.n pC.c] 25):=⟨_,rfl⟩
  have gg:Below y.heap.size y z:=by rw [hz];exact (Below.refl _ _).alloc (Nat.le_refl _) _
  have P2:z.cell? ⟨y.heap.size,0,none⟩=some (.slice pC.a pC.n pC.c)∧y.heap.size<z.heap.size:=by rw [hz];simp [go_sem]
  replace GU:=Good.up GU gg
  replace P3:=keepQ20 P3 gg
  replace O1:=own_up O1 gg
  rw [← hz]
  clear hz gg hHeld
  generalize y.heap.size=bB at *
  refine lstH (l':=#[true,true,true,true,true,true,true,false,true,true,true,false,true,true,false,false,false,false,false,false,false,false,false,false]) (by kernel_rfl) ?_
  have F:=And.intro GU (And.intro P2 (And.intro P3 O1))
  clear GU P2 P3 O1
  revert F
  revert bC
  revert bB
  revert c1
  revert p1
  revert bA
  revert z
  exact t2_3_6_10_.out
  )
  focus (
  go_simp
  refine hK.out _ _ (HC.out _ (GU.alloc _)) (fun hHeld=>?_)
  clear hK K
  try simp only [pT0]
  obtain ⟨z,hz⟩:∃ z,z=y.alloc (.cells #[.slice pS.a pS.n pS.c] 33):=⟨_,rfl⟩
  have gg:Below y.heap.size y z:=by rw [hz];exact (Below.refl _ _).alloc (Nat.le_refl _) _
  have P4:z.cell? ⟨y.heap.size,0,none⟩=some (.slice pS.a pS.n pS.c)∧y.heap.size<z.heap.size:=by rw [hz];simp [go_sem]
  replace GU:=Good.up GU gg
  replace P3:=keepQ20 P3 gg
  replace O1:=own_up O1 gg
  rw [← hz]
  clear hz gg hHeld
  generalize y.heap.size=bD at *
  refine lstH (l':=#[true,true,true,true,true,true,false,false,true,true,true,false,true,true,true,false,false,false,false,false,false,false,false,false]) (by kernel_rfl) ?_
  have F:=And.intro GU (And.intro P3 (And.intro P4 O1))
  clear GU P3 P4 O1
  revert F
  revert bD
  revert bC
  revert c1
  revert p1
  revert bA
  revert z
  exact t2_3_10_14_.out
  )
  focus (
  go_simp
  refine hK.out _ _ (HC.out _ GU) (fun hHeld=>?_)
  clear hK K
  try simp only [pT0]
  clear hHeld
  refine lstH (l':=#[true,true,true,true,true,true,false,false,true,true,true,false,true,true,false,false,true,false,false,false,false,false,false,false]) (by kernel_rfl) ?_
  have F:=And.intro GU (And.intro P3 O1)
  clear GU P3 O1
  revert F
  revert bC
  revert c1
  revert p1
  revert bA
  revert y
  exact t2_3_10_16_.out
  )
  )
  focus (
  intro y bA p1 c1 bB F
  obtain ⟨GU,P2,O1⟩:=F
  have hHeld:=HC.out _ GU
  clear hHeld
  refine wpAnyH_ready (rs:=[7,10,14,16]) (by kernel_rfl) (by simp) ?_
  refine AllReadyH.cons rfl (fun K hK=>?_) (AllReadyH.cons rfl (fun K hK=>?_) (AllReadyH.cons rfl (fun K hK=>?_) (AllReadyH.cons rfl (fun K hK=>?_) AllReadyH.nil)))
  focus (
  rw [if_pos]
  rotate_left
  ·kernel_rfl
  have HCall:=hideIt (HCe.out _ bB GU P2)
  go_wp2_with (go_at_call 107;refine HCall.out.mono ?_;rintro e z ⟨p2,c2,rfl,ho,gg⟩;refine Hid.out ?_)
  refine hidp ?_
  refine hK.out _ _ (HC.out _ (Good.up GU gg)) (fun hHeld=>?_)
  clear hK K HCall
  try simp only [pT0]
  have lGU:=Nat.le_trans HLt.out GU.size
  have O2:=own_mono ho lGU
  clear ho lGU
  replace GU:=Good.up GU gg
  replace O1:=own_up O1 gg
  clear gg P2
  clear hHeld
  refine lstH (l':=#[true,true,true,true,true,true,true,true,true,true,false,false,true,true,false,false,false,false,false,false,false,false,false,false]) (by kernel_rfl) ?_
  have F:=And.intro GU (And.intro O1 O2)
  clear GU O1 O2
  revert F
  revert c2
  revert p2
  revert bB
  revert c1
  revert p1
  revert bA
  revert z
  exact t2_3_6_7_.out
  )
  focus (
  go_simp
  refine hK.out _ _ (HC.out _ (GU.alloc _)) (fun hHeld=>?_)
  clear hK K
  try simp only [pT0]
  obtain ⟨z,hz⟩:∃ z,z=y.alloc (.cells #[.slice pN.a pN.n pN.c] 24):=⟨_,rfl⟩
  have gg:Below y.heap.size y z:=by rw [hz];exact (Below.refl _ _).alloc (Nat.le_refl _) _
  have P3:z.cell? ⟨y.heap.size,0,none⟩=some (.slice pN.a pN.n pN.c)∧y.heap.size<z.heap.size:=by rw [hz];simp [go_sem]
  replace GU:=Good.up GU gg
  replace P2:=keepQ20 P2 gg
  replace O1:=own_up O1 gg
  rw [← hz]
  clear hz gg hHeld
  generalize y.heap.size=bC at *
  refine lstH (l':=#[true,true,true,true,true,true,true,false,true,true,true,false,true,true,false,false,false,false,false,false,false,false,false,false]) (by kernel_rfl) ?_
  have F:=And.intro GU (And.intro P2 (And.intro P3 O1))
  clear GU P2 P3 O1
  revert F
  revert bC
  revert bB
  revert c1
  revert p1
  revert bA
  revert z
  exact t2_3_6_10_.out
  )
  focus (
  go_simp
  refine hK.out _ _ (HC.out _ (GU.alloc _)) (fun hHeld=>?_)
  clear hK K
  try simp only [pT0]
  obtain ⟨z,hz⟩:∃ z,z=y.alloc (.cells #[.slice pS.a pS.n pS.c] 33):=⟨_,rfl⟩
  have gg:Below y.heap.size y z:=by rw [hz];exact (Below.refl _ _).alloc (Nat.le_refl _) _
  have P4:z.cell? ⟨y.heap.size,0,none⟩=some (.slice pS.a pS.n pS.c)∧y.heap.size<z.heap.size:=by rw [hz];simp [go_sem]
  replace GU:=Good.up GU gg
  replace P2:=keepQ20 P2 gg
  replace O1:=own_up O1 gg
  rw [← hz]
  clear hz gg hHeld
  generalize y.heap.size=bD at *
  refine lstH (l':=#[true,true,true,true,true,true,true,false,true,true,false,false,true,true,true,false,false,false,false,false,false,false,false,false]) (by kernel_rfl) ?_
  have F:=And.intro GU (And.intro P2 (And.intro P4 O1))
  clear GU P2 P4 O1
  revert F
  revert bD
  revert bB
  revert c1
  revert p1
  revert bA
  revert z
  exact t2_3_6_14_.out
  )
  focus (
  go_simp
  refine hK.out _ _ (HC.out _ GU) (fun hHeld=>?_)
  clear hK K
  try simp only [pT0]
  clear hHeld
  refine lstH (l':=#[true,true,true,true,true,true,true,false,true,true,false,false,true,true,false,false,true,false,false,false,false,false,false,false]) (by kernel_rfl) ?_
  have F:=And.intro GU (And.intro P2 O1)
  clear GU P2 O1
  revert F
  revert bB
  revert c1
  revert p1
  revert bA
  revert y
  exact t2_3_6_16_.out
  )
  )
  focus (
  intro y bA p1 c1 F
  obtain ⟨GU,O1⟩:=F
  have hHeld:=HC.out _ GU
  clear hHeld
  refine wpAnyH_ready (rs:=[6,10,14]) (by kernel_rfl) (by simp) ?_
  refine AllReadyH.cons rfl (fun K hK=>?_) (AllReadyH.cons rfl (fun K hK=>?_) (AllReadyH.cons rfl (fun K hK=>?_) AllReadyH.nil))
  focus (
  go_simp
  refine hK.out _ _ (HC.out _ (GU.alloc _)) (fun hHeld=>?_)
  clear hK K
  try simp only [pT0]
  obtain ⟨z,hz⟩:∃ z,z=y.alloc (.cells #[.slice pC.a pC.n pC.c] 25):=⟨_,rfl⟩
  have gg:Below y.heap.size y z:=by rw [hz];exact (Below.refl _ _).alloc (Nat.le_refl _) _
  have P2:z.cell? ⟨y.heap.size,0,none⟩=some (.slice pC.a pC.n pC.c)∧y.heap.size<z.heap.size:=by rw [hz];simp [go_sem]
  replace GU:=Good.up GU gg
  replace O1:=own_up O1 gg
  rw [← hz]
  clear hz gg hHeld
  generalize y.heap.size=bB at *
  refine lstH (l':=#[true,true,true,true,true,true,true,false,true,true,false,false,true,true,false,false,true,false,false,false,false,false,false,false]) (by kernel_rfl) ?_
  have F:=And.intro GU (And.intro P2 O1)
  clear GU P2 O1
  revert F
  revert bB
  revert c1
  revert p1
  revert bA
  revert z
  exact t2_3_6_16_.out
  )
  focus (
  go_simp
  refine hK.out _ _ (HC.out _ (GU.alloc _)) (fun hHeld=>?_)
  clear hK K
  try simp only [pT0]
  obtain ⟨z,hz⟩:∃ z,z=y.alloc (.cells #[.slice pN.a pN.n pN.c] 24):=⟨_,rfl⟩
  have gg:Below y.heap.size y z:=by rw [hz];exact (Below.refl _ _).alloc (Nat.le_refl _) _
  have P3:z.cell? ⟨y.heap.size,0,none⟩=some (.slice pN.a pN.n pN.c)∧y.heap.size<z.heap.size:=by rw [hz];simp [go_sem]
  replace GU:=Good.up GU gg
  replace O1:=own_up O1 gg
  rw [← hz]
  clear hz gg hHeld
  generalize y.heap.size=bC at *
  refine lstH (l':=#[true,true,true,true,true,true,false,false,true,true,true,false,true,true,false,false,true,false,false,false,false,false,false,false]) (by kernel_rfl) ?_
  have F:=And.intro GU (And.intro P3 O1)
  clear GU P3 O1
  revert F
  revert bC
  revert c1
  revert p1
  revert bA
  revert z
  exact t2_3_10_16_.out
  )
  focus (
  go_simp
  refine hK.out _ _ (HC.out _ (GU.alloc _)) (fun hHeld=>?_)
  clear hK K
  try simp only [pT0]
  obtain ⟨z,hz⟩:∃ z,z=y.alloc (.cells #[.slice pS.a pS.n pS.c] 33):=⟨_,rfl⟩
  have gg:Below y.heap.size y z:=by rw [hz];exact (Below.refl _ _).alloc (Nat.le_refl _) _
  have P4:z.cell? ⟨y.heap.size,0,none⟩=some (.slice pS.a pS.n pS.c)∧y.heap.size<z.heap.size:=by rw [hz];simp [go_sem]
  replace GU:=Good.up GU gg
  replace O1:=own_up O1 gg
  rw [← hz]
  clear hz gg hHeld
  generalize y.heap.size=bD at *
  refine lstH (l':=#[true,true,true,true,true,true,false,false,true,true,false,false,true,true,true,false,true,false,false,false,false,false,false,false]) (by kernel_rfl) ?_
  have F:=And.intro GU (And.intro P4 O1)
  clear GU P4 O1
  revert F
  revert bD
  revert c1
  revert p1
  revert bA
  revert z
  exact t2_3_14_16_.out
  )
  )
  focus (
  intro y bA bB bC bD F
  obtain ⟨GU,P1,P2,P3,P4⟩:=F
  have hHeld:=HC.out _ GU
  clear hHeld
  refine wpAnyH_ready (rs:=[3]) (by kernel_rfl) (by simp) ?_
  refine AllReadyH.cons rfl (fun K hK=>?_) AllReadyH.nil
  focus (
  rw [if_pos]
  rotate_left
  ·kernel_rfl
  have HCall:=hideIt (HCo.out _ bA GU P1)
  go_wp2_with (go_at_call 94;refine HCall.out.mono ?_;rintro e z ⟨p1,c1,rfl,ho,gg⟩;refine Hid.out ?_)
  refine hidp ?_
  refine hK.out _ _ (HC.out _ (Good.up GU gg)) (fun hHeld=>?_)
  clear hK K HCall
  try simp only [pT0]
  have lGU:=Nat.le_trans HLt.out GU.size
  have O1:=own_mono ho lGU
  clear ho lGU
  replace GU:=Good.up GU gg
  replace P2:=keepQ20 P2 gg
  replace P3:=keepQ20 P3 gg
  replace P4:=keepQ20 P4 gg
  clear gg P1
  clear hHeld
  refine lstH (l':=#[true,true,true,true,true,true,true,false,true,true,true,false,true,true,true,false,false,false,false,false,false,false,false,false]) (by kernel_rfl) ?_
  have F:=And.intro GU (And.intro P2 (And.intro P3 (And.intro P4 O1)))
  clear GU P2 P3 P4 O1
  revert F
  revert bD
  revert bC
  revert bB
  revert c1
  revert p1
  revert bA
  revert z
  exact t2_3_6_10_14_.out
  )
  )
  focus (
  intro y bA p1 c1 bC bD F
  obtain ⟨GU,P3,P4,O1⟩:=F
  have hHeld:=HC.out _ GU
  clear hHeld
  refine wpAnyH_ready (rs:=[6,16]) (by kernel_rfl) (by simp) ?_
  refine AllReadyH.cons rfl (fun K hK=>?_) (AllReadyH.cons rfl (fun K hK=>?_) AllReadyH.nil)
  focus (
  go_simp
  refine hK.out _ _ (HC.out _ (GU.alloc _)) (fun hHeld=>?_)
  clear hK K
  try simp only [pT0]
  obtain ⟨z,hz⟩:∃ z,z=y.alloc (.cells #[.slice pC.a pC.n pC.c] 25):=⟨_,rfl⟩
  have gg:Below y.heap.size y z:=by rw [hz];exact (Below.refl _ _).alloc (Nat.le_refl _) _
  have P2:z.cell? ⟨y.heap.size,0,none⟩=some (.slice pC.a pC.n pC.c)∧y.heap.size<z.heap.size:=by rw [hz];simp [go_sem]
  replace GU:=Good.up GU gg
  replace P3:=keepQ20 P3 gg
  replace P4:=keepQ20 P4 gg
  replace O1:=own_up O1 gg
  rw [← hz]
  clear hz gg hHeld
  generalize y.heap.size=bB at *
  refine lstH (l':=#[true,true,true,true,true,true,true,false,true,true,true,false,true,true,true,false,false,false,false,false,false,false,false,false]) (by kernel_rfl) ?_
  have F:=And.intro GU (And.intro P2 (And.intro P3 (And.intro P4 O1)))
  clear GU P2 P3 P4 O1
  revert F
  revert bD
  revert bC
  revert bB
  revert c1
  revert p1
  revert bA
  revert z
  exact t2_3_6_10_14_.out
  )
  focus (
  go_simp
  refine hK.out _ _ (HC.out _ GU) (fun hHeld=>?_)
  clear hK K
  try simp only [pT0]
  clear hHeld
  refine lstH (l':=#[true,true,true,true,true,true,false,false,true,true,true,false,true,true,true,false,true,false,false,false,false,false,false,false]) (by kernel_rfl) ?_
  have F:=And.intro GU (And.intro P3 (And.intro P4 O1))
  clear GU P3 P4 O1
  revert F
  revert bD
  revert bC
  revert c1
  revert p1
  revert bA
  revert y
  exact t2_3_10_14_16_.out
  )
  )
  focus (
  intro y bA p1 c1 bB bD F
  obtain ⟨GU,P2,P4,O1⟩:=F
  have hHeld:=HC.out _ GU
  clear hHeld
  refine wpAnyH_ready (rs:=[7,10,16]) (by kernel_rfl) (by simp) ?_
  refine AllReadyH.cons rfl (fun K hK=>?_) (AllReadyH.cons rfl (fun K hK=>?_) (AllReadyH.cons rfl (fun K hK=>?_) AllReadyH.nil))
  focus (
  rw [if_pos]
  rotate_left
  ·kernel_rfl
  have HCall:=hideIt (HCe.out _ bB GU P2)
  go_wp2_with (go_at_call 107;refine HCall.out.mono ?_;rintro e z ⟨p2,c2,rfl,ho,gg⟩;refine Hid.out ?_)
  refine hidp ?_
  refine hK.out _ _ (HC.out _ (Good.up GU gg)) (fun hHeld=>?_)
  clear hK K HCall
  try simp only [pT0]
  have lGU:=Nat.le_trans HLt.out GU.size
  have O2:=own_mono ho lGU
  clear ho lGU
  replace GU:=Good.up GU gg
  replace P4:=keepQ20 P4 gg
  replace O1:=own_up O1 gg
  clear gg P2
  clear hHeld
  refine lstH (l':=#[true,true,true,true,true,true,true,true,true,true,false,false,true,true,true,false,false,false,false,false,false,false,false,false]) (by kernel_rfl) ?_
  have F:=And.intro GU (And.intro P4 (And.intro O1 O2))
  clear GU P4 O1 O2
  revert F
  revert bD
  revert c2
  revert p2
  revert bB
  revert c1
  revert p1
  revert bA
  revert z
  exact t2_3_6_7_14_.out
  )
  focus (
  go_simp
  refine hK.out _ _ (HC.out _ (GU.alloc _)) (fun hHeld=>?_)
  clear hK K
  try simp only [pT0]
  obtain ⟨z,hz⟩:∃ z,z=y.alloc (.cells #[.slice pN.a pN.n pN.c] 24):=⟨_,rfl⟩
  have gg:Below y.heap.size y z:=by rw [hz];exact (Below.refl _ _).alloc (Nat.le_refl _) _
  have P3:z.cell? ⟨y.heap.size,0,none⟩=some (.slice pN.a pN.n pN.c)∧y.heap.size<z.heap.size:=by rw [hz];simp [go_sem]
  replace GU:=Good.up GU gg
  replace P2:=keepQ20 P2 gg
  replace P4:=keepQ20 P4 gg
  replace O1:=own_up O1 gg
  rw [← hz]
  clear hz gg hHeld
  generalize y.heap.size=bC at *
  refine lstH (l':=#[true,true,true,true,true,true,true,false,true,true,true,false,true,true,true,false,false,false,false,false,false,false,false,false]) (by kernel_rfl) ?_
  have F:=And.intro GU (And.intro P2 (And.intro P3 (And.intro P4 O1)))
  clear GU P2 P3 P4 O1
  revert F
  revert bD
  revert bC
  revert bB
  revert c1
  revert p1
  revert bA
  revert z
  exact t2_3_6_10_14_.out
  )
  focus (
  go_simp
  refine hK.out _ _ (HC.out _ GU) (fun hHeld=>?_)
  clear hK K
  try simp only [pT0]
  clear hHeld
  refine lstH (l':=#[true,true,true,true,true,true,true,false,true,true,false,false,true,true,true,false,true,false,false,false,false,false,false,false]) (by kernel_rfl) ?_
  have F:=And.intro GU (And.intro P2 (And.intro P4 O1))
  clear GU P2 P4 O1
  revert F
  revert bD
  revert bB
  revert c1
  revert p1
  revert bA
  revert y
  exact t2_3_6_14_16_.out
  )
  )
  focus (
  intro y bA p1 c1 bB bC F
  obtain ⟨GU,P2,P3,O1⟩:=F
  have hHeld:=HC.out _ GU
  clear hHeld
  refine wpAnyH_ready (rs:=[7,14,16]) (by kernel_rfl) (by simp) ?_
  refine AllReadyH.cons rfl (fun K hK=>?_) (AllReadyH.cons rfl (fun K hK=>?_) (AllReadyH.cons rfl (fun K hK=>?_) AllReadyH.nil))
  focus (
  rw [if_pos]
  rotate_left
  ·kernel_rfl
  have HCall:=hideIt (HCe.out _ bB GU P2)
  go_wp2_with (go_at_call 107;refine HCall.out.mono ?_;rintro e z ⟨p2,c2,rfl,ho,gg⟩;refine Hid.out ?_)
  refine hidp ?_
  refine hK.out _ _ (HC.out _ (Good.up GU gg)) (fun hHeld=>?_)
  clear hK K HCall
  try simp only [pT0]
  have lGU:=Nat.le_trans HLt.out GU.size
  have O2:=own_mono ho lGU
  clear ho lGU
  replace GU:=Good.up GU gg
  replace P3:=keepQ20 P3 gg
  replace O1:=own_up O1 gg
  clear gg P2
  clear hHeld
  refine lstH (l':=#[true,true,true,true,true,true,true,true,true,true,true,false,true,true,false,false,false,false,false,false,false,false,false,false]) (by kernel_rfl) ?_
  have F:=And.intro GU (And.intro P3 (And.intro O1 O2))
  clear GU P3 O1 O2
  revert F
  revert bC
  revert c2
  revert p2
  revert bB
  revert c1
  revert p1
  revert bA
  revert z
  exact t2_3_6_7_10_.out
  )
  focus (
  go_simp
  refine hK.out _ _ (HC.out _ (GU.alloc _)) (fun hHeld=>?_)
  clear hK K
  try simp only [pT0]
  obtain ⟨z,hz⟩:∃ z,z=y.alloc (.cells #[.slice pS.a pS.n pS.c] 33):=⟨_,rfl⟩
  have gg:Below y.heap.size y z:=by rw [hz];exact (Below.refl _ _).alloc (Nat.le_refl _) _
  have P4:z.cell? ⟨y.heap.size,0,none⟩=some (.slice pS.a pS.n pS.c)∧y.heap.size<z.heap.size:=by rw [hz];simp [go_sem]
  replace GU:=Good.up GU gg
  replace P2:=keepQ20 P2 gg
  replace P3:=keepQ20 P3 gg
  replace O1:=own_up O1 gg
  rw [← hz]
  clear hz gg hHeld
  generalize y.heap.size=bD at *
  refine lstH (l':=#[true,true,true,true,true,true,true,false,true,true,true,false,true,true,true,false,false,false,false,false,false,false,false,false]) (by kernel_rfl) ?_
  have F:=And.intro GU (And.intro P2 (And.intro P3 (And.intro P4 O1)))
  clear GU P2 P3 P4 O1
  revert F
  revert bD
  revert bC
  revert bB
  revert c1
  revert p1
  revert bA
  revert z
  exact t2_3_6_10_14_.out
  )
  focus (
  go_simp
  refine hK.out _ _ (HC.out _ GU) (fun hHeld=>?_)
  clear hK K
  try simp only [pT0]
  clear hHeld
  refine lstH (l':=#[true,true,true,true,true,true,true,false,true,true,true,false,true,true,false,false,true,false,false,false,false,false,false,false]) (by kernel_rfl) ?_
  have F:=And.intro GU (And.intro P2 (And.intro P3 O1))
  clear GU P2 P3 O1
  revert F
  revert bC
  revert bB
  revert c1
  revert p1
  revert bA
  revert y
  exact t2_3_6_10_16_.out
  )
  )
  focus (
  intro y bA p1 c1 bB p2 c2 F
  obtain ⟨GU,O1,O2⟩:=F
  have hHeld:=HC.out _ GU
  clear hHeld
  refine wpAnyH_ready (rs:=[10,14,16]) (by kernel_rfl) (by simp) ?_
  refine AllReadyH.cons rfl (fun K hK=>?_) (AllReadyH.cons rfl (fun K hK=>?_) (AllReadyH.cons rfl (fun K hK=>?_) AllReadyH.nil))
  focus (
  go_simp
  refine hK.out _ _ (HC.out _ (GU.alloc _)) (fun hHeld=>?_)
  clear hK K
  try simp only [pT0]
  obtain ⟨z,hz⟩:∃ z,z=y.alloc (.cells #[.slice pN.a pN.n pN.c] 24):=⟨_,rfl⟩
  have gg:Below y.heap.size y z:=by rw [hz];exact (Below.refl _ _).alloc (Nat.le_refl _) _
  have P3:z.cell? ⟨y.heap.size,0,none⟩=some (.slice pN.a pN.n pN.c)∧y.heap.size<z.heap.size:=by rw [hz];simp [go_sem]
  replace GU:=Good.up GU gg
  replace O1:=own_up O1 gg
  replace O2:=own_up O2 gg
  rw [← hz]
  clear hz gg hHeld
  generalize y.heap.size=bC at *
  refine lstH (l':=#[true,true,true,true,true,true,true,true,true,true,true,false,true,true,false,false,false,false,false,false,false,false,false,false]) (by kernel_rfl) ?_
  have F:=And.intro GU (And.intro P3 (And.intro O1 O2))
  clear GU P3 O1 O2
  revert F
  revert bC
  revert c2
  revert p2
  revert bB
  revert c1
  revert p1
  revert bA
  revert z
  exact t2_3_6_7_10_.out
  )
  focus (
  go_simp
  refine hK.out _ _ (HC.out _ (GU.alloc _)) (fun hHeld=>?_)
  clear hK K
  try simp only [pT0]
  obtain ⟨z,hz⟩:∃ z,z=y.alloc (.cells #[.slice pS.a pS.n pS.c] 33):=⟨_,rfl⟩
  have gg:Below y.heap.size y z:=by rw [hz];exact (Below.refl _ _).alloc (Nat.le_refl _) _
  have P4:z.cell? ⟨y.heap.size,0,none⟩=some (.slice pS.a pS.n pS.c)∧y.heap.size<z.heap.size:=by rw [hz];simp [go_sem]
  replace GU:=Good.up GU gg
  replace O1:=own_up O1 gg
  replace O2:=own_up O2 gg
  rw [← hz]
  clear hz gg hHeld
  generalize y.heap.size=bD at *
  refine lstH (l':=#[true,true,true,true,true,true,true,true,true,true,false,false,true,true,true,false,false,false,false,false,false,false,false,false]) (by kernel_rfl) ?_
  have F:=And.intro GU (And.intro P4 (And.intro O1 O2))
  clear GU P4 O1 O2
  revert F
  revert bD
  revert c2
  revert p2
  revert bB
  revert c1
  revert p1
  revert bA
  revert z
  exact t2_3_6_7_14_.out
  )
  focus (
  go_simp
  refine hK.out _ _ (HC.out _ GU) (fun hHeld=>?_)
  clear hK K
  try simp only [pT0]
  clear hHeld
  refine lstH (l':=#[true,true,true,true,true,true,true,true,true,true,false,false,true,true,false,false,true,false,false,false,false,false,false,false]) (by kernel_rfl) ?_
  have F:=And.intro GU (And.intro O1 O2)
  clear GU O1 O2
  revert F
  revert c2
  revert p2
  revert bB
  revert c1
  revert p1
  revert bA
  revert y
  exact t2_3_6_7_16_.out
  )
  )
  focus (
  intro y bA p1 c1 bD F
  obtain ⟨GU,P4,O1⟩:=F
  have hHeld:=HC.out _ GU
  clear hHeld
  refine wpAnyH_ready (rs:=[6,10]) (by kernel_rfl) (by simp) ?_
  refine AllReadyH.cons rfl (fun K hK=>?_) (AllReadyH.cons rfl (fun K hK=>?_) AllReadyH.nil)
  focus (
  go_simp
  refine hK.out _ _ (HC.out _ (GU.alloc _)) (fun hHeld=>?_)
  clear hK K
  try simp only [pT0]
  obtain ⟨z,hz⟩:∃ z,z=y.alloc (.cells #[.slice pC.a pC.n pC.c] 25):=⟨_,rfl⟩
  have gg:Below y.heap.size y z:=by rw [hz];exact (Below.refl _ _).alloc (Nat.le_refl _) _
  have P2:z.cell? ⟨y.heap.size,0,none⟩=some (.slice pC.a pC.n pC.c)∧y.heap.size<z.heap.size:=by rw [hz];simp [go_sem]
  replace GU:=Good.up GU gg
  replace P4:=keepQ20 P4 gg
  replace O1:=own_up O1 gg
  rw [← hz]
  clear hz gg hHeld
  generalize y.heap.size=bB at *
  refine lstH (l':=#[true,true,true,true,true,true,true,false,true,true,false,false,true,true,true,false,true,false,false,false,false,false,false,false]) (by kernel_rfl) ?_
  have F:=And.intro GU (And.intro P2 (And.intro P4 O1))
  clear GU P2 P4 O1
  revert F
  revert bD
  revert bB
  revert c1
  revert p1
  revert bA
  revert z
  exact t2_3_6_14_16_.out
  )
  focus (
  go_simp
  refine hK.out _ _ (HC.out _ (GU.alloc _)) (fun hHeld=>?_)
  clear hK K
  try simp only [pT0]
  obtain ⟨z,hz⟩:∃ z,z=y.alloc (.cells #[.slice pN.a pN.n pN.c] 24):=⟨_,rfl⟩
  have gg:Below y.heap.size y z:=by rw [hz];exact (Below.refl _ _).alloc (Nat.le_refl _) _
  have P3:z.cell? ⟨y.heap.size,0,none⟩=some (.slice pN.a pN.n pN.c)∧y.heap.size<z.heap.size:=by rw [hz];simp [go_sem]
  replace GU:=Good.up GU gg
  replace P4:=keepQ20 P4 gg
  replace O1:=own_up O1 gg
  rw [← hz]
  clear hz gg hHeld
  generalize y.heap.size=bC at *
  refine lstH (l':=#[true,true,true,true,true,true,false,false,true,true,true,false,true,true,true,false,true,false,false,false,false,false,false,false]) (by kernel_rfl) ?_
  have F:=And.intro GU (And.intro P3 (And.intro P4 O1))
  clear GU P3 P4 O1
  revert F
  revert bD
  revert bC
  revert c1
  revert p1
  revert bA
  revert z
  exact t2_3_10_14_16_.out
  )
  )
  focus (
  intro y bA p1 c1 bC F
  obtain ⟨GU,P3,O1⟩:=F
  have hHeld:=HC.out _ GU
  clear hHeld
  refine wpAnyH_ready (rs:=[6,14]) (by kernel_rfl) (by simp) ?_
  refine AllReadyH.cons rfl (fun K hK=>?_) (AllReadyH.cons rfl (fun K hK=>?_) AllReadyH.nil)
  focus (
  go_simp
  refine hK.out _ _ (HC.out _ (GU.alloc _)) (fun hHeld=>?_)
  clear hK K
  try simp only [pT0]
  obtain ⟨z,hz⟩:∃ z,z=y.alloc (.cells #[.slice pC.a pC.n pC.c] 25):=⟨_,rfl⟩
  have gg:Below y.heap.size y z:=by rw [hz];exact (Below.refl _ _).alloc (Nat.le_refl _) _
  have P2:z.cell? ⟨y.heap.size,0,none⟩=some (.slice pC.a pC.n pC.c)∧y.heap.size<z.heap.size:=by rw [hz];simp [go_sem]
  replace GU:=Good.up GU gg
  replace P3:=keepQ20 P3 gg
  replace O1:=own_up O1 gg
  rw [← hz]
  clear hz gg hHeld
  generalize y.heap.size=bB at *
  refine lstH (l':=#[true,true,true,true,true,true,true,false,true,true,true,false,true,true,false,false,true,false,false,false,false,false,false,false]) (by kernel_rfl) ?_
  have F:=And.intro GU (And.intro P2 (And.intro P3 O1))
  clear GU P2 P3 O1
  revert F
  revert bC
  revert bB
  revert c1
  revert p1
  revert bA
  revert z
  exact t2_3_6_10_16_.out
  )
  focus (
  go_simp
  refine hK.out _ _ (HC.out _ (GU.alloc _)) (fun hHeld=>?_)
  clear hK K
  try simp only [pT0]
  obtain ⟨z,hz⟩:∃ z,z=y.alloc (.cells #[.slice pS.a pS.n pS.c] 33):=⟨_,rfl⟩
  have gg:Below y.heap.size y z:=by rw [hz];exact (Below.refl _ _).alloc (Nat.le_refl _) _
  have P4:z.cell? ⟨y.heap.size,0,none⟩=some (.slice pS.a pS.n pS.c)∧y.heap.size<z.heap.size:=by rw [hz];simp [go_sem]
  replace GU:=Good.up GU gg
  replace P3:=keepQ20 P3 gg
  replace O1:=own_up O1 gg
  rw [← hz]
  clear hz gg hHeld
  generalize y.heap.size=bD at *
  refine lstH (l':=#[true,true,true,true,true,true,false,false,true,true,true,false,true,true,true,false,true,false,false,false,false,false,false,false]) (by kernel_rfl) ?_
  have F:=And.intro GU (And.intro P3 (And.intro P4 O1))
  clear GU P3 P4 O1
  revert F
  revert bD
  revert bC
  revert c1
  revert p1
  revert bA
  revert z
  exact t2_3_10_14_16_.out
  )
  )
  focus (
  intro y bA p1 c1 bB F
  obtain ⟨GU,P2,O1⟩:=F
  have hHeld:=HC.out _ GU
  clear hHeld
  refine wpAnyH_ready (rs:=[7,10,14]) (by kernel_rfl) (by simp) ?_
  refine AllReadyH.cons rfl (fun K hK=>?_) (AllReadyH.cons rfl (fun K hK=>?_) (AllReadyH.cons rfl (fun K hK=>?_) AllReadyH.nil))
  focus (
  rw [if_pos]
  rotate_left
  ·kernel_rfl
  have HCall:=hideIt (HCe.out _ bB GU P2)
  go_wp2_with (go_at_call 107;refine HCall.out.mono ?_;rintro e z ⟨p2,c2,rfl,ho,gg⟩;refine Hid.out ?_)
  refine hidp ?_
  refine hK.out _ _ (HC.out _ (Good.up GU gg)) (fun hHeld=>?_)
  clear hK K HCall
  try simp only [pT0]
  have lGU:=Nat.le_trans HLt.out GU.size
  have O2:=own_mono ho lGU
  clear ho lGU
  replace GU:=Good.up GU gg
  replace O1:=own_up O1 gg
  clear gg P2
  clear hHeld
  refine lstH (l':=#[true,true,true,true,true,true,true,true,true,true,false,false,true,true,false,false,true,false,false,false,false,false,false,false]) (by kernel_rfl) ?_
  have F:=And.intro GU (And.intro O1 O2)
  clear GU O1 O2
  revert F
  revert c2
  revert p2
  revert bB
  revert c1
  revert p1
  revert bA
  revert z
  exact t2_3_6_7_16_.out
  )
  focus (
  go_simp
  refine hK.out _ _ (HC.out _ (GU.alloc _)) (fun hHeld=>?_)
  clear hK K
  try simp only [pT0]
  obtain ⟨z,hz⟩:∃ z,z=y.alloc (.cells #[.slice pN.a pN.n pN.c] 24):=⟨_,rfl⟩
  have gg:Below y.heap.size y z:=by rw [hz];exact (Below.refl _ _).alloc (Nat.le_refl _) _
  have P3:z.cell? ⟨y.heap.size,0,none⟩=some (.slice pN.a pN.n pN.c)∧y.heap.size<z.heap.size:=by rw [hz];simp [go_sem]
  replace GU:=Good.up GU gg
  replace P2:=keepQ20 P2 gg
  replace O1:=own_up O1 gg
  rw [← hz]
  clear hz gg hHeld
  generalize y.heap.size=bC at *
  refine lstH (l':=#[true,true,true,true,true,true,true,false,true,true,true,false,true,true,false,false,true,false,false,false,false,false,false,false]) (by kernel_rfl) ?_
  have F:=And.intro GU (And.intro P2 (And.intro P3 O1))
  clear GU P2 P3 O1
  revert F
  revert bC
  revert bB
  revert c1
  revert p1
  revert bA
  revert z
  exact t2_3_6_10_16_.out
  )
  focus (
  go_simp
  refine hK.out _ _ (HC.out _ (GU.alloc _)) (fun hHeld=>?_)
  clear hK K
  try simp only [pT0]
  obtain ⟨z,hz⟩:∃ z,z=y.alloc (.cells #[.slice pS.a pS.n pS.c] 33):=⟨_,rfl⟩
  have gg:Below y.heap.size y z:=by rw [hz];exact (Below.refl _ _).alloc (Nat.le_refl _) _
  have P4:z.cell? ⟨y.heap.size,0,none⟩=some (.slice pS.a pS.n pS.c)∧y.heap.size<z.heap.size:=by rw [hz];simp [go_sem]
  replace GU:=Good.up GU gg
  replace P2:=keepQ20 P2 gg
  replace O1:=own_up O1 gg
  rw [← hz]
  clear hz gg hHeld
  generalize y.heap.size=bD at *
  refine lstH (l':=#[true,true,true,true,true,true,true,false,true,true,false,false,true,true,true,false,true,false,false,false,false,false,false,false]) (by kernel_rfl) ?_
  have F:=And.intro GU (And.intro P2 (And.intro P4 O1))
  clear GU P2 P4 O1
  revert F
  revert bD
  revert bB
  revert c1
  revert p1
  revert bA
  revert z
  exact t2_3_6_14_16_.out
  )
  )
  focus (
  intro y bA p1 c1 bB bC bD F
  obtain ⟨GU,P2,P3,P4,O1⟩:=F
  have hHeld:=HC.out _ GU
  clear hHeld
  refine wpAnyH_ready (rs:=[7,16]) (by kernel_rfl) (by simp) ?_
  refine AllReadyH.cons rfl (fun K hK=>?_) (AllReadyH.cons rfl (fun K hK=>?_) AllReadyH.nil)
  focus (
  rw [if_pos]
  rotate_left
  ·kernel_rfl
  have HCall:=hideIt (HCe.out _ bB GU P2)
  go_wp2_with (go_at_call 107;refine HCall.out.mono ?_;rintro e z ⟨p2,c2,rfl,ho,gg⟩;refine Hid.out ?_)
  refine hidp ?_
  refine hK.out _ _ (HC.out _ (Good.up GU gg)) (fun hHeld=>?_)
  clear hK K HCall
  try simp only [pT0]
  have lGU:=Nat.le_trans HLt.out GU.size
  have O2:=own_mono ho lGU
  clear ho lGU
  replace GU:=Good.up GU gg
  replace P3:=keepQ20 P3 gg
  replace P4:=keepQ20 P4 gg
  replace O1:=own_up O1 gg
  clear gg P2
  clear hHeld
  refine lstH (l':=#[true,true,true,true,true,true,true,true,true,true,true,false,true,true,true,false,false,false,false,false,false,false,false,false]) (by kernel_rfl) ?_
  have F:=And.intro GU (And.intro P3 (And.intro P4 (And.intro O1 O2)))
  clear GU P3 P4 O1 O2
  revert F
  revert bD
  revert bC
  revert c2
  revert p2
  revert bB
  revert c1
  revert p1
  revert bA
  revert z
  exact t2_3_6_7_10_14_.out
  )
  focus (
  go_simp
  refine hK.out _ _ (HC.out _ GU) (fun hHeld=>?_)
  clear hK K
  try simp only [pT0]
  clear hHeld
  refine lstH (l':=#[true,true,true,true,true,true,true,false,true,true,true,false,true,true,true,false,true,false,false,false,false,false,false,false]) (by kernel_rfl) ?_
  have F:=And.intro GU (And.intro P2 (And.intro P3 (And.intro P4 O1)))
  clear GU P2 P3 P4 O1
  revert F
  revert bD
  revert bC
  revert bB
  revert c1
  revert p1
  revert bA
  revert y
  exact t2_3_6_10_14_16_.out
  )
  )
  focus (
  intro y bA p1 c1 bB p2 c2 bD F
  obtain ⟨GU,P4,O1,O2⟩:=F
  have hHeld:=HC.out _ GU
  clear hHeld
  refine wpAnyH_ready (rs:=[10,16]) (by kernel_rfl) (by simp) ?_
  refine AllReadyH.cons rfl (fun K hK=>?_) (AllReadyH.cons rfl (fun K hK=>?_) AllReadyH.nil)
  focus (
  go_simp
  refine hK.out _ _ (HC.out _ (GU.alloc _)) (fun hHeld=>?_)
  clear hK K
  try simp only [pT0]
  obtain ⟨z,hz⟩:∃ z,z=y.alloc (.cells #[.slice pN.a pN.n pN.c] 24):=⟨_,rfl⟩
  have gg:Below y.heap.size y z:=by rw [hz];exact (Below.refl _ _).alloc (Nat.le_refl _) _
  have P3:z.cell? ⟨y.heap.size,0,none⟩=some (.slice pN.a pN.n pN.c)∧y.heap.size<z.heap.size:=by rw [hz];simp [go_sem]
  replace GU:=Good.up GU gg
  replace P4:=keepQ20 P4 gg
  replace O1:=own_up O1 gg
  replace O2:=own_up O2 gg
  rw [← hz]
  clear hz gg hHeld
  generalize y.heap.size=bC at *
  refine lstH (l':=#[true,true,true,true,true,true,true,true,true,true,true,false,true,true,true,false,false,false,false,false,false,false,false,false]) (by kernel_rfl) ?_
  have F:=And.intro GU (And.intro P3 (And.intro P4 (And.intro O1 O2)))
  clear GU P3 P4 O1 O2
  revert F
  revert bD
  revert bC
  revert c2
  revert p2
  revert bB
  revert c1
  revert p1
  revert bA
  revert z
  exact t2_3_6_7_10_14_.out
  )
  focus (
  go_simp
  refine hK.out _ _ (HC.out _ GU) (fun hHeld=>?_)
  clear hK K
  try simp only [pT0]
  clear hHeld
  refine lstH (l':=#[true,true,true,true,true,true,true,true,true,true,false,false,true,true,true,false,true,false,false,false,false,false,false,false]) (by kernel_rfl) ?_
  have F:=And.intro GU (And.intro P4 (And.intro O1 O2))
  clear GU P4 O1 O2
  revert F
  revert bD
  revert c2
  revert p2
  revert bB
  revert c1
  revert p1
  revert bA
  revert y
  exact t2_3_6_7_14_16_.out
  )
  )
  focus (
  intro y bA p1 c1 bB p2 c2 bC F
  obtain ⟨GU,P3,O1,O2⟩:=F
  have hHeld:=HC.out _ GU
  clear hHeld
  refine wpAnyH_ready (rs:=[11,14,16]) (by kernel_rfl) (by simp) ?_
  refine AllReadyH.cons rfl (fun K hK=>?_) (AllReadyH.cons rfl (fun K hK=>?_) (AllReadyH.cons rfl (fun K hK=>?_) AllReadyH.nil))
  focus (
  rw [if_pos]
  rotate_left
  ·kernel_rfl
  have HCall:=hideIt (HCn.out _ bC GU P3)
  go_wp2_with (go_at_call 94;refine HCall.out.mono ?_;rintro e z ⟨p3,c3,rfl,ho,gg⟩;refine Hid.out ?_)
  refine hidp ?_
  refine hK.out _ _ (HC.out _ (Good.up GU gg)) (fun hHeld=>?_)
  clear hK K HCall
  try simp only [pT0]
  have lGU:=Nat.le_trans HLt.out GU.size
  have S13:p1<p3:=Nat.lt_of_lt_of_le (O1.lt _ rfl).2 (ho.lt _ rfl).1
  have O3:=own_mono ho lGU
  clear ho lGU
  replace GU:=Good.up GU gg
  replace O1:=own_up O1 gg
  replace O2:=own_up O2 gg
  clear gg P3
  clear hHeld
  refine lstH (l':=#[true,true,true,true,true,true,true,true,true,true,true,true,true,true,false,false,false,false,false,false,false,false,false,false]) (by kernel_rfl) ?_
  have F:=And.intro GU (And.intro O1 (And.intro O2 (And.intro O3 S13)))
  clear GU O1 O2 O3 S13
  revert F
  revert c3
  revert p3
  revert bC
  revert c2
  revert p2
  revert bB
  revert c1
  revert p1
  revert bA
  revert z
  exact t2_3_6_7_10_11_.out
  )
  focus (
  go_simp
  refine hK.out _ _ (HC.out _ (GU.alloc _)) (fun hHeld=>?_)
  clear hK K
  try simp only [pT0]
  obtain ⟨z,hz⟩:∃ z,z=y.alloc (.cells #[.slice pS.a pS.n pS.c] 33):=⟨_,rfl⟩
  have gg:Below y.heap.size y z:=by rw [hz];exact (Below.refl _ _).alloc (Nat.le_refl _) _
  have P4:z.cell? ⟨y.heap.size,0,none⟩=some (.slice pS.a pS.n pS.c)∧y.heap.size<z.heap.size:=by rw [hz];simp [go_sem]
  replace GU:=Good.up GU gg
  replace P3:=keepQ20 P3 gg
  replace O1:=own_up O1 gg
  replace O2:=own_up O2 gg
  rw [← hz]
  clear hz gg hHeld
  generalize y.heap.size=bD at *
  refine lstH (l':=#[true,true,true,true,true,true,true,true,true,true,true,false,true,true,true,false,false,false,false,false,false,false,false,false]) (by kernel_rfl) ?_
  have F:=And.intro GU (And.intro P3 (And.intro P4 (And.intro O1 O2)))
  clear GU P3 P4 O1 O2
  revert F
  revert bD
  revert bC
  revert c2
  revert p2
  revert bB
  revert c1
  revert p1
  revert bA
  revert z
  exact t2_3_6_7_10_14_.out
  )
  focus (
  go_simp
  refine hK.out _ _ (HC.out _ GU) (fun hHeld=>?_)
  clear hK K
  try simp only [pT0]
  clear hHeld
  refine lstH (l':=#[true,true,true,true,true,true,true,true,true,true,true,false,true,true,false,false,true,false,false,false,false,false,false,false]) (by kernel_rfl) ?_
  have F:=And.intro GU (And.intro P3 (And.intro O1 O2))
  clear GU P3 O1 O2
  revert F
  revert bC
  revert c2
  revert p2
  revert bB
  revert c1
  revert p1
  revert bA
  revert y
  exact t2_3_6_7_10_16_.out
  )
  )
  focus (
  intro y bA p1 c1 bC bD F
  obtain ⟨GU,P3,P4,O1⟩:=F
  have hHeld:=HC.out _ GU
  clear hHeld
  refine wpAnyH_ready (rs:=[6]) (by kernel_rfl) (by simp) ?_
  refine AllReadyH.cons rfl (fun K hK=>?_) AllReadyH.nil
  focus (
  go_simp
  refine hK.out _ _ (HC.out _ (GU.alloc _)) (fun hHeld=>?_)
  clear hK K
  try simp only [pT0]
  obtain ⟨z,hz⟩:∃ z,z=y.alloc (.cells #[.slice pC.a pC.n pC.c] 25):=⟨_,rfl⟩
  have gg:Below y.heap.size y z:=by rw [hz];exact (Below.refl _ _).alloc (Nat.le_refl _) _
  have P2:z.cell? ⟨y.heap.size,0,none⟩=some (.slice pC.a pC.n pC.c)∧y.heap.size<z.heap.size:=by rw [hz];simp [go_sem]
  replace GU:=Good.up GU gg
  replace P3:=keepQ20 P3 gg
  replace P4:=keepQ20 P4 gg
  replace O1:=own_up O1 gg
  rw [← hz]
  clear hz gg hHeld
  generalize y.heap.size=bB at *
  refine lstH (l':=#[true,true,true,true,true,true,true,false,true,true,true,false,true,true,true,false,true,false,false,false,false,false,false,false]) (by kernel_rfl) ?_
  have F:=And.intro GU (And.intro P2 (And.intro P3 (And.intro P4 O1)))
  clear GU P2 P3 P4 O1
  revert F
  revert bD
  revert bC
  revert bB
  revert c1
  revert p1
  revert bA
  revert z
  exact t2_3_6_10_14_16_.out
  )
  )
  focus (
  intro y bA p1 c1 bB bD F
  obtain ⟨GU,P2,P4,O1⟩:=F
  have hHeld:=HC.out _ GU
  clear hHeld
  refine wpAnyH_ready (rs:=[7,10]) (by kernel_rfl) (by simp) ?_
  refine AllReadyH.cons rfl (fun K hK=>?_) (AllReadyH.cons rfl (fun K hK=>?_) AllReadyH.nil)
  focus (
  rw [if_pos]
  rotate_left
  ·kernel_rfl
  have HCall:=hideIt (HCe.out _ bB GU P2)
  go_wp2_with (go_at_call 107;refine HCall.out.mono ?_;rintro e z ⟨p2,c2,rfl,ho,gg⟩;refine Hid.out ?_)
  refine hidp ?_
  refine hK.out _ _ (HC.out _ (Good.up GU gg)) (fun hHeld=>?_)
  clear hK K HCall
  try simp only [pT0]
  have lGU:=Nat.le_trans HLt.out GU.size
  have O2:=own_mono ho lGU
  clear ho lGU
  replace GU:=Good.up GU gg
  replace P4:=keepQ20 P4 gg
  replace O1:=own_up O1 gg
  clear gg P2
  clear hHeld
  refine lstH (l':=#[true,true,true,true,true,true,true,true,true,true,false,false,true,true,true,false,true,false,false,false,false,false,false,false]) (by kernel_rfl) ?_
  have F:=And.intro GU (And.intro P4 (And.intro O1 O2))
  clear GU P4 O1 O2
  revert F
  revert bD
  revert c2
  revert p2
  revert bB
  revert c1
  revert p1
  revert bA
  revert z
  exact t2_3_6_7_14_16_.out
  )
  focus (
  go_simp
  refine hK.out _ _ (HC.out _ (GU.alloc _)) (fun hHeld=>?_)
  clear hK K
  try simp only [pT0]
  obtain ⟨z,hz⟩:∃ z,z=y.alloc (.cells #[.slice pN.a pN.n pN.c] 24):=⟨_,rfl⟩
  have gg:Below y.heap.size y z:=by rw [hz];exact (Below.refl _ _).alloc (Nat.le_refl _) _
  have P3:z.cell? ⟨y.heap.size,0,none⟩=some (.slice pN.a pN.n pN.c)∧y.heap.size<z.heap.size:=by rw [hz];simp [go_sem]
  replace GU:=Good.up GU gg
  replace P2:=keepQ20 P2 gg
  replace P4:=keepQ20 P4 gg
  replace O1:=own_up O1 gg
  rw [← hz]
  clear hz gg hHeld
  generalize y.heap.size=bC at *
  refine lstH (l':=#[true,true,true,true,true,true,true,false,true,true,true,false,true,true,true,false,true,false,false,false,false,false,false,false]) (by kernel_rfl) ?_
  have F:=And.intro GU (And.intro P2 (And.intro P3 (And.intro P4 O1)))
  clear GU P2 P3 P4 O1
  revert F
  revert bD
  revert bC
  revert bB
  revert c1
  revert p1
  revert bA
  revert z
  exact t2_3_6_10_14_16_.out
  )
  )
  focus (
  intro y bA p1 c1 bB bC F
  obtain ⟨GU,P2,P3,O1⟩:=F
  have hHeld:=HC.out _ GU
  clear hHeld
  refine wpAnyH_ready (rs:=[7,14]) (by kernel_rfl) (by simp) ?_
  refine AllReadyH.cons rfl (fun K hK=>?_) (AllReadyH.cons rfl (fun K hK=>?_) AllReadyH.nil)
  focus (
  rw [if_pos]
  rotate_left
  ·kernel_rfl
  have HCall:=hideIt (HCe.out _ bB GU P2)
  go_wp2_with (go_at_call 107;refine HCall.out.mono ?_;rintro e z ⟨p2,c2,rfl,ho,gg⟩;refine Hid.out ?_)
  refine hidp ?_
  refine hK.out _ _ (HC.out _ (Good.up GU gg)) (fun hHeld=>?_)
  clear hK K HCall
  try simp only [pT0]
  have lGU:=Nat.le_trans HLt.out GU.size
  have O2:=own_mono ho lGU
  clear ho lGU
  replace GU:=Good.up GU gg
  replace P3:=keepQ20 P3 gg
  replace O1:=own_up O1 gg
  clear gg P2
  clear hHeld
  refine lstH (l':=#[true,true,true,true,true,true,true,true,true,true,true,false,true,true,false,false,true,false,false,false,false,false,false,false]) (by kernel_rfl) ?_
  have F:=And.intro GU (And.intro P3 (And.intro O1 O2))
  clear GU P3 O1 O2
  revert F
  revert bC
  revert c2
  revert p2
  revert bB
  revert c1
  revert p1
  revert bA
  revert z
  exact t2_3_6_7_10_16_.out
  )
  focus (
  go_simp
  refine hK.out _ _ (HC.out _ (GU.alloc _)) (fun hHeld=>?_)
  clear hK K
  try simp only [pT0]
  obtain ⟨z,hz⟩:∃ z,z=y.alloc (.cells #[.slice pS.a pS.n pS.c] 33):=⟨_,rfl⟩
  have gg:Below y.heap.size y z:=by rw [hz];exact (Below.refl _ _).alloc (Nat.le_refl _) _
  have P4:z.cell? ⟨y.heap.size,0,none⟩=some (.slice pS.a pS.n pS.c)∧y.heap.size<z.heap.size:=by rw [hz];simp [go_sem]
  replace GU:=Good.up GU gg
  replace P2:=keepQ20 P2 gg
  replace P3:=keepQ20 P3 gg
  replace O1:=own_up O1 gg
  rw [← hz]
  clear hz gg hHeld
  generalize y.heap.size=bD at *
  refine lstH (l':=#[true,true,true,true,true,true,true,false,true,true,true,false,true,true,true,false,true,false,false,false,false,false,false,false]) (by kernel_rfl) ?_
  have F:=And.intro GU (And.intro P2 (And.intro P3 (And.intro P4 O1)))
  clear GU P2 P3 P4 O1
  revert F
  revert bD
  revert bC
  revert bB
  revert c1
  revert p1
  revert bA
  revert z
  exact t2_3_6_10_14_16_.out
  )
  )
  focus (
  intro y bA p1 c1 bB p2 c2 F
  obtain ⟨GU,O1,O2⟩:=F
  have hHeld:=HC.out _ GU
  clear hHeld
  refine wpAnyH_ready (rs:=[10,14]) (by kernel_rfl) (by simp) ?_
  refine AllReadyH.cons rfl (fun K hK=>?_) (AllReadyH.cons rfl (fun K hK=>?_) AllReadyH.nil)
  focus (
  go_simp
  refine hK.out _ _ (HC.out _ (GU.alloc _)) (fun hHeld=>?_)
  clear hK K
  try simp only [pT0]
  obtain ⟨z,hz⟩:∃ z,z=y.alloc (.cells #[.slice pN.a pN.n pN.c] 24):=⟨_,rfl⟩
  have gg:Below y.heap.size y z:=by rw [hz];exact (Below.refl _ _).alloc (Nat.le_refl _) _
  have P3:z.cell? ⟨y.heap.size,0,none⟩=some (.slice pN.a pN.n pN.c)∧y.heap.size<z.heap.size:=by rw [hz];simp [go_sem]
  replace GU:=Good.up GU gg
  replace O1:=own_up O1 gg
  replace O2:=own_up O2 gg
  rw [← hz]
  clear hz gg hHeld
  generalize y.heap.size=bC at *
  refine lstH (l':=#[true,true,true,true,true,true,true,true,true,true,true,false,true,true,false,false,true,false,false,false,false,false,false,false]) (by kernel_rfl) ?_
  have F:=And.intro GU (And.intro P3 (And.intro O1 O2))
  clear GU P3 O1 O2
  revert F
  revert bC
  revert c2
  revert p2
  revert bB
  revert c1
  revert p1
  revert bA
  revert z
  exact t2_3_6_7_10_16_.out
  )
  focus (
  go_simp
  refine hK.out _ _ (HC.out _ (GU.alloc _)) (fun hHeld=>?_)
  clear hK K
  try simp only [pT0]
  obtain ⟨z,hz⟩:∃ z,z=y.alloc (.cells #[.slice pS.a pS.n pS.c] 33):=⟨_,rfl⟩
  have gg:Below y.heap.size y z:=by rw [hz];exact (Below.refl _ _).alloc (Nat.le_refl _) _
  have P4:z.cell? ⟨y.heap.size,0,none⟩=some (.slice pS.a pS.n pS.c)∧y.heap.size<z.heap.size:=by rw [hz];simp [go_sem]
  replace GU:=Good.up GU gg
  replace O1:=own_up O1 gg
  replace O2:=own_up O2 gg
  rw [← hz]
  clear hz gg hHeld
  generalize y.heap.size=bD at *
  refine lstH (l':=#[true,true,true,true,true,true,true,true,true,true,false,false,true,true,true,false,true,false,false,false,false,false,false,false]) (by kernel_rfl) ?_
  have F:=And.intro GU (And.intro P4 (And.intro O1 O2))
  clear GU P4 O1 O2
  revert F
  revert bD
  revert c2
  revert p2
  revert bB
  revert c1
  revert p1
  revert bA
  revert z
  exact t2_3_6_7_14_16_.out
  )
  )
  focus (
  intro y bA p1 c1 bB p2 c2 bC bD F
  obtain ⟨GU,P3,P4,O1,O2⟩:=F
  have hHeld:=HC.out _ GU
  clear hHeld
  refine wpAnyH_ready (rs:=[11,16]) (by kernel_rfl) (by simp) ?_
  refine AllReadyH.cons rfl (fun K hK=>?_) (AllReadyH.cons rfl (fun K hK=>?_) AllReadyH.nil)
  focus (
  rw [if_pos]
  rotate_left
  ·kernel_rfl
  have HCall:=hideIt (HCn.out _ bC GU P3)
  go_wp2_with (go_at_call 94;refine HCall.out.mono ?_;rintro e z ⟨p3,c3,rfl,ho,gg⟩;refine Hid.out ?_)
  refine hidp ?_
  refine hK.out _ _ (HC.out _ (Good.up GU gg)) (fun hHeld=>?_)
  clear hK K HCall
  try simp only [pT0]
  have lGU:=Nat.le_trans HLt.out GU.size
  have S13:p1<p3:=Nat.lt_of_lt_of_le (O1.lt _ rfl).2 (ho.lt _ rfl).1
  have O3:=own_mono ho lGU
  clear ho lGU
  replace GU:=Good.up GU gg
  replace P4:=keepQ20 P4 gg
  replace O1:=own_up O1 gg
  replace O2:=own_up O2 gg
  clear gg P3
  clear hHeld
  refine lstH (l':=#[true,true,true,true,true,true,true,true,true,true,true,true,true,true,true,false,false,false,false,false,false,false,false,false]) (by kernel_rfl) ?_
  have F:=And.intro GU (And.intro P4 (And.intro O1 (And.intro O2 (And.intro O3 S13))))
  clear GU P4 O1 O2 O3 S13
  revert F
  revert bD
  revert c3
  revert p3
  revert bC
  revert c2
  revert p2
  revert bB
  revert c1
  revert p1
  revert bA
  revert z
  exact t2_3_6_7_10_11_14_.out
  )
  focus (
  go_simp
  refine hK.out _ _ (HC.out _ GU) (fun hHeld=>?_)
  clear hK K
  try simp only [pT0]
  clear hHeld
  refine lstH (l':=#[true,true,true,true,true,true,true,true,true,true,true,false,true,true,true,false,true,false,false,false,false,false,false,false]) (by kernel_rfl) ?_
  have F:=And.intro GU (And.intro P3 (And.intro P4 (And.intro O1 O2)))
  clear GU P3 P4 O1 O2
  revert F
  revert bD
  revert bC
  revert c2
  revert p2
  revert bB
  revert c1
  revert p1
  revert bA
  revert y
  exact t2_3_6_7_10_14_16_.out
  )
  )
  focus (
  intro y bA p1 c1 bB p2 c2 bC p3 c3 F
  obtain ⟨GU,O1,O2,O3,S13⟩:=F
  have hHeld:=HC.out _ GU
  clear hHeld
  refine wpAnyH_ready (rs:=[14,16]) (by kernel_rfl) (by simp) ?_
  refine AllReadyH.cons rfl (fun K hK=>?_) (AllReadyH.cons rfl (fun K hK=>?_) AllReadyH.nil)
  focus (
  go_simp
  refine hK.out _ _ (HC.out _ (GU.alloc _)) (fun hHeld=>?_)
  clear hK K
  try simp only [pT0]
  obtain ⟨z,hz⟩:∃ z,z=y.alloc (.cells #[.slice pS.a pS.n pS.c] 33):=⟨_,rfl⟩
  have gg:Below y.heap.size y z:=by rw [hz];exact (Below.refl _ _).alloc (Nat.le_refl _) _
  have P4:z.cell? ⟨y.heap.size,0,none⟩=some (.slice pS.a pS.n pS.c)∧y.heap.size<z.heap.size:=by rw [hz];simp [go_sem]
  replace GU:=Good.up GU gg
  replace O1:=own_up O1 gg
  replace O2:=own_up O2 gg
  replace O3:=own_up O3 gg
  rw [← hz]
  clear hz gg hHeld
  generalize y.heap.size=bD at *
  refine lstH (l':=#[true,true,true,true,true,true,true,true,true,true,true,true,true,true,true,false,false,false,false,false,false,false,false,false]) (by kernel_rfl) ?_
  have F:=And.intro GU (And.intro P4 (And.intro O1 (And.intro O2 (And.intro O3 S13))))
  clear GU P4 O1 O2 O3 S13
  revert F
  revert bD
  revert c3
  revert p3
  revert bC
  revert c2
  revert p2
  revert bB
  revert c1
  revert p1
  revert bA
  revert z
  exact t2_3_6_7_10_11_14_.out
  )
  focus (
  go_simp
  refine hK.out _ _ (HC.out _ GU) (fun hHeld=>?_)
  clear hK K
  try simp only [pT0]
  clear hHeld
  refine lstH (l':=#[true,true,true,true,true,true,true,true,true,true,true,true,true,true,false,false,true,false,false,false,false,false,false,false]) (by kernel_rfl) ?_
  have F:=And.intro GU (And.intro O1 (And.intro O2 (And.intro O3 S13)))
  clear GU O1 O2 O3 S13
  revert F
  revert c3
  revert p3
  revert bC
  revert c2
  revert p2
  revert bB
  revert c1
  revert p1
  revert bA
  revert y
  exact t2_3_6_7_10_11_16_.out
  )
  )
  focus (
  intro y bA p1 c1 bB bC bD F
  obtain ⟨GU,P2,P3,P4,O1⟩:=F
  have hHeld:=HC.out _ GU
  clear hHeld
  refine wpAnyH_ready (rs:=[7]) (by kernel_rfl) (by simp) ?_
  refine AllReadyH.cons rfl (fun K hK=>?_) AllReadyH.nil
  focus (
  rw [if_pos]
  rotate_left
  ·kernel_rfl
  have HCall:=hideIt (HCe.out _ bB GU P2)
  go_wp2_with (go_at_call 107;refine HCall.out.mono ?_;rintro e z ⟨p2,c2,rfl,ho,gg⟩;refine Hid.out ?_)
  refine hidp ?_
  refine hK.out _ _ (HC.out _ (Good.up GU gg)) (fun hHeld=>?_)
  clear hK K HCall
  try simp only [pT0]
  have lGU:=Nat.le_trans HLt.out GU.size
  have O2:=own_mono ho lGU
  clear ho lGU
  replace GU:=Good.up GU gg
  replace P3:=keepQ20 P3 gg
  replace P4:=keepQ20 P4 gg
  replace O1:=own_up O1 gg
  clear gg P2
  clear hHeld
  refine lstH (l':=#[true,true,true,true,true,true,true,true,true,true,true,false,true,true,true,false,true,false,false,false,false,false,false,false]) (by kernel_rfl) ?_
  have F:=And.intro GU (And.intro P3 (And.intro P4 (And.intro O1 O2)))
  clear GU P3 P4 O1 O2
  revert F
  revert bD
  revert bC
  revert c2
  revert p2
  revert bB
  revert c1
  revert p1
  revert bA
  revert z
  exact t2_3_6_7_10_14_16_.out
  )
  )
  focus (
  intro y bA p1 c1 bB p2 c2 bD F
  obtain ⟨GU,P4,O1,O2⟩:=F
  have hHeld:=HC.out _ GU
  clear hHeld
  refine wpAnyH_ready (rs:=[10]) (by kernel_rfl) (by simp) ?_
  refine AllReadyH.cons rfl (fun K hK=>?_) AllReadyH.nil
  focus (
  go_simp
  refine hK.out _ _ (HC.out _ (GU.alloc _)) (fun hHeld=>?_)
  clear hK K
  try simp only [pT0]
  obtain ⟨z,hz⟩:∃ z,z=y.alloc (.cells #[.slice pN.a pN.n pN.c] 24):=⟨_,rfl⟩
  have gg:Below y.heap.size y z:=by rw [hz];exact (Below.refl _ _).alloc (Nat.le_refl _) _
  have P3:z.cell? ⟨y.heap.size,0,none⟩=some (.slice pN.a pN.n pN.c)∧y.heap.size<z.heap.size:=by rw [hz];simp [go_sem]
  replace GU:=Good.up GU gg
  replace P4:=keepQ20 P4 gg
  replace O1:=own_up O1 gg
  replace O2:=own_up O2 gg
  rw [← hz]
  clear hz gg hHeld
  generalize y.heap.size=bC at *
  refine lstH (l':=#[true,true,true,true,true,true,true,true,true,true,true,false,true,true,true,false,true,false,false,false,false,false,false,false]) (by kernel_rfl) ?_
  have F:=And.intro GU (And.intro P3 (And.intro P4 (And.intro O1 O2)))
  clear GU P3 P4 O1 O2
  revert F
  revert bD
  revert bC
  revert c2
  revert p2
  revert bB
  revert c1
  revert p1
  revert bA
  revert z
  exact t2_3_6_7_10_14_16_.out
  )
  )
  focus (
  intro y bA p1 c1 bB p2 c2 bC F
  obtain ⟨GU,P3,O1,O2⟩:=F
  have hHeld:=HC.out _ GU
  clear hHeld
  refine wpAnyH_ready (rs:=[11,14]) (by kernel_rfl) (by simp) ?_
  refine AllReadyH.cons rfl (fun K hK=>?_) (AllReadyH.cons rfl (fun K hK=>?_) AllReadyH.nil)
  focus (
  rw [if_pos]
  rotate_left
  ·kernel_rfl
  have HCall:=hideIt (HCn.out _ bC GU P3)
  go_wp2_with (go_at_call 94;refine HCall.out.mono ?_;rintro e z ⟨p3,c3,rfl,ho,gg⟩;refine Hid.out ?_)
  refine hidp ?_
  refine hK.out _ _ (HC.out _ (Good.up GU gg)) (fun hHeld=>?_)
  clear hK K HCall
  try simp only [pT0]
  have lGU:=Nat.le_trans HLt.out GU.size
  have S13:p1<p3:=Nat.lt_of_lt_of_le (O1.lt _ rfl).2 (ho.lt _ rfl).1
  have O3:=own_mono ho lGU
  clear ho lGU
  replace GU:=Good.up GU gg
  replace O1:=own_up O1 gg
  replace O2:=own_up O2 gg
  clear gg P3
  clear hHeld
  refine lstH (l':=#[true,true,true,true,true,true,true,true,true,true,true,true,true,true,false,false,true,false,false,false,false,false,false,false]) (by kernel_rfl) ?_
  have F:=And.intro GU (And.intro O1 (And.intro O2 (And.intro O3 S13)))
  clear GU O1 O2 O3 S13
  revert F
  revert c3
  revert p3
  revert bC
  revert c2
  revert p2
  revert bB
  revert c1
  revert p1
  revert bA
  revert z
  exact t2_3_6_7_10_11_16_.out
  )
  focus (
  go_simp
  refine hK.out _ _ (HC.out _ (GU.alloc _)) (fun hHeld=>?_)
  clear hK K
  try simp only [pT0]
  obtain ⟨z,hz⟩:∃ z,z=y.alloc (.cells #[.slice pS.a pS.n pS.c] 33):=⟨_,rfl⟩
  have gg:Below y.heap.size y z:=by rw [hz];exact (Below.refl _ _).alloc (Nat.le_refl _) _
  have P4:z.cell? ⟨y.heap.size,0,none⟩=some (.slice pS.a pS.n pS.c)∧y.heap.size<z.heap.size:=by rw [hz];simp [go_sem]
  replace GU:=Good.up GU gg
  replace P3:=keepQ20 P3 gg
  replace O1:=own_up O1 gg
  replace O2:=own_up O2 gg
  rw [← hz]
  clear hz gg hHeld
  generalize y.heap.size=bD at *
  refine lstH (l':=#[true,true,true,true,true,true,true,true,true,true,true,false,true,true,true,false,true,false,false,false,false,false,false,false]) (by kernel_rfl) ?_
  have F:=And.intro GU (And.intro P3 (And.intro P4 (And.intro O1 O2)))
  clear GU P3 P4 O1 O2
  revert F
  revert bD
  revert bC
  revert c2
  revert p2
  revert bB
  revert c1
  revert p1
  revert bA
  revert z
  exact t2_3_6_7_10_14_16_.out
  )
  )
  focus (
  intro y bA p1 c1 bB p2 c2 bC p3 c3 bD F
  obtain ⟨GU,P4,O1,O2,O3,S13⟩:=F
  have hHeld:=HC.out _ GU
  clear hHeld
  refine wpAnyH_ready (rs:=[15,16]) (by kernel_rfl) (by simp) ?_
  refine AllReadyH.cons rfl (fun K hK=>?_) (AllReadyH.cons rfl (fun K hK=>?_) AllReadyH.nil)
  focus (
  rw [if_pos]
  rotate_left
  ·kernel_rfl
  have HCall:=hideIt (HCs.out _ bD GU P4)
  go_wp2_with (go_at_call 108;refine HCall.out.mono ?_;rintro e z ⟨p4,c4,rfl,ho,gg⟩;refine Hid.out ?_)
  refine hidp ?_
  refine hK.out _ _ (HC.out _ (Good.up GU gg)) (fun hHeld=>?_)
  clear hK K HCall
  try simp only [pT0]
  have lGU:=Nat.le_trans HLt.out GU.size
  have O4:=own_mono ho lGU
  clear ho lGU
  replace GU:=Good.up GU gg
  replace O1:=own_up O1 gg
  replace O2:=own_up O2 gg
  replace O3:=own_up O3 gg
  clear gg P4
  clear hHeld
  refine lstH (l':=#[true,true,true,true,true,true,true,true,true,true,true,true,true,true,true,true,false,false,false,false,false,false,false,false]) (by kernel_rfl) ?_
  have F:=And.intro GU (And.intro O1 (And.intro O2 (And.intro O3 (And.intro O4 S13))))
  clear GU O1 O2 O3 O4 S13
  revert F
  revert c4
  revert p4
  revert bD
  revert c3
  revert p3
  revert bC
  revert c2
  revert p2
  revert bB
  revert c1
  revert p1
  revert bA
  revert z
  exact t2_3_6_7_10_11_14_15_.out
  )
  focus (
  go_simp
  refine hK.out _ _ (HC.out _ GU) (fun hHeld=>?_)
  clear hK K
  try simp only [pT0]
  clear hHeld
  refine lstH (l':=#[true,true,true,true,true,true,true,true,true,true,true,true,true,true,true,false,true,false,false,false,false,false,false,false]) (by kernel_rfl) ?_
  have F:=And.intro GU (And.intro P4 (And.intro O1 (And.intro O2 (And.intro O3 S13))))
  clear GU P4 O1 O2 O3 S13
  revert F
  revert bD
  revert c3
  revert p3
  revert bC
  revert c2
  revert p2
  revert bB
  revert c1
  revert p1
  revert bA
  revert y
  exact t2_3_6_7_10_11_14_16_.out
  )
  )
  focus (
  intro y bA p1 c1 bB p2 c2 bC bD F
  obtain ⟨GU,P3,P4,O1,O2⟩:=F
  have hHeld:=HC.out _ GU
  clear hHeld
  refine wpAnyH_ready (rs:=[11]) (by kernel_rfl) (by simp) ?_
  refine AllReadyH.cons rfl (fun K hK=>?_) AllReadyH.nil
  focus (
  rw [if_pos]
  rotate_left
  ·kernel_rfl
  have HCall:=hideIt (HCn.out _ bC GU P3)
  go_wp2_with (go_at_call 94;refine HCall.out.mono ?_;rintro e z ⟨p3,c3,rfl,ho,gg⟩;refine Hid.out ?_)
  refine hidp ?_
  refine hK.out _ _ (HC.out _ (Good.up GU gg)) (fun hHeld=>?_)
  clear hK K HCall
  try simp only [pT0]
  have lGU:=Nat.le_trans HLt.out GU.size
  have S13:p1<p3:=Nat.lt_of_lt_of_le (O1.lt _ rfl).2 (ho.lt _ rfl).1
  have O3:=own_mono ho lGU
  clear ho lGU
  replace GU:=Good.up GU gg
  replace P4:=keepQ20 P4 gg
  replace O1:=own_up O1 gg
  replace O2:=own_up O2 gg
  clear gg P3
  clear hHeld
  refine lstH (l':=#[true,true,true,true,true,true,true,true,true,true,true,true,true,true,true,false,true,false,false,false,false,false,false,false]) (by kernel_rfl) ?_
  have F:=And.intro GU (And.intro P4 (And.intro O1 (And.intro O2 (And.intro O3 S13))))
  clear GU P4 O1 O2 O3 S13
  revert F
  revert bD
  revert c3
  revert p3
  revert bC
  revert c2
  revert p2
  revert bB
  revert c1
  revert p1
  revert bA
  revert z
  exact t2_3_6_7_10_11_14_16_.out
  )
  )
  focus (
  intro y bA p1 c1 bB p2 c2 bC p3 c3 F
  obtain ⟨GU,O1,O2,O3,S13⟩:=F
  have hHeld:=HC.out _ GU
  clear hHeld
  refine wpAnyH_ready (rs:=[14]) (by kernel_rfl) (by simp) ?_
  refine AllReadyH.cons rfl (fun K hK=>?_) AllReadyH.nil
  focus (
  go_simp
  refine hK.out _ _ (HC.out _ (GU.alloc _)) (fun hHeld=>?_)
  clear hK K
  try simp only [pT0]
  obtain ⟨z,hz⟩:∃ z,z=y.alloc (.cells #[.slice pS.a pS.n pS.c] 33):=⟨_,rfl⟩
  have gg:Below y.heap.size y z:=by rw [hz];exact (Below.refl _ _).alloc (Nat.le_refl _) _
  have P4:z.cell? ⟨y.heap.size,0,none⟩=some (.slice pS.a pS.n pS.c)∧y.heap.size<z.heap.size:=by rw [hz];simp [go_sem]
  replace GU:=Good.up GU gg
  replace O1:=own_up O1 gg
  replace O2:=own_up O2 gg
  replace O3:=own_up O3 gg
  rw [← hz]
  clear hz gg hHeld
  generalize y.heap.size=bD at *
  refine lstH (l':=#[true,true,true,true,true,true,true,true,true,true,true,true,true,true,true,false,true,false,false,false,false,false,false,false]) (by kernel_rfl) ?_
  have F:=And.intro GU (And.intro P4 (And.intro O1 (And.intro O2 (And.intro O3 S13))))
  clear GU P4 O1 O2 O3 S13
  revert F
  revert bD
  revert c3
  revert p3
  revert bC
  revert c2
  revert p2
  revert bB
  revert c1
  revert p1
  revert bA
  revert z
  exact t2_3_6_7_10_11_14_16_.out
  )
  )
  focus (
  intro y bA p1 c1 bB p2 c2 bC p3 c3 bD p4 c4 F
  obtain ⟨GU,O1,O2,O3,O4,S13⟩:=F
  have hHeld:=HC.out _ GU
  clear hHeld
  refine wpAnyH_ready (rs:=[16]) (by kernel_rfl) (by simp) ?_
  refine AllReadyH.cons rfl (fun K hK=>?_) AllReadyH.nil
  focus (
  go_simp
  refine hK.out _ _ (HC.out _ GU) (fun hHeld=>?_)
  clear hK K
  try simp only [pT0]
  clear hHeld
  refine lstH (l':=#[true,true,true,true,true,true,true,true,true,true,true,true,true,true,true,true,true,false,false,false,false,false,false,false]) (by kernel_rfl) ?_
  have F:=And.intro GU (And.intro O1 (And.intro O2 (And.intro O3 (And.intro O4 S13))))
  clear GU O1 O2 O3 O4 S13
  revert F
  revert c4
  revert p4
  revert bD
  revert c3
  revert p3
  revert bC
  revert c2
  revert p2
  revert bB
  revert c1
  revert p1
  revert bA
  revert y
  exact t2_3_6_7_10_11_14_15_16_.out
  )
  )
  focus (
  intro y bA p1 c1 bB p2 c2 bC p3 c3 bD F
  obtain ⟨GU,P4,O1,O2,O3,S13⟩:=F
  have hHeld:=HC.out _ GU
  clear hHeld
  refine wpAnyH_ready (rs:=[15]) (by kernel_rfl) (by simp) ?_
  refine AllReadyH.cons rfl (fun K hK=>?_) AllReadyH.nil
  focus (
  rw [if_pos]
  rotate_left
  ·kernel_rfl
  have HCall:=hideIt (HCs.out _ bD GU P4)
  go_wp2_with (go_at_call 108;refine HCall.out.mono ?_;rintro e z ⟨p4,c4,rfl,ho,gg⟩;refine Hid.out ?_)
  refine hidp ?_
  refine hK.out _ _ (HC.out _ (Good.up GU gg)) (fun hHeld=>?_)
  clear hK K HCall
  try simp only [pT0]
  have lGU:=Nat.le_trans HLt.out GU.size
  have O4:=own_mono ho lGU
  clear ho lGU
  replace GU:=Good.up GU gg
  replace O1:=own_up O1 gg
  replace O2:=own_up O2 gg
  replace O3:=own_up O3 gg
  clear gg P4
  clear hHeld
  refine lstH (l':=#[true,true,true,true,true,true,true,true,true,true,true,true,true,true,true,true,true,false,false,false,false,false,false,false]) (by kernel_rfl) ?_
  have F:=And.intro GU (And.intro O1 (And.intro O2 (And.intro O3 (And.intro O4 S13))))
  clear GU O1 O2 O3 O4 S13
  revert F
  revert c4
  revert p4
  revert bD
  revert c3
  revert p3
  revert bC
  revert c2
  revert p2
  revert bB
  revert c1
  revert p1
  revert bA
  revert z
  exact t2_3_6_7_10_11_14_15_16_.out
  )
  )
  focus (
  intro y bA p1 c1 bB p2 c2 bC p3 c3 bD p4 c4 F
  obtain ⟨GU,O1,O2,O3,O4,S13⟩:=F
  have hHeld:=HC.out _ GU
  have B0:=BR.out _ GU
  have q0:=B0.c.cell 1 rfl
  have fq0:=B0.c.frozen 1
  refine wpAnyH_ready (rs:=[17]) (by kernel_rfl) (by simp) ?_
  refine AllReadyH.cons rfl (fun K hK=>?_) AllReadyH.nil
  go_simp
  have HF:=hideIt (HSt.out y 1 (.slice (some ⟨p1,0,none⟩) pO.n c1) hHeld)
  obtain ⟨x0,hx0⟩:∃ x,x=y.setCell ⟨w.heap.size+1+1,1,none⟩ (.slice (some ⟨p1,0,none⟩) pO.n c1):=⟨_,rfl⟩
  have B1:CpB w h ⟨pO,pC,⟨aL,nL,cL⟩,pN,pE,pS⟩ ⟨⟨some ⟨p1,0,none⟩,pO.n,c1⟩,pC,⟨aL,nL,cL⟩,pN,pE,pS⟩ x0:=by rw [hx0];exact B0.set 1 (.slice (some ⟨p1,0,none⟩) pO.n c1) rfl
  replace O1:x0.ownsRow (w.heap.size+3) 3 1 (.slice (some ⟨p1,0,none⟩) pO.n c1) pO.n (ic h.own):=by rw [hx0];exact own_lowA O1 (by omega)
  replace O2:x0.ownsRow (w.heap.size+3) 107 2 (.slice p2 pC.n c2) pC.n (O.ecells h.cuts):=by rw [hx0];exact own_lowA O2 (by omega)
  replace O3:x0.ownsRow (w.heap.size+3) 3 1 (.slice (some ⟨p3,0,none⟩) pN.n c3) pN.n (ic h.nums):=by rw [hx0];exact own_lowA O3 (by omega)
  replace O4:x0.ownsRow (w.heap.size+3) 82 6 (.slice p4 pS.n c4) pS.n (scells h.said):=by rw [hx0];exact own_lowA O4 (by omega)
  refine hK.out _ _ HF.out (fun hHeld=>?_)
  clear hK K
  try simp only [pT0]
  rw [← hx0] at hHeld ⊢
  clear HF hx0 q0 fq0 B0
  refine wpAnyH_ready (rs:=[18]) (by kernel_rfl) (by simp) ?_
  refine AllReadyH.cons rfl (fun K hK=>?_) AllReadyH.nil
  go_simp
  refine hK.out _ _ hHeld (fun hHeld=>?_)
  clear hK K
  try simp only [pT0]
  have q1:=B1.c.cell 2 rfl
  have fq1:=B1.c.frozen 2
  refine wpAnyH_ready (rs:=[19]) (by kernel_rfl) (by simp) ?_
  refine AllReadyH.cons rfl (fun K hK=>?_) AllReadyH.nil
  go_simp
  have HF:=hideIt (HSt.out x0 2 (.slice p2 pC.n c2) hHeld)
  obtain ⟨x1,hx1⟩:∃ x,x=x0.setCell ⟨w.heap.size+1+1,2,none⟩ (.slice p2 pC.n c2):=⟨_,rfl⟩
  have B2:CpB w h ⟨pO,pC,⟨aL,nL,cL⟩,pN,pE,pS⟩ ⟨⟨some ⟨p1,0,none⟩,pO.n,c1⟩,⟨p2,pC.n,c2⟩,⟨aL,nL,cL⟩,pN,pE,pS⟩ x1:=by rw [hx1];exact B1.set 2 (.slice p2 pC.n c2) rfl
  replace O1:x1.ownsRow (w.heap.size+3) 3 1 (.slice (some ⟨p1,0,none⟩) pO.n c1) pO.n (ic h.own):=by rw [hx1];exact own_lowA O1 (by omega)
  replace O2:x1.ownsRow (w.heap.size+3) 107 2 (.slice p2 pC.n c2) pC.n (O.ecells h.cuts):=by rw [hx1];exact own_lowA O2 (by omega)
  replace O3:x1.ownsRow (w.heap.size+3) 3 1 (.slice (some ⟨p3,0,none⟩) pN.n c3) pN.n (ic h.nums):=by rw [hx1];exact own_lowA O3 (by omega)
  replace O4:x1.ownsRow (w.heap.size+3) 82 6 (.slice p4 pS.n c4) pS.n (scells h.said):=by rw [hx1];exact own_lowA O4 (by omega)
  refine hK.out _ _ HF.out (fun hHeld=>?_)
  clear hK K
  try simp only [pT0]
  rw [← hx1] at hHeld ⊢
  clear HF hx1 q1 fq1 B1
  refine wpAnyH_ready (rs:=[20]) (by kernel_rfl) (by simp) ?_
  refine AllReadyH.cons rfl (fun K hK=>?_) AllReadyH.nil
  go_simp
  refine hK.out _ _ hHeld (fun hHeld=>?_)
  clear hK K
  try simp only [pT0]
  have q2:=B2.c.cell 4 rfl
  have fq2:=B2.c.frozen 4
  refine wpAnyH_ready (rs:=[21]) (by kernel_rfl) (by simp) ?_
  refine AllReadyH.cons rfl (fun K hK=>?_) AllReadyH.nil
  go_simp
  have HF:=hideIt (HSt.out x1 4 (.slice (some ⟨p3,0,none⟩) pN.n c3) hHeld)
  obtain ⟨x2,hx2⟩:∃ x,x=x1.setCell ⟨w.heap.size+1+1,4,none⟩ (.slice (some ⟨p3,0,none⟩) pN.n c3):=⟨_,rfl⟩
  have B3:CpB w h ⟨pO,pC,⟨aL,nL,cL⟩,pN,pE,pS⟩ ⟨⟨some ⟨p1,0,none⟩,pO.n,c1⟩,⟨p2,pC.n,c2⟩,⟨aL,nL,cL⟩,⟨some ⟨p3,0,none⟩,pN.n,c3⟩,pE,pS⟩ x2:=by rw [hx2];exact B2.set 4 (.slice (some ⟨p3,0,none⟩) pN.n c3) rfl
  replace O1:x2.ownsRow (w.heap.size+3) 3 1 (.slice (some ⟨p1,0,none⟩) pO.n c1) pO.n (ic h.own):=by rw [hx2];exact own_lowA O1 (by omega)
  replace O2:x2.ownsRow (w.heap.size+3) 107 2 (.slice p2 pC.n c2) pC.n (O.ecells h.cuts):=by rw [hx2];exact own_lowA O2 (by omega)
  replace O3:x2.ownsRow (w.heap.size+3) 3 1 (.slice (some ⟨p3,0,none⟩) pN.n c3) pN.n (ic h.nums):=by rw [hx2];exact own_lowA O3 (by omega)
  replace O4:x2.ownsRow (w.heap.size+3) 82 6 (.slice p4 pS.n c4) pS.n (scells h.said):=by rw [hx2];exact own_lowA O4 (by omega)
  refine hK.out _ _ HF.out (fun hHeld=>?_)
  clear hK K
  try simp only [pT0]
  rw [← hx2] at hHeld ⊢
  clear HF hx2 q2 fq2 B2
  refine wpAnyH_ready (rs:=[22]) (by kernel_rfl) (by simp) ?_
  refine AllReadyH.cons rfl (fun K hK=>?_) AllReadyH.nil
  go_simp
  refine hK.out _ _ hHeld (fun hHeld=>?_)
  clear hK K
  try simp only [pT0]
  have q3:=B3.c.cell 14 rfl
  have fq3:=B3.c.frozen 14
  refine wpAnyH_ready (rs:=[23]) (by kernel_rfl) (by simp) ?_
  refine AllReadyH.cons rfl (fun K hK=>?_) AllReadyH.nil
  go_simp
  have HF:=hideIt (HSt.out x2 14 (.slice p4 pS.n c4) hHeld)
  obtain ⟨x3,hx3⟩:∃ x,x=x2.setCell ⟨w.heap.size+1+1,14,none⟩ (.slice p4 pS.n c4):=⟨_,rfl⟩
  have B4:CpB w h ⟨pO,pC,⟨aL,nL,cL⟩,pN,pE,pS⟩ ⟨⟨some ⟨p1,0,none⟩,pO.n,c1⟩,⟨p2,pC.n,c2⟩,⟨aL,nL,cL⟩,⟨some ⟨p3,0,none⟩,pN.n,c3⟩,pE,⟨p4,pS.n,c4⟩⟩ x3:=by rw [hx3];exact B3.set 14 (.slice p4 pS.n c4) rfl
  replace O1:x3.ownsRow (w.heap.size+3) 3 1 (.slice (some ⟨p1,0,none⟩) pO.n c1) pO.n (ic h.own):=by rw [hx3];exact own_lowA O1 (by omega)
  replace O2:x3.ownsRow (w.heap.size+3) 107 2 (.slice p2 pC.n c2) pC.n (O.ecells h.cuts):=by rw [hx3];exact own_lowA O2 (by omega)
  replace O3:x3.ownsRow (w.heap.size+3) 3 1 (.slice (some ⟨p3,0,none⟩) pN.n c3) pN.n (ic h.nums):=by rw [hx3];exact own_lowA O3 (by omega)
  replace O4:x3.ownsRow (w.heap.size+3) 82 6 (.slice p4 pS.n c4) pS.n (scells h.said):=by rw [hx3];exact own_lowA O4 (by omega)
  refine hK.out _ _ HF.out (fun hHeld=>?_)
  clear hK K
  try simp only [pT0]
  rw [← hx3] at hHeld ⊢
  clear HF hx3 q3 fq3 B3
  clear hHeld GU
  refine wpAnyH_done (by kernel_rfl) ?_ _
  have HBB:=hideIt B4
  have HO1:=hideIt O1
  have HO2:=hideIt O2
  have HO3:=hideIt O3
  have HO4:=hideIt O4
  have HS13:=hideIt S13
  have h12:x3.cell? ⟨w.heap.size,12,none⟩=some (.slice pE.a pE.n pE.c):=B4.h.cell 12 rfl
  have HCE:=hideIt (con1E20 h.es pE.a pE.n pE.c HE66.out HzE.out x3.heap.size (x3.alloc (.cells #[.slice pE.a pE.n pE.c] 25)) ((HIn.out x3 B4.f).e.up (belA _ _)) ⟨by simp [go_sem],by simp⟩)
  clear B4 O1 O2 O3 O4 S13
  go_wp2_with (go_at_call 107;refine HCE.out.mono ?_;rintro e z ⟨p5,c5,rfl,ho5,gg⟩;refine Hid.out ?_)
  refine hidp20 ?_
  clear HCE h12
  have g2:Below x3.heap.size x3 z:=(belA _ _).trans (gg.mono (by simp))
  have B5:=HBB.out.up g2
  have ho5':=own_mono ho5 (show x3.heap.size≤_ by simp)
  have HCE2:Hid (∀ b,(Value.slice p2 pC.n c2).ownBlock=some b→(Value.slice p5 pE.n c5).ownBlock≠some b):=fun b h1 h2=>by have:=(HO2.out.lt b h1).2;have:=(ho5'.lt b h2).1;omega
  have l3:=HBB.out.lt
  have HO5:=hideIt (own_mono ho5' l3)
  have q1:=own_up HO1.out g2
  have q2:=own_up HO2.out g2
  have q3:=own_up HO3.out g2
  have q4:=own_up HO4.out g2
  have f12:=B5.c.frozen 12
  have d12:=B5.c.cell 12 rfl
  clear ho5 ho5' gg g2 HBB HO1 HO2 HO3 HO4
  go_upto_region 4 with fail
  obtain ⟨ZU,hu3⟩:∃ ZU,ZU=z.setCell ⟨w.heap.size+1+1,12,none⟩ (.slice p5 pE.n c5):=⟨_,rfl⟩
  rw [← hu3]
  have B6:CpB w h ⟨pO,pC,⟨aL,nL,cL⟩,pN,pE,pS⟩ ⟨⟨some ⟨p1,0,none⟩,pO.n,c1⟩,⟨p2,pC.n,c2⟩,⟨aL,nL,cL⟩,⟨some ⟨p3,0,none⟩,pN.n,c3⟩,⟨p5,pE.n,c5⟩,⟨p4,pS.n,c4⟩⟩ ZU:=by rw [hu3];exact B5.set 12 _ rfl
  have HO:Hid (CpR w h pO.n pC.n pN.n pE.n pS.n p1 c1 p2 c2 p3 c3 p5 c5 p4 c4 ZU):=by
   show CpR _ _ _ _ _ _ _ _ _ _ _ _ _ _ _ _ _ _
   rw [hu3]
   exact ⟨own_lowA q1 (by omega),own_lowA q2 (by omega),own_lowA q3 (by omega),own_lowA HO5.out (by omega),own_lowA q4 (by omega)⟩
  clear hu3 B5 q1 q2 q3 q4 f12 d12 HO5 l3
  have HB6:=hideIt B6
  have h3:ZU.cell? ⟨w.heap.size,3,none⟩=some (.slice aL nL cL):=B6.h.cell 3 rfl
  have d3:ZU.cell? ⟨w.heap.size+1+1,3,none⟩=some (.slice aL nL cL):=B6.c.cell 3 rfl
  have e3:=B6.c.frozen 3
  have l6:w.heap.size+1+1<ZU.heap.size:=B6.c.lt
  clear B6
  go_upto_region 5 with fail
  obtain ⟨ZW,hu5⟩:∃ ZW,ZW=ZU.setCell ⟨w.heap.size+1+1,3,none⟩ (.slice (some ⟨ZU.heap.size,0,none⟩) nL nL):=⟨_,rfl⟩
  rw [← hu5]
  have z5:ZW.heap.size=ZU.heap.size:=by rw [hu5];simp
  have B7:CpB w h ⟨pO,pC,⟨aL,nL,cL⟩,pN,pE,pS⟩ ⟨⟨some ⟨p1,0,none⟩,pO.n,c1⟩,⟨p2,pC.n,c2⟩,⟨some ⟨ZW.heap.size,0,none⟩,nL,nL⟩,⟨some ⟨p3,0,none⟩,pN.n,c3⟩,⟨p5,pE.n,c5⟩,⟨p4,pS.n,c4⟩⟩ ZW:=by rw [z5,hu5];exact HB6.out.set 3 _ rfl
  have R7:CpR w h pO.n pC.n pN.n pE.n pS.n p1 c1 p2 c2 p3 c3 p5 c5 p4 c4 ZW:=by rw [hu5];exact HO.out.set 3 _
  obtain ⟨ZX,hu6⟩:∃ ZX,ZX=ZW.alloc (.cells (madeCells #[.slice none 0 0] nL) 24):=⟨_,rfl⟩
  rw [← hu6,← z5]
  have b56:Below ZW.heap.size ZW ZX:=by rw [hu6];exact belA _ _
  have F0:FMk ZW nL [] ZX:=by rw [hu6];exact ⟨⟨_,World.ownsRow_lit (base:=ZW.heap.size) (e:=24) (size:=1) ZW (madeCells #[.slice none 0 0] nL) nL (Nat.le_refl _) (by unfold maxLen;omega) (by simp [madeCells]),by simp [rhs]⟩,by simp,List.Pairwise.nil,belA _ _⟩
  have HB8:=hideIt (B7.up b56)
  have HR8:=hideIt (R7.up b56)
  have HF8:=hideIt F0
  have HZ5:Hid (w.heap.size+3≤ZW.heap.size):=B7.lt
  have HPP:Hid (∀ (v:Value) (B e s n:Nat) (xs:List Value),ZW.ownsRow B e s v n xs→∀ b,v.ownBlock=some b→b<ZW.heap.size):=fun _ _ _ _ _ _ h b hb=>(h.lt b hb).2
  have HR7:=hideIt R7
  have HTsB:Hid (∀ u,Below ZW.heap.size ZW u→Ts u u.heap.size aL nL h.lab):=fun u hu=>(HIn.out u (B7.f.trans (hu.mono B7.f.size))).l
  have l3:ZX.cell? ⟨w.heap.size,3,none⟩=some (.slice aL nL cL):=(B7.up b56).h.cell 3 rfl
  clear hu5 hu6 z5 B7 R7 b56 F0 HB6 HO h3 d3 e3 l6
  go_wp2
  go_loopw [44] (fun i wr=>∃ (j:Nat) (R:List Rw),j≤nL∧i=.int .i64 (j:Int)∧Hid (R.length=j)∧Hid (rts R=h.lab.take j)∧Hid (CpB w h ⟨pO,pC,⟨aL,nL,cL⟩,pN,pE,pS⟩ ⟨⟨some ⟨p1,0,none⟩,pO.n,c1⟩,⟨p2,pC.n,c2⟩,⟨some ⟨ZW.heap.size,0,none⟩,nL,nL⟩,⟨some ⟨p3,0,none⟩,pN.n,c3⟩,⟨p5,pE.n,c5⟩,⟨p4,pS.n,c4⟩⟩ wr)∧Hid (CpR w h pO.n pC.n pN.n pE.n pS.n p1 c1 p2 c2 p3 c3 p5 c5 p4 c4 wr)∧Hid (FMk ZW nL R wr)) (fun i _=>nL - (intOf i).toNat)
  case atStart=>exact ⟨0,[],by omega,rfl,by show _=_;rfl,by show _=_;simp [rts],HB8,HR8,HF8⟩
  case round =>
   obtain ⟨j,R,hj,rfl,HK,HTk,hB,hR,hF⟩:=hrel
   clear HB8 HR8 HF8 l3
   by_cases hlt:j<nL
   ·rcases (HTsB.out wr hF.out.bel).2 with h0 | ⟨b,off,rfl,hbl,hcl⟩
    ·omega
    obtain ⟨ls,hls⟩:∃ ls,h.lab[j]?=some ls:=⟨h.lab[j]'(by have:=HL.out.1;omega),List.getElem?_eq_getElem (by have:=HL.out.1;omega)⟩
    obtain ⟨al,cl,cx,hIs,_⟩:=hcl j _ hls
    have hll:=HL.out.2.2 ls (List.mem_of_getElem? hls)
    have h1l:1≤ls.length∧ls.length≤12:=by have:=HN12.out;omega
    have hzl:al=none→ls.length=0∧cl=0:=fun ha=>by
     rcases hIs.2 with h0 | ⟨b',off',hb',_⟩
     ·omega
     ·rw [ha] at hb';cases hb'
    have b1:(0:Int)≤(j:Int):=by omega
    have b2:(j:Int)<(nL:Int):=by omega
    have HCl:Hid (∀ (u:World) (b:Nat),Below wr.heap.size wr u→u.cell? ⟨b,0,none⟩=some (.slice al ls.length cl)∧b<u.heap.size→Calls Tryz.prog 94 #[.slice (some ⟨b,0,none⟩) 1 1] u fun e v=>∃ g c,e=.returned (.slice (some ⟨g,0,none⟩) ls.length c)∧v.ownsRow u.heap.size 3 1 (.slice (some ⟨g,0,none⟩) ls.length c) ls.length (ic ls)∧Below u.heap.size u v):=fun u b hu hc=>con1I20 ls al ls.length cl (by omega) h1l.1 hzl b u (hIs.up hu) hc
    have HT2:Hid (∀ r:Rw,r.t=ls→rts (R ++ [r])=h.lab.take (j+1)):=fun r hr=>by rw [rts_snoc,HTk.out,take_snocF h.lab j ls hls,hr]
    have HSS:Hid (∀ u,Good wr u→u.cell? ⟨w.heap.size+1+1,3,none⟩=some (.slice (some ⟨ZW.heap.size,0,none⟩) nL nL)):=fun u hu=>(hB.out.c.up hu).cell 3 rfl
    have hS0:=HSS.out _ (Below.refl wr.heap.size wr).drew
    obtain ⟨xs,hXs,_⟩:=hF.out.xs
    have HXs:=hideIt hXs
    have HRow:Hid (∀ u,Below wr.heap.size wr u→(∃ v,u.cell? ⟨ZW.heap.size,j,none⟩=some v)∧u.frozen? ⟨ZW.heap.size,j,none⟩=false):=fun u hu=>by
     have hr2:=own_up HXs.out hu
     have hl:=hr2.1
     exact ⟨⟨_,by rw [hr2.cellAt j (by omega)];exact List.getElem?_eq_getElem (by omega)⟩,hr2.frozenAt j⟩
    clear hcl hIs hzl hXs hls hll h1l HTk
    go_upto_region 8 with fail
    (
    apply viaT
    intro t4_5_
    apply viaT
    intro t4_
    focus (
    refine wp_region_held_drew (S:=(fun u=>u.cell? ⟨w.heap.size+1+1,3,none⟩=some (.slice (some ⟨ZW.heap.size,0,none⟩) nL nL))) (by kernel_rfl) hS0 (fun hHeld=>?_)
    refine tq0 (i:=0) (v:=?_) rfl ?_ (by assumption) ?_
    rotate_left
    ·intro w hSw;(try dsimp only at hSw);go_simp;try with_reducible rfl
    try simp only [Act.put,pS0,pT0]
    refine tq0 (i:=1) (v:=?_) rfl ?_ (by assumption) ?_
    rotate_left
    ·intro w hSw;(try dsimp only at hSw);go_simp;try with_reducible rfl
    try simp only [Act.put,pS0,pT0]
    refine tq0 (i:=2) (v:=?_) rfl ?_ (by assumption) ?_
    rotate_left
    ·intro w hSw;(try dsimp only at hSw);go_simp;try with_reducible rfl
    try simp only [Act.put,pS0,pT0]
    refine tq0 (i:=3) (v:=?_) rfl ?_ (by assumption) ?_
    rotate_left
    ·intro w hSw;(try dsimp only at hSw);go_simp;try with_reducible rfl
    try simp only [Act.put,pS0,pT0]
    obtain ⟨y,hy⟩:∃ y,y=wr.drew:=⟨_,rfl⟩
    have GU:Good wr y:=by rw [hy];exact (Good.refl _).drew
    rw [← hy]
    clear hy hHeld
    refine wpAnyH_ready (rs:=[4]) (by kernel_rfl) (by simp) ?_
    refine AllReadyH.cons rfl (fun K hK=>?_) AllReadyH.nil
    focus (
    go_simp
    refine hK.out _ _ (HSS.out _ (GU.alloc _)) (fun hHeld=>?_)
    clear hK K
    try simp only [Act.put,pS0,pT0]
    obtain ⟨z,hz⟩:∃ z,z=y.alloc (.cells #[.slice al ls.length cl] 24):=⟨_,rfl⟩
    have gg:Below y.heap.size y z:=by rw [hz];exact (Below.refl _ _).alloc (Nat.le_refl _) _
    have P5:z.cell? ⟨y.heap.size,0,none⟩=some (.slice al ls.length cl)∧y.heap.size<z.heap.size:=by rw [hz];simp [go_sem]
    replace GU:=Good.up GU gg
    rw [← hz]
    clear hz gg hHeld
    generalize y.heap.size=bE at *
    refine lstH (l':=#[true,true,true,true,true,false,false,false]) (by kernel_rfl) ?_
    have F:=And.intro GU P5
    clear GU P5
    revert F
    revert bE
    revert z
    exact t4_.out
    )
    )
    focus (
    intro y bE F
    obtain ⟨GU,P5⟩:=F
    have hHeld:=HSS.out _ GU
    clear hHeld
    refine wpAnyH_ready (rs:=[5]) (by kernel_rfl) (by simp) ?_
    refine AllReadyH.cons rfl (fun K hK=>?_) AllReadyH.nil
    focus (
    rw [if_pos]
    rotate_left
    ·kernel_rfl
    have HCall:=hideIt (HCl.out _ bE GU P5)
    go_wp2_with (go_at_call 94;refine HCall.out.mono ?_;rintro e z ⟨g5,c6,rfl,ho,gg⟩;refine Hid.out ?_)
    refine hidp ?_
    refine hK.out _ _ (HSS.out _ (Good.up GU gg)) (fun hHeld=>?_)
    clear hK K HCall
    try simp only [pT0]
    have O5:=own_mono ho GU.size
    clear ho
    replace GU:=Good.up GU gg
    clear gg P5
    clear hHeld
    refine lstH (l':=#[true,true,true,true,true,true,false,false]) (by kernel_rfl) ?_
    have F:=And.intro GU O5
    clear GU O5
    revert F
    revert c6
    revert g5
    revert bE
    revert z
    exact t4_5_.out
    )
    )
    focus (
    intro y bE g5 c6 F
    obtain ⟨GU,O5⟩:=F
    have hHeld:=HSS.out _ GU
    refine wpAnyH_ready (rs:=[6]) (by kernel_rfl) (by simp) ?_
    refine AllReadyH.cons rfl (fun K hK=>?_) AllReadyH.nil
    go_simp
    refine hK.out _ _ hHeld (fun hHeld=>?_)
    clear hK K
    try simp only [pT0]
    obtain ⟨⟨vv,hv⟩,hf⟩:=HRow.out y GU
    refine wpAnyH_ready (rs:=[7]) (by kernel_rfl) (by simp) ?_
    refine AllReadyH.cons rfl (fun K hK=>?_) AllReadyH.nil
    go_simp
    have HB9:Hid (CpB w h ⟨pO,pC,⟨some ⟨b,off,none⟩,nL,cL⟩,pN,pE,pS⟩ ⟨⟨some ⟨p1,0,none⟩,pO.n,c1⟩,⟨p2,pC.n,c2⟩,⟨some ⟨ZW.heap.size,0,none⟩,nL,nL⟩,⟨some ⟨p3,0,none⟩,pN.n,c3⟩,⟨p5,pE.n,c5⟩,⟨p4,pS.n,c4⟩⟩ (y.setCell ⟨ZW.heap.size,j,none⟩ (.slice (some ⟨g5,0,none⟩) ls.length c6))):=(hB.out.up GU).setOut _ _ (by have:=HZ5.out;omega) _
    have HR9:Hid (CpR w h pO.n pC.n pN.n pE.n pS.n p1 c1 p2 c2 p3 c3 p5 c5 p4 c4 (y.setCell ⟨ZW.heap.size,j,none⟩ (.slice (some ⟨g5,0,none⟩) ls.length c6))):=CpR.row (hR.out.up GU) (own_up HXs.out GU) j _
    have hA:=hF.out.add (r:=⟨g5,c6,ls⟩) (by have:=HK.out;omega) GU (RwB.of_own O5) (O5.lt g5 rfl).1
    rw [HK.out] at hA
    have HA:=hideIt hA
    clear hA O5
    refine hK.out _ _ (HB9.out.c.cell 3 rfl) (fun hHeld=>?_)
    clear hK K
    try simp only [pT0]
    refine wpAnyH_done (by kernel_rfl) ?_ _
    clear hHeld hv hf GU
    go_wp2
    exact ⟨⟨j+1,_,by omega,by go_num,by show _=_;rw [List.length_append,HK.out];rfl,HT2.out _ rfl,HB9,HR9,HA⟩,by simp [intOf];omega⟩
    )
    )
   ·obtain rfl:j=nL:=by omega
    have d1:decide ((j:Int)<(j:Int))=false:=by simp
    have HW9:Hid (∀ v,wr.grownBy v (some (w.heap.size+1))→HW v w.heap.size h ⟨⟨some ⟨p1,0,none⟩,pO.n,c1⟩,⟨p2,pC.n,c2⟩,⟨some ⟨ZW.heap.size,0,none⟩,j,j⟩,⟨some ⟨p3,0,none⟩,pN.n,c3⟩,⟨p5,pE.n,c5⟩,⟨p4,pS.n,c4⟩⟩ R):=fun v hv=>by
     have hFB:=(hF.out.fb HK.out).lo (show w.heap.size≤ZW.heap.size by have:=HZ5.out;omega)
     have rr:=hR.out
     refine HW.grB (lo:=w.heap.size+3) ?_ hv (by omega) |>.low (by omega)
     refine ⟨⟨rr.o,rr.c,(hF.out.fb HK.out).lo (HZ5.out),by rw [HTk.out,List.take_of_length_le (by have:=HL.out.1;omega)],rr.n,rr.e,rr.s⟩,⟨fun b h1 h2=>?_,fun r hr h1=>?_,fun r hr h1=>?_⟩,HCE2⟩
     ·have:=HS13.out
      simp [Value.ownBlock] at h1 h2
      omega
     ·have h2:=(hF.out.ins r hr).2
      have h3:=HPP.out _ _ _ _ _ _ HR7.out.o _ h1
      omega
     ·have h2:=(hF.out.ins r hr).2
      have h3:=HPP.out _ _ _ _ _ _ HR7.out.n _ h1
      omega
    have HBz:=hB
    go_upto_region 10 with fail
    refine wp_region_lit ?_
    go_step
    refine wp_loadH HBz.out.c rfl rfl ?_
    go_step
    go_step
    refine wp_storeH HBz.out.z rfl rfl rfl ?_
    intro v XV gv zv
    have HXV:=hideIt XV
    have HF9:=hideIt (And.intro (HW9.out v gv) (below_grB HBz.out.f gv (by omega) (Nat.le_refl _)))
    clear XV gv zv
    go_wp2
    exact bodyPost_ret (results_H1 Tryz.results89 rfl HXV.out) rfl ⟨_,R,rfl,HF9.out.1,HF9.out.2⟩
  )
 )
end Go.Proofs.YtnagchanokbgdaaGreat
namespace Go.Proofs.YtnagchanokbgdaaGreat
open Go.RowKit
theorem grown_refl (w:World) (x:Option Nat):w.grownBy w x:=⟨rfl,rfl,rfl,Nat.le_refl _,fun _ _ _=>rfl⟩
theorem wpList_append_copy {P:Program} {w:World} {ops:Array Oper} {rest:List Oper} {o:Oper} {a:Act} {Q:Exit→Act→World→Prop} (hgd:o.guard=none) (s x:Operand) (t:TypeId)
  (ho:o.op=.call { callee:=.builtin .append,args:=#[s,x],argTypes:=#[t,t] })
  (base:Nat) (e:TypeId) (i:TypeInfo) (z:Value) (size bytes:Nat) (ht:P.underlying t=some (.slice e)) (hi:P.info? e=some i) (hz:i.zero=some z)
  (hsize:i.size=size) (hby:i.bytes=bytes) (hzs:z.cells.size=size) (hsz:0<size)
  (v:Value) (hs:a.eval s=v) (hown:w.ownsRow base e size v 0 [])
  (ad:Option Addr) (m c:Nat) (news:List Value) (hx:a.eval x=.slice ad m c) (hl:news.length=m*size) (hnil:ad=none→m=0∧c=0) (hnews:∀ ad',ad=some ad'→∀ j u,news[j]?=some u→w.cell? (ad'.add j)=some u) (h1:∀ u ∈ news,u.oneCell'=true)
  (h63:m≤maxLen) (hbytes:m*bytes≤140737488355328) (hbase:base≤w.heap.size)
  (h:∀ a' cap w',w'.ownsRow base e size (.slice a' m cap) m news→w.grownBy w' v.ownBlock→wpList P ops Q rest (a.put o.dst (.slice a' m cap)) w'):wpList P ops Q (o :: rest) a w:=by
 cases ad with
 | none =>
  obtain ⟨rfl,rfl⟩:=hnil rfl
  have e0:news=[]:=List.length_eq_zero_iff.1 (by omega)
  subst e0
  refine wpList_append_own_none hgd s x t ho base e i size ht hi v 0 [] hs hown hx ?_
  obtain ⟨a2,c2,rfl⟩:=own_form hown
  exact h a2 c2 w hown (grown_refl _ _)
 | some ad =>
  refine wpList_append_own w hgd s x t ho base e i z size bytes ht hi hz hsize hby hzs hsz v 0 [] hs hown ad m c news hx hl (hnews ad rfl) h1 (by omega) (by simpa using hbytes) hbase fun v' w' h2 h3 _=>?_
  rw [Nat.zero_add,List.nil_append] at h2
  obtain ⟨a2,c2,rfl⟩:=own_form h2
  exact h a2 c2 w' h2 h3
end Go.Proofs.YtnagchanokbgdaaGreat
namespace Go.Proofs.YtnagchanokbgdaaGreat
open Go.RowKit
theorem icone20 {ls:List Int}:∀ u ∈ ic ls,u.oneCell'=true:=by
 intro u hu
 simp only [ic,List.mem_map] at hu
 obtain ⟨e,_,rfl⟩:=hu
 rfl
theorem cpI20 {ops:Array Oper} {rest:List Oper} {o:Oper} {a:Act} {Q:Exit→Act→World→Prop} {w0:World} (s x:Operand) (hgd:o.guard=none) (ho:o.op=.call { callee:=.builtin .append,args:=#[s,x],argTypes:=#[24,24] }) (hs:a.eval s=.slice (some ⟨w0.heap.size,0,none⟩) 0 0)
  (ls:List Int) (ad:Option Addr) (n c:Nat) (hx:a.eval x=.slice ad n c) (hI:Is w0 w0.heap.size ad n ls) (hn:n≤1048576) (hnil:ad=none→n=0∧c=0)
  (h:∀ a' cap w',w'.ownsRow w0.heap.size 3 1 (.slice a' n cap) n (ic ls)→Below w0.heap.size w0 w'→wpList Tryz.prog ops Q rest (a.put o.dst (.slice a' n cap)) w'):wpList Tryz.prog ops Q (o :: rest) a (w0.alloc (.cells #[] 3)):=by
 obtain ⟨i0,hi,hz0,hz1,hz2⟩:=info_parts info3i
 refine wpList_append_copy hgd s x 24 ho w0.heap.size 3 i0 _ 1 8 Tryz.underlying24 hi hz0 hz1 hz2 rfl (by decide) _ hs (World.ownsRow_made (base:=w0.heap.size) w0 #[] 0 (Nat.le_refl _) (by unfold maxLen;omega) rfl) ad n c (ic ls) hx (by rw [ic_len,hI.1,Nat.mul_one]) hnil (fun ad' he=>?_) icone20 (by unfold maxLen;omega) (by omega) (by simp) fun a' cap w' ho hg=>h a' cap w' ho ?_
 ·have hJ:=hI.up (belA w0 (.cells #[] 3))
  subst he
  rcases hJ.2 with h0 | ⟨b,off,e,hb,hc⟩
  ·intro j u hj
   have e0:ls=[]:=List.length_eq_zero_iff.1 (by rw [hI.1];exact h0)
   rw [e0] at hj
   simp [ic] at hj
  ·simp only [Option.some.injEq] at e
   subst e
   exact hJ.newsC
 ·exact (belA w0 _).grown hg (by simp) (fun j hj=>by simp [Value.ownBlock] at hj;omega)
theorem cpE20 {ops:Array Oper} {rest:List Oper} {o:Oper} {a:Act} {Q:Exit→Act→World→Prop} {w0:World} (s x:Operand) (hgd:o.guard=none) (ho:o.op=.call { callee:=.builtin .append,args:=#[s,x],argTypes:=#[25,25] }) (hs:a.eval s=.slice (some ⟨w0.heap.size,0,none⟩) 0 0)
  (ls:List O.EdgeV) (ad:Option Addr) (n c:Nat) (hx:a.eval x=.slice ad n c) (hI:O.Es w0 w0.heap.size ad n ls) (hn:n≤1048576) (hnil:ad=none→n=0∧c=0)
  (h:∀ a' cap w',w'.ownsRow w0.heap.size 107 2 (.slice a' n cap) n (O.ecells ls)→Below w0.heap.size w0 w'→wpList Tryz.prog ops Q rest (a.put o.dst (.slice a' n cap)) w'):wpList Tryz.prog ops Q (o :: rest) a (w0.alloc (.cells #[] 107)):=by
 obtain ⟨i0,hi,hz0,hz1,hz2⟩:=info_parts O.infoIE
 refine wpList_append_copy hgd s x 25 ho w0.heap.size 107 i0 _ 2 16 Tryz.underlying25 hi hz0 hz1 hz2 rfl (by decide) _ hs (World.ownsRow_made (base:=w0.heap.size) w0 #[] 0 (Nat.le_refl _) (by unfold maxLen;omega) rfl) ad n c (O.ecells ls) hx (by rw [O.ecells_length,hI.1]) hnil (fun ad' he=>?_) O.ecells_one (by unfold maxLen;omega) (by omega) (by simp) fun a' cap w' ho hg=>h a' cap w' ho ?_
 ·have hJ:=hI.up (belA w0 (.cells #[] 107))
  subst he
  rcases hJ.2 with h0 | ⟨b,off,e,hb,hc⟩
  ·intro j u hj
   have e0:ls=[]:=List.length_eq_zero_iff.1 (by rw [hI.1];exact h0)
   rw [e0] at hj
   simp [O.ecells] at hj
  ·simp only [Option.some.injEq] at e
   subst e
   exact hJ.news
 ·exact (belA w0 _).grown hg (by simp) (fun j hj=>by simp [Value.ownBlock] at hj;omega)
theorem cpS20 {ops:Array Oper} {rest:List Oper} {o:Oper} {a:Act} {Q:Exit→Act→World→Prop} {w0:World} (s x:Operand) (hgd:o.guard=none) (ho:o.op=.call { callee:=.builtin .append,args:=#[s,x],argTypes:=#[33,33] }) (hs:a.eval s=.slice (some ⟨w0.heap.size,0,none⟩) 0 0)
  (ls:List Sd) (ad:Option Addr) (n c:Nat) (hx:a.eval x=.slice ad n c) (hI:Ss w0 w0.heap.size ad n ls) (hn:n≤1048576) (hnil:ad=none→n=0∧c=0)
  (h:∀ a' cap w',w'.ownsRow w0.heap.size 82 6 (.slice a' n cap) n (scells ls)→Below w0.heap.size w0 w'→wpList Tryz.prog ops Q rest (a.put o.dst (.slice a' n cap)) w'):wpList Tryz.prog ops Q (o :: rest) a (w0.alloc (.cells #[] 82)):=by
 obtain ⟨i0,hi,hz0,hz1,hz2⟩:=info_parts infoSd
 refine wpList_append_copy hgd s x 33 ho w0.heap.size 82 i0 _ 6 48 Tryz.underlying33 hi hz0 hz1 hz2 rfl (by decide) _ hs (World.ownsRow_made (base:=w0.heap.size) w0 #[] 0 (Nat.le_refl _) (by unfold maxLen;omega) rfl) ad n c (scells ls) hx (by rw [scells_length,hI.1]) hnil (fun ad' he=>?_) scells_one (by unfold maxLen;omega) (by omega) (by simp) fun a' cap w' ho hg=>h a' cap w' ho ?_
 ·have hJ:=hI.up (belA w0 (.cells #[] 82))
  subst he
  rcases hJ.2 with h0 | ⟨b,off,e,hb,hc⟩
  ·intro j u hj
   have e0:ls=[]:=List.length_eq_zero_iff.1 (by rw [hI.1];exact h0)
   rw [e0] at hj
   simp [scells] at hj
  ·simp only [Option.some.injEq] at e
   subst e
   exact hJ.news
 ·exact (belA w0 _).grown hg (by simp) (fun j hj=>by simp [Value.ownBlock] at hj;omega)
end Go.Proofs.YtnagchanokbgdaaGreat
