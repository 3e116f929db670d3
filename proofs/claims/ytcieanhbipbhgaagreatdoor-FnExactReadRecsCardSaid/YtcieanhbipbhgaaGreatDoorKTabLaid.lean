/- Two records that hold the same are held for the same. Two lists of the same records are held for the same. The walk of FnExactReadRecs. The program's table of 16 words as a row lists it, and as it reads. -/
import Derived.Test.YtcieanhbipbhgaaGreatDoorKRs17
import Derived.Test.YtcieanhbipbhgaaGreatDoorKRsMk17
import Derived.Test.YtcieanhbipbhgaaGreatDoorKSRr17
import Derived.Test.YtcieanhbipbhgaaGreatDoorKRsHd17
import Derived.Test.YtcieanhbipbhgaaGreatDoorRows
import Derived.Test.YtcieanhbipbhgaaGreatDoorKIUnseal
import Derived.WalkKit
import Derived.ProofKit
import Derived.OpenShut
import Derived.ShutString
import Derived.ChangeOld
import Derived.ChangeVars
import Derived.Below
import Derived.Deep.DeepHandedRow
namespace Go.Proofs.YtcieanhbipbhgaaGreatDoor
open Go.RowKit Vt

structure RY (u : World) (lo hi b : Nat) (r : RecV) (a1 : Option Addr) (k1 c1 : Nat) (a2 : Option Addr) (k2 c2 : Nat) (a3 : Option Addr) (k3 c3 : Nat) (es : List EdgeV) (ls : List Int) (es3 : List EdgeV) : Prop where
  r1 : u.ownsRow lo 79 2 (.slice a1 k1 c1) k1 (ecells es)
  r2 : u.ownsRow lo 3 1 (.slice a2 k2 c2) k2 (ic ls)
  r3 : u.ownsRow lo 79 2 (.slice a3 k3 c3) k3 (ecells es3)
  bd : k1 ≤ 100 ∧ k2 ≤ 100 ∧ k3 ≤ 100
theorem eqAsk_yes (i o a b : Int) (w : World) : Calls Tryz.prog 33 #[.agg #[.int .i64 i, .int .i64 o, .int .i64 a, .int .i64 b], .agg #[.int .i64 i, .int .i64 o, .int .i64 a, .int .i64 b]] w fun e w' => e = .returned (.bool true) ∧ Below w.heap.size w w' := by
  have d1 : (i != i) = false := by simp
  have d2 : (o != o) = false := by simp
  have d3 : (a != a) = false := by simp
  have d4 : (b != b) = false := by simp
  go_enter Tryz.func33, Tryz.ntmps33
  go_wp2
  go_ret
  exact ⟨rfl, ((Below.refl _ _).alloc (Nat.le_refl _) _).alloc (by simp) _⟩
section
variable {u v : World} {lo hi b : Nat} {r : RecV} {a1 : Option Addr} {k1 c1 : Nat} {a2 : Option Addr} {k2 c2 : Nat} {a3 : Option Addr} {k3 c3 : Nat} {es : List EdgeV} {ls : List Int} {es3 : List EdgeV}
theorem RY.len (h : RY u lo hi b r a1 k1 c1 a2 k2 c2 a3 k3 c3 es ls es3) : es.length = k1 ∧ ls.length = k2 ∧ es3.length = k3 := by
  have h1 := h.r1.1; have h2 := h.r2.1; have h3 := h.r3.1
  rw [ecells_length] at h1 h3
  rw [ic_len] at h2
  omega
variable {lo' hi' b' : Nat} {b1 : Option Addr} {m1 e1 : Nat} {b2 : Option Addr} {m2 e2 : Nat} {b3 : Option Addr} {m3 e3 : Nat}
set_option maxRecDepth 100000 in
set_option maxHeartbeats 2000000 in
theorem RY.eq (h : RY u lo hi b r a1 k1 c1 a2 k2 c2 a3 k3 c3 es ls es3) (h' : RY u lo' hi' b' r b1 m1 e1 b2 m2 e2 b3 m3 e3 es ls es3) :
    Calls Tryz.prog 14 #[.agg (recC r a1 k1 c1 a2 k2 c2 a3 k3 c3), .agg (recC r b1 m1 e1 b2 m2 e2 b3 m3 e3)] u fun e v => e = .returned (.bool true) ∧ Below u.heap.size u v := by
  have z1 : m1 = k1 := by rw [← h.len.1, ← h'.len.1]
  have z2 : m2 = k2 := by rw [← h.len.2.1, ← h'.len.2.1]
  have z3 : m3 = k3 := by rw [← h.len.2.2, ← h'.len.2.2]
  subst z1 z2 z3
  have hbd := h.bd
  obtain ⟨W, hW⟩ : ∃ W, W = (u.alloc (.cells (recC r a1 m1 c1 a2 m2 c2 a3 m3 c3) 40)).alloc (.cells (recC r b1 m1 e1 b2 m2 e2 b3 m3 e3) 40) := ⟨_, rfl⟩
  have bW : Below u.heap.size u W := by rw [hW]; exact ((Below.refl _ _).alloc (Nat.le_refl _) _).alloc (by simp) _
  have X : BxQ W u.heap.size 40 #[.int .i64 r.kind, .int .i64 r.id, .int .i64 r.op, .int .i64 r.a, .int .i64 r.b, .int .i64 r.sh, .int .i64 r.an.num, .bool r.an.ok, .slice a1 m1 c1, .slice a2 m2 c2, .int .i64 r.o.num, .int .i64 r.o.op, .slice a3 m3 c3, .int .i64 r.o.v] := by rw [hW]; exact (BxQ.new u _ _).gr (World.grownBy_alloc _ _ none) (by simp)
  have X' : BxQ W (u.heap.size + 1) 40 #[.int .i64 r.kind, .int .i64 r.id, .int .i64 r.op, .int .i64 r.a, .int .i64 r.b, .int .i64 r.sh, .int .i64 r.an.num, .bool r.an.ok, .slice b1 m1 e1, .slice b2 m2 e2, .int .i64 r.o.num, .int .i64 r.o.op, .slice b3 m3 e3, .int .i64 r.o.v] := by
    have h := BxQ.new (u.alloc (.cells (recC r a1 m1 c1 a2 m2 c2 a3 m3 c3) 40)) 40 (recC r b1 m1 e1 b2 m2 e2 b3 m3 e3)
    rw [show (u.alloc (.cells (recC r a1 m1 c1 a2 m2 c2 a3 m3 c3) 40)).heap.size = u.heap.size + 1 by simp] at h
    rw [hW]; exact h
  have HK := hideIt (fun U => eqAsk_yes r.id r.op r.a r.b U)
  have HA : Hid (∀ U, Below W.heap.size W U → Calls Tryz.prog 34 #[.agg #[.int .i64 r.an.num, .bool r.an.ok, .slice a1 m1 c1, .slice a2 m2 c2], .agg #[.int .i64 r.an.num, .bool r.an.ok, .slice b1 m1 e1, .slice b2 m2 e2]] U fun e v => e = .returned (.bool true) ∧ Below U.heap.size U v) := fun U hU => eqAnswer_same r.an.num r.an.ok es ls m1 a1 b1 c1 e1 (by omega) m2 a2 b2 c2 e2 (by omega) U (((Es_of_own h.r1).up bW).up hU) (((Es_of_own h'.r1).up bW).up hU) (((Is_of_own h.r2).up bW).up hU) (((Is_of_own h'.r2).up bW).up hU)
  have HO : Hid (∀ U, Below W.heap.size W U → Calls Tryz.prog 35 #[.agg #[.int .i64 r.o.num, .int .i64 r.o.op, .slice a3 m3 c3, .int .i64 r.o.v], .agg #[.int .i64 r.o.num, .int .i64 r.o.op, .slice b3 m3 e3, .int .i64 r.o.v]] U fun e v => e = .returned (.bool true) ∧ Below U.heap.size U v) := fun U hU => eqOrder_same r.o.num r.o.op r.o.v es3 m3 a3 b3 c3 e3 (by omega) U (((Es_of_own h.r3).up bW).up hU) (((Es_of_own h'.r3).up bW).up hU)
  have HB := hideIt bW
  have HX := hideIt X
  have HX' := hideIt X'
  have d1 : (r.kind != r.kind) = false := by simp
  have d2 : (r.sh != r.sh) = false := by simp
  have x0 := X.at 0 rfl
  have x1 := X.at 1 rfl
  have x2 := X.at 2 rfl
  have x3 := X.at 3 rfl
  have x4 := X.at 4 rfl
  have y0 := X'.at 0 rfl
  have y1 := X'.at 1 rfl
  have y2 := X'.at 2 rfl
  have y3 := X'.at 3 rfl
  have y4 := X'.at 4 rfl
  clear h h' bW X X'
  go_enter Tryz.func14, Tryz.ntmps14
  go_upto_region 1 with fail
  rw [← hW]
  clear hW
  have HK1 := hideIt (HK.out W)
  go_wp2_with (go_at_call 33; refine HK1.out.mono ?_; rintro e w1 ⟨rfl, g1⟩; refine Hid.out ?_)
  refine (show ∀ {p : Prop}, p → Hid p from fun h => h) ?_
  have Y := HX.out.gr (gr_below g1 none) (by simp)
  have Y' := HX'.out.gr (gr_below g1 none) (by simp)
  have HA1 := hideIt (HA.out w1 g1)
  clear x0 x1 x2 x3 x4 y0 y1 y2 y3 y4 HK1
  have x5 := Y.at 5 rfl
  have x6 := Y.at 6 rfl
  have x7 := Y.at 7 rfl
  have x8 := Y.at 8 rfl
  have x9 := Y.at 9 rfl
  have y5 := Y'.at 5 rfl
  have y6 := Y'.at 6 rfl
  have y7 := Y'.at 7 rfl
  have y8 := Y'.at 8 rfl
  have y9 := Y'.at 9 rfl
  have HY := hideIt Y
  have HY' := hideIt Y'
  have HG1 := hideIt (show Good W w1 from g1)
  clear Y Y' g1
  go_wp2_with (go_at_call 34; refine HA1.out.mono ?_; rintro e w2 ⟨rfl, g2⟩; refine Hid.out ?_)
  refine (show ∀ {p : Prop}, p → Hid p from fun h => h) ?_
  have Z := HY.out.gr (gr_below g2 none) (by simp)
  have Z' := HY'.out.gr (gr_below g2 none) (by simp)
  have HG2 := hideIt (HG1.out.up g2)
  have HO1 := hideIt (HO.out w2 HG2.out)
  clear x5 x6 x7 x8 x9 y5 y6 y7 y8 y9 HA1 g2
  have x10 := Z.at 10 rfl
  have x11 := Z.at 11 rfl
  have x12 := Z.at 12 rfl
  have x13 := Z.at 13 rfl
  have y10 := Z'.at 10 rfl
  have y11 := Z'.at 11 rfl
  have y12 := Z'.at 12 rfl
  have y13 := Z'.at 13 rfl
  clear Z Z'
  go_wp2_with (go_at_call 35; refine HO1.out.mono ?_; rintro e w3 ⟨rfl, g3⟩)
  go_ret
  exact ⟨rfl, Good.up (Good.up HB.out HG2.out) g3⟩
end
end Go.Proofs.YtcieanhbipbhgaaGreatDoor
namespace Go.Proofs.YtcieanhbipbhgaaGreatDoor
open Go.RowKit Vt

/-- both hold the same record -/
theorem same_len {u : World} {q p : RQ} (h : q.ok u) (h' : p.ok u) (hr : q.r = p.r) : p.k1 = q.k1 ∧ p.k2 = q.k2 ∧ p.k3 = q.k3 := by
  have h1 := h.r1.1
  have h2 := h.r2.1
  have h3 := h.r3.1
  have g1 := h'.r1.1
  have g2 := h'.r2.1
  have g3 := h'.r3.1
  rw [ecells_length] at h1 h3 g1 g3
  rw [ic_len] at h2 g2
  rw [← hr] at g1 g2 g3
  omega
theorem eqRec_ok {u : World} {q p : RQ} (h : q.ok u) (h' : p.ok u) (hr : q.r = p.r) :
    Calls Tryz.prog 14 #[.agg #[.int .i64 q.r.kind, .int .i64 q.r.id, .int .i64 q.r.op, .int .i64 q.r.a, .int .i64 q.r.b, .int .i64 q.r.sh, .int .i64 q.r.an.num, .bool q.r.an.ok, .slice q.a1 q.k1 q.c1, .slice q.a2 q.k2 q.c2, .int .i64 q.r.o.num, .int .i64 q.r.o.op, .slice q.a3 q.k3 q.c3, .int .i64 q.r.o.v], .agg #[.int .i64 p.r.kind, .int .i64 p.r.id, .int .i64 p.r.op, .int .i64 p.r.a, .int .i64 p.r.b, .int .i64 p.r.sh, .int .i64 p.r.an.num, .bool p.r.an.ok, .slice p.a1 p.k1 p.c1, .slice p.a2 p.k2 p.c2, .int .i64 p.r.o.num, .int .i64 p.r.o.op, .slice p.a3 p.k3 p.c3, .int .i64 p.r.o.v]] u fun e v => e = .returned (.bool true) ∧ Below u.heap.size u v := by
  obtain ⟨e1, e2, e3⟩ := same_len h h' hr
  have hbd := h.bd
  obtain ⟨pr, b1, n1, d1, b2, n2, d2, b3, n3, d3, plo, phi⟩ := p
  dsimp only at e1 e2 e3 hr h' ⊢
  subst e1 e2 e3 hr
  exact RY.eq (lo := q.lo) (hi := 0) (b := 0) (lo' := plo) (hi' := 0) (b' := 0) ⟨h.r1, h.r2, h.r3, hbd⟩ ⟨h'.r1, h'.r2, h'.r3, hbd⟩
set_option maxRecDepth 100000 in
set_option maxHeartbeats 16000000 in
theorem eqRecS_same (qs ps : List RQ) (hr : qs.map RQ.r = ps.map RQ.r) (B B' : Nat) (a a' : Option Addr) (m c c' : Nat) (hm : m ≤ 4000) (u : World) (h : RS u B a m c qs) (h' : RS u B' a' m c' ps) :
    Calls Tryz.prog 6 #[.slice a m c, .slice a' m c'] u fun e v => e = .returned (.bool true) ∧ Below u.heap.size u v := by
  have hlen := h.len
  have hlen' := h'.len
  have HQ := hideIt h
  have HP := hideIt h'
  have HR := hideIt hr
  have dn : ((m : Int) != (m : Int)) = false := by simp
  clear h h' hr
  go_enter Tryz.func6, Tryz.ntmps6
  go_wp2
  go_loopw [5] (fun i wr => ∃ j : Nat, j ≤ m ∧ i = .int .i64 (j : Int) ∧ Hid (Below u.heap.size u wr)) (fun i _ => m - (intOf i).toNat)
  case atStart => exact ⟨0, by omega, rfl, Below.refl _ _⟩
  case round =>
    obtain ⟨j, hj, rfl, hb⟩ := hrel
    by_cases hlt : j < m
    · obtain ⟨q, hq⟩ : ∃ f, qs[j]? = some f := ⟨qs[j]'(by omega), List.getElem?_eq_getElem (by omega)⟩
      obtain ⟨p, hp⟩ : ∃ f, ps[j]? = some f := ⟨ps[j]'(by omega), List.getElem?_eq_getElem (by omega)⟩
      have hqp : q.r = p.r := by
        have h1 := congrArg (fun l => l[j]?) HR.out
        simp only [List.getElem?_map, hq, hp, Option.map_some, Option.some.injEq] at h1
        exact h1
      have Q := HQ.out.up hb.out
      have P := HP.out.up hb.out
      obtain ⟨g, rfl, hgl⟩ := Q.row_of hq
      obtain ⟨g', rfl, hgl'⟩ := P.row_of hp
      have HC : Hid (∀ v, Below wr.heap.size wr v → (v.cell? ⟨g, j * 14, none⟩ = some (.int .i64 q.r.kind) ∧ v.cell? ⟨g, j * 14 + 1, none⟩ = some (.int .i64 q.r.id) ∧ v.cell? ⟨g, j * 14 + 2, none⟩ = some (.int .i64 q.r.op) ∧ v.cell? ⟨g, j * 14 + 3, none⟩ = some (.int .i64 q.r.a) ∧ v.cell? ⟨g, j * 14 + 4, none⟩ = some (.int .i64 q.r.b) ∧ v.cell? ⟨g, j * 14 + 5, none⟩ = some (.int .i64 q.r.sh) ∧ v.cell? ⟨g, j * 14 + 6, none⟩ = some (.int .i64 q.r.an.num) ∧ v.cell? ⟨g, j * 14 + 7, none⟩ = some (.bool q.r.an.ok) ∧ v.cell? ⟨g, j * 14 + 8, none⟩ = some (.slice q.a1 q.k1 q.c1) ∧ v.cell? ⟨g, j * 14 + 9, none⟩ = some (.slice q.a2 q.k2 q.c2) ∧ v.cell? ⟨g, j * 14 + 10, none⟩ = some (.int .i64 q.r.o.num) ∧ v.cell? ⟨g, j * 14 + 11, none⟩ = some (.int .i64 q.r.o.op) ∧ v.cell? ⟨g, j * 14 + 12, none⟩ = some (.slice q.a3 q.k3 q.c3) ∧ v.cell? ⟨g, j * 14 + 13, none⟩ = some (.int .i64 q.r.o.v) ∧ v.cell? ⟨g', j * 14, none⟩ = some (.int .i64 p.r.kind) ∧ v.cell? ⟨g', j * 14 + 1, none⟩ = some (.int .i64 p.r.id) ∧ v.cell? ⟨g', j * 14 + 2, none⟩ = some (.int .i64 p.r.op) ∧ v.cell? ⟨g', j * 14 + 3, none⟩ = some (.int .i64 p.r.a) ∧ v.cell? ⟨g', j * 14 + 4, none⟩ = some (.int .i64 p.r.b) ∧ v.cell? ⟨g', j * 14 + 5, none⟩ = some (.int .i64 p.r.sh) ∧ v.cell? ⟨g', j * 14 + 6, none⟩ = some (.int .i64 p.r.an.num) ∧ v.cell? ⟨g', j * 14 + 7, none⟩ = some (.bool p.r.an.ok) ∧ v.cell? ⟨g', j * 14 + 8, none⟩ = some (.slice p.a1 p.k1 p.c1) ∧ v.cell? ⟨g', j * 14 + 9, none⟩ = some (.slice p.a2 p.k2 p.c2) ∧ v.cell? ⟨g', j * 14 + 10, none⟩ = some (.int .i64 p.r.o.num) ∧ v.cell? ⟨g', j * 14 + 11, none⟩ = some (.int .i64 p.r.o.op) ∧ v.cell? ⟨g', j * 14 + 12, none⟩ = some (.slice p.a3 p.k3 p.c3) ∧ v.cell? ⟨g', j * 14 + 13, none⟩ = some (.int .i64 p.r.o.v)) ∧ Below wr.heap.size wr v) := fun v hv => by
        have Q2 := Q.up hv
        have P2 := P.up hv
        exact ⟨⟨Q2.cell hq 0 (by omega), Q2.cell hq 1 (by omega), Q2.cell hq 2 (by omega), Q2.cell hq 3 (by omega), Q2.cell hq 4 (by omega), Q2.cell hq 5 (by omega), Q2.cell hq 6 (by omega), Q2.cell hq 7 (by omega), Q2.cell hq 8 (by omega), Q2.cell hq 9 (by omega), Q2.cell hq 10 (by omega), Q2.cell hq 11 (by omega), Q2.cell hq 12 (by omega), Q2.cell hq 13 (by omega), P2.cell hp 0 (by omega), P2.cell hp 1 (by omega), P2.cell hp 2 (by omega), P2.cell hp 3 (by omega), P2.cell hp 4 (by omega), P2.cell hp 5 (by omega), P2.cell hp 6 (by omega), P2.cell hp 7 (by omega), P2.cell hp 8 (by omega), P2.cell hp 9 (by omega), P2.cell hp 10 (by omega), P2.cell hp 11 (by omega), P2.cell hp 12 (by omega), P2.cell hp 13 (by omega)⟩, hv⟩
      have HE : Hid (∀ v, Below wr.heap.size wr v → Calls Tryz.prog 14 #[.agg #[.int .i64 q.r.kind, .int .i64 q.r.id, .int .i64 q.r.op, .int .i64 q.r.a, .int .i64 q.r.b, .int .i64 q.r.sh, .int .i64 q.r.an.num, .bool q.r.an.ok, .slice q.a1 q.k1 q.c1, .slice q.a2 q.k2 q.c2, .int .i64 q.r.o.num, .int .i64 q.r.o.op, .slice q.a3 q.k3 q.c3, .int .i64 q.r.o.v], .agg #[.int .i64 p.r.kind, .int .i64 p.r.id, .int .i64 p.r.op, .int .i64 p.r.a, .int .i64 p.r.b, .int .i64 p.r.sh, .int .i64 p.r.an.num, .bool p.r.an.ok, .slice p.a1 p.k1 p.c1, .slice p.a2 p.k2 p.c2, .int .i64 p.r.o.num, .int .i64 p.r.o.op, .slice p.a3 p.k3 p.c3, .int .i64 p.r.o.v]] v fun e x => e = .returned (.bool true) ∧ Below wr.heap.size wr x) := fun v hv =>
        (eqRec_ok ((Q.up hv).each q (List.mem_of_getElem? hq)).1 ((P.up hv).each p (List.mem_of_getElem? hp)).1 hqp).mono fun e x h2 => ⟨h2.1, hv.trans (h2.2.mono hv.size)⟩
      have hS0 := HC.out wr.drew (Below.refl _ _).drew
      have b1 : (0 : Int) ≤ (j : Int) := by omega
      have b2 : (j : Int) < (m : Int) := by omega
      clear Q P hqp hq hp
      go_upto_region 6 with fail
      go_region_held3 (fun v => (v.cell? ⟨g, j * 14, none⟩ = some (.int .i64 q.r.kind) ∧ v.cell? ⟨g, j * 14 + 1, none⟩ = some (.int .i64 q.r.id) ∧ v.cell? ⟨g, j * 14 + 2, none⟩ = some (.int .i64 q.r.op) ∧ v.cell? ⟨g, j * 14 + 3, none⟩ = some (.int .i64 q.r.a) ∧ v.cell? ⟨g, j * 14 + 4, none⟩ = some (.int .i64 q.r.b) ∧ v.cell? ⟨g, j * 14 + 5, none⟩ = some (.int .i64 q.r.sh) ∧ v.cell? ⟨g, j * 14 + 6, none⟩ = some (.int .i64 q.r.an.num) ∧ v.cell? ⟨g, j * 14 + 7, none⟩ = some (.bool q.r.an.ok) ∧ v.cell? ⟨g, j * 14 + 8, none⟩ = some (.slice q.a1 q.k1 q.c1) ∧ v.cell? ⟨g, j * 14 + 9, none⟩ = some (.slice q.a2 q.k2 q.c2) ∧ v.cell? ⟨g, j * 14 + 10, none⟩ = some (.int .i64 q.r.o.num) ∧ v.cell? ⟨g, j * 14 + 11, none⟩ = some (.int .i64 q.r.o.op) ∧ v.cell? ⟨g, j * 14 + 12, none⟩ = some (.slice q.a3 q.k3 q.c3) ∧ v.cell? ⟨g, j * 14 + 13, none⟩ = some (.int .i64 q.r.o.v) ∧ v.cell? ⟨g', j * 14, none⟩ = some (.int .i64 p.r.kind) ∧ v.cell? ⟨g', j * 14 + 1, none⟩ = some (.int .i64 p.r.id) ∧ v.cell? ⟨g', j * 14 + 2, none⟩ = some (.int .i64 p.r.op) ∧ v.cell? ⟨g', j * 14 + 3, none⟩ = some (.int .i64 p.r.a) ∧ v.cell? ⟨g', j * 14 + 4, none⟩ = some (.int .i64 p.r.b) ∧ v.cell? ⟨g', j * 14 + 5, none⟩ = some (.int .i64 p.r.sh) ∧ v.cell? ⟨g', j * 14 + 6, none⟩ = some (.int .i64 p.r.an.num) ∧ v.cell? ⟨g', j * 14 + 7, none⟩ = some (.bool p.r.an.ok) ∧ v.cell? ⟨g', j * 14 + 8, none⟩ = some (.slice p.a1 p.k1 p.c1) ∧ v.cell? ⟨g', j * 14 + 9, none⟩ = some (.slice p.a2 p.k2 p.c2) ∧ v.cell? ⟨g', j * 14 + 10, none⟩ = some (.int .i64 p.r.o.num) ∧ v.cell? ⟨g', j * 14 + 11, none⟩ = some (.int .i64 p.r.o.op) ∧ v.cell? ⟨g', j * 14 + 12, none⟩ = some (.slice p.a3 p.k3 p.c3) ∧ v.cell? ⟨g', j * 14 + 13, none⟩ = some (.int .i64 p.r.o.v)) ∧ Below wr.heap.size wr v)
        (first | assumption)
        ((go_at_call 14; refine (HE.out _ (And.right (by assumption))).mono ?_; rintro e w5 ⟨rfl, hg5⟩; have hS5 := HC.out _ hg5))
      have HN := hideIt (hb.out.trans (hg5.mono hb.out.size))
      clear HC hS0 hS5 HE hg5
      go_wp2
      exact ⟨⟨j + 1, by omega, by go_num, HN⟩, by simp [intOf]; omega⟩
    · obtain rfl : j = m := by omega
      have d1 : decide ((j : Int) < (j : Int)) = false := by simp
      go_wp2
      go_ret
      exact ⟨rfl, hb.out⟩
end Go.Proofs.YtcieanhbipbhgaaGreatDoor
namespace Go.Proofs.YtcieanhbipbhgaaGreatDoor
open Go.RowKit Vt

theorem markRecS_zero (a : Option Addr) (c : Nat) (u : World) :
    Calls Tryz.prog 7 #[.slice a 0 c, .int .i64 1] u fun e v => e = .returned (.int .i64 1) ∧ v = u := by
  go_enter Tryz.func7, Tryz.ntmps7
  go_wp2
  refine wp_loop_rounds 1 ?_
  rw [rounds_succ]
  go_wp2
  go_ret
  exact ⟨rfl, rfl⟩
theorem markRecS_all (qs : List RQ) (B : Nat) (a : Option Addr) (m c : Nat) (hm : m ≤ 4000) (u : World) (h : RS u B a m c qs) :
    Calls Tryz.prog 7 #[.slice a m c, .int .i64 1] u fun e v => e = .returned (.int .i64 ((kqs 1 qs : Nat) : Int)) ∧ RS v B a m c (mqs 1 qs) ∧ Trn (fun k => B ≤ k) u v := by
  by_cases h0 : m = 0
  · subst h0
    have hq : qs = [] := List.length_eq_zero_iff.1 h.len
    subst hq
    exact (markRecS_zero a c u).mono fun e v ⟨h1, h2⟩ => ⟨h1, by rw [h2]; exact h, by rw [h2]; exact ⟨rfl, rfl, rfl, Nat.le_refl _, fun _ _ _ => rfl⟩⟩
  · obtain ⟨g, rfl⟩ := h.some_of (by omega)
    exact markRecS_any qs B g m c hm u h
theorem rds_len (n : Int) : ∀ ts : List ByteArray, (rds n ts).1.length ≤ ts.length := by
  intro ts
  induction ts with
  | nil => simp [rds]
  | cons t ts ih =>
    unfold rds
    cases rcO n t with
    | none => simp
    | some r => simp; exact ih
set_option maxRecDepth 100000 in
set_option maxHeartbeats 8000000 in
theorem readRecs_in (n : Int) (s : ByteArray) (hs : s.size ≤ 1048576) (w : World) (ht : Tab w) :
    Calls Tryz.prog 3 #[.int .i64 n, .string s] w fun e w' => e = .returned (.bool true) ∧ Below w.heap.size w w' := by
  have d0 : decide ((1048576 : Int) < (s.size : Int)) = false := by simp; omega
  have hmx : s.size ≤ maxLen := by unfold maxLen; omega
  have HT := hideIt ht
  have HS := hideIt (sReadRecs_any n s hmx w)
  have HI := hideIt (fun (u : World) (hu : Below w.heap.size w u) => iReadRecs_any n s hmx u (ht.below hu (Nat.le_refl _)))
  have hl4 : (rds n (F.un s).1).1.length ≤ 4000 := by
    have h1 := rds_len n (F.un s).1
    have h2 := (F.un_few s).1
    omega
  unfold RrsA at HS HI
  generalize hR : rds n (F.un s).1 = R at *
  clear hR ht
  obtain ⟨R1, R2⟩ := R
  dsimp only at HS HI hl4
  have dn : (((R2 : Nat) : Int) != ((R2 : Nat) : Int)) = false := by simp
  go_enter Tryz.func3, Tryz.ntmps3
  go_wp2_with (go_at_call 4; refine HS.out.mono ?_; rintro e w1 ⟨a0, m0, c0, q0, rfl, S1, hr0, hb1⟩; refine Hid.out ?_)
  refine (show ∀ {p : Prop}, p → Hid p from fun h => h) ?_
  have hm0 := hideIt (show m0 = R1.length by rw [← S1.len, ← hr0, List.length_map])
  have HI1 := hideIt (HI.out w1 hb1)
  have HR0 := hideIt hr0
  have lows := hideIt S1.lows
  have HB1 := hideIt hb1
  have z1 := hb1.size
  clear HS hr0 hb1
  go_wp2_with (go_at_call 5; refine HI1.out.mono ?_; rintro e w2 ⟨ag, mg, cg, qg, rfl, G2, hrg, hb2⟩; refine Hid.out ?_)
  refine (show ∀ {p : Prop}, p → Hid p from fun h => h) ?_
  have hmg : mg = R1.length := by rw [← G2.len, ← hrg, List.length_map]
  have hmm : m0 = mg := by have := hm0.out; omega
  subst hmm
  have S2 := S1.up hb2
  have hm4 : m0 ≤ 4000 := by have := hm0.out; omega
  have HB2 := hideIt (HB1.out.trans (hb2.mono z1))
  have z2 := hb2.size
  have HRg := hideIt hrg
  have HE := hideIt (eqRecS_same qg q0 (by rw [HR0.out, HRg.out]) _ _ ag a0 m0 cg c0 hm4 w2 G2 S2)
  clear HI1 hb2 S1 hrg hm0 hmg hl4
  go_wp2_with (go_at_call 6; refine HE.out.mono ?_; rintro e w3 ⟨rfl, hb3⟩; refine Hid.out ?_)
  refine (show ∀ {p : Prop}, p → Hid p from fun h => h) ?_
  have G3 := G2.up hb3
  have S3 := S2.up hb3
  have HB3 := hideIt (HB2.out.trans (hb3.mono HB2.out.size))
  have z3 := hb3.size
  have HM := hideIt (markRecS_all qg w1.heap.size ag m0 cg hm4 w3 G3)
  obtain ⟨K, hK⟩ : ∃ K, K = kqs 1 qg := ⟨_, rfl⟩
  rw [← hK] at HM
  have HK := hideIt hK
  clear HE hb3 G2 S2 G3 hK
  go_wp2_with (go_at_call 7; refine HM.out.mono ?_; rintro e w4 ⟨rfl, G4, t4⟩; refine Hid.out ?_)
  refine (show ∀ {p : Prop}, p → Hid p from fun h => h) ?_
  have S4 := S3.trn t4 (C := w1.heap.size) (fun k hk => hk) lows.out.1 lows.out.2
  have b34 : Below w.heap.size w3 w4 := ⟨t4.os, t4.tape, t4.output, t4.size, fun k hk => t4.block k (by omega) (by omega)⟩
  have HB4 := hideIt (HB3.out.trans b34)
  have z4 := t4.size
  have HH := hideIt (fun (u : World) (hu : Below w4.heap.size w4 u) => heldRecS_any qg w1.heap.size ag m0 cg hm4 u (G4.up hu))
  rw [← HK.out] at HH
  have HH1 := hideIt (HH.out w4 (Below.refl _ _))
  have d3 : decide ((K : Int) < 0) = false := by rw [decide_eq_false_iff_not]; omega
  have d4 : ((K : Int) != (K : Int)) = false := by simp
  clear HM t4 b34 S3 G4
  go_wp2_with (go_at_call 8; refine HH1.out.mono ?_; rintro e w5 ⟨rfl, rfl⟩; refine Hid.out ?_)
  refine (show ∀ {p : Prop}, p → Hid p from fun h => h) ?_
  have HI2 := hideIt (HI.out w5 HB4.out)
  clear HH1 HI
  go_wp2_with (go_at_call 5; refine HI2.out.mono ?_; rintro e w6 ⟨ah, mh, ch, qh, rfl, H6, hrh, hb6⟩; refine Hid.out ?_)
  refine (show ∀ {p : Prop}, p → Hid p from fun h => h) ?_
  have S6 := S4.up hb6
  have hmm : mh = m0 := by
    have h1 := H6.len
    have h2 := S6.len
    have h3 := congrArg List.length hrh
    have h4 := congrArg List.length HR0.out
    simp only [List.length_map] at h3 h4
    omega
  subst hmm
  have HE := hideIt (eqRecS_same qh q0 (by rw [HR0.out, hrh]) _ _ ah a0 mh ch c0 hm4 w6 H6 S6)
  have HB6 := hideIt (HB4.out.trans (hb6.mono HB4.out.size))
  have HH2 := hideIt hb6
  clear HI2 hb6 hrh S4
  go_wp2_with (go_at_call 6; refine HE.out.mono ?_; rintro e w7 ⟨rfl, hb7⟩; refine Hid.out ?_)
  refine (show ∀ {p : Prop}, p → Hid p from fun h => h) ?_
  have HB7 := hideIt (HB6.out.trans (hb7.mono HB6.out.size))
  have HH3 := hideIt (HH.out w7 (HH2.out.trans (hb7.mono HH2.out.size)))
  clear HE hb7 H6 S6 HH HH2
  go_wp2_with (go_at_call 8; refine HH3.out.mono ?_; rintro e w8 ⟨rfl, rfl⟩)
  go_ret
  exact ⟨rfl, HB7.out⟩
theorem fnExactReadRecs.walk (n : Int) (_hn : (Lit.int .i64 n).wf = true) (s : ByteArray) (_hs : s.size ≤ maxLen) (w : World) (ht : Tab w) :
    Calls Tryz.prog 3 #[.int .i64 n, .string s] w fun e w' => e = .returned (.bool true) ∧ Below w.heap.size w w' := by
  by_cases hs : s.size ≤ 1048576
  · exact readRecs_in n s hs w ht
  · have d0 : decide ((1048576 : Int) < (s.size : Int)) = true := by simp; omega
    clear ht
    go_enter Tryz.func3, Tryz.ntmps3
    go_wp2
    go_ret
    exact ⟨rfl, Below.refl _ _⟩
end Go.Proofs.YtcieanhbipbhgaaGreatDoor
namespace Go.Proofs.YtcieanhbipbhgaaGreatDoor
open Go.ChangeShapes Go.WideShapes Go.ChangeAt Go.RowKit

theorem own : ownKnob Tryz.prog.godebug = none := by kernel_rfl
theorem gTabType : (Tryz.prog.globals[0]?).map (·.type) = some 112 := by kernel_rfl
theorem cellsT : Tryz.prog.cellsOf 112 = 16 := by kernel_rfl
theorem cellsE : Tryz.prog.cellsOf 66 = 1 := by kernel_rfl

/-- what a row's list gives: the table -/
theorem table {W : World} (h : laidMet Tryz.prog [("loop.example/g00130/impl.fourHalvings", Rows.laid_loop_example_g00130_impl_fourHalvings)] W) : Tab W := by
  have h3 : laidMet Tryz.prog [("loop.example/g00130/impl.fourHalvings", Lib.tabData .u32 tabI)] W := h
  exact Lib.tabIs_of_head (rest := []) gTab gTabType Tryz.underlying112 Tryz.underlying66 cellsE cellsT h3

def cellsTab : Array Value := (tabI.map fun z => Value.int .u32 z).toArray
def tableH {H : Type} : DataW H := Lib.tabData .u32 tabI

theorem reads_table {H : Type} (enc : TypeId × Value → H) (W : World) (sp : Nat → Bool) : DataW.trod enc Tryz.prog W 0 sp true 3 112 cellsTab.toList = some (tableH, []) := by kernel_rfl

/-- the table read, in each world where it stands -/
theorem vars_table {H : Type} (enc : TypeId × Value → H) {W : World} (ht : Tab W) (sp : Nat → Bool) :
    DataW.TrodVars enc Tryz.prog W sp ["loop.example/g00130/impl.fourHalvings"] [tableH] (MemPlace.row ⟨0, 0, none⟩ cellsTab.size ++ [] ++ []) :=
  ⟨0, 112, cellsTab, 3, [], [], gTab, gTabType, ht, reads_table enc W sp, rfl, rfl⟩

/-- what was read there at the start is the table -/
theorem vars_is {H : Type} {enc : TypeId × Value → H} {W : World} (ht : Tab W) {sp : Nat → Bool} {gs : List (DataW H)} {q : List MemPlace}
    (hV : DataW.TrodVars enc Tryz.prog W sp ["loop.example/g00130/impl.fourHalvings"] gs q) : gs = [tableH] := by
  obtain ⟨g, t, cs, fuel, d, p', rfl, hg, hty, hvar, hd, rfl⟩ := trodVars_one hV
  obtain rfl := Option.some.inj (gTab.symm.trans hg)
  obtain rfl := Option.some.inj (gTabType.symm.trans hty)
  obtain rfl : cs = cellsTab := Option.some.inj (hvar.symm.trans ht)
  obtain ⟨rfl, rfl⟩ := DataW.Trod.unique (v := .agg cellsTab) ⟨fuel, hd⟩ ⟨3, reads_table enc W _⟩
  rfl

/-- the cells of a listed array of numbers -/
def cellsIn (d : DataW Unit) : Array Value :=
  match d with
  | .agg l => (l.map fun x => match x with
    | .lit (.int k z) => Value.int k z
    | _ => Value.int .i64 0).toArray
  | _ => #[]

/-- a block's cells laid anew -/
def put (cs : Array Value) (o : Obj) : Obj :=
  match o with
  | .cells _ t frozen => .cells cs t frozen
  | o => o

/-- a world in which the table holds what the list says -/
def laidWorld (P : Program) (os : Os) : World :=
  { World.holding P os ⟨#[], #[], []⟩ with heap := (World.holding P os ⟨#[], #[], []⟩).heap.modify 0 (put (cellsIn Rows.laid_loop_example_g00130_impl_fourHalvings)) }
end Go.Proofs.YtcieanhbipbhgaaGreatDoor
