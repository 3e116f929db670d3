/- The walk of FnExactLogActs. -/
import Derived.Test.YthnibebljbljdaaGreatDoorKLj15
namespace Go.Proofs.YthnibebljbljdaaGreatDoor
open Go.RowKit Vt

theorem good_trnL {P : Nat → Prop} {W u v : World} (h : Good W u) (k : Trn P u v) (hP : ∀ i, P i → W.heap.size ≤ i) : Good W v :=
  Below.trans h ⟨k.os, k.tape, k.output, k.size, fun i hi => k.block i (Nat.lt_of_lt_of_le hi h.size) (fun hp => by have := hP i hp; omega)⟩
/-- where the law stands: the boxes of what came in -/
structure LS (w : World) (dv rv : Array Value) (u : World) : Prop where
  bd : BxQ u w.heap.size 30 dv
  br : BxQ u (w.heap.size + 1) 40 rv
  gd : Good w u
theorem LS.up {w u v : World} {dv rv : Array Value} (h : LS w dv rv u) (hb : Below u.heap.size u v) : LS w dv rv v := ⟨h.bd.bel hb, h.br.bel hb, h.gd.up hb⟩
theorem LS.trn {w u v : World} {dv rv : Array Value} {P : Nat → Prop} (h : LS w dv rv u) (ht : Trn P u v) (hP : ∀ k, P k → w.heap.size + 2 ≤ k) : LS w dv rv v :=
  ⟨h.bd.trnL ht (fun k => by have := hP _ k; omega), h.br.trnL ht (fun k => by have := hP _ k; omega), good_trnL h.gd ht (fun k hk => by have := hP _ hk; omega)⟩
theorem LS.lt {w u : World} {dv rv : Array Value} (h : LS w dv rv u) : w.heap.size + 2 ≤ u.heap.size := h.br.lt
theorem BxQ.c14 {u : World} {b : Nat} {t : TypeId} {v0 v1 v2 v3 v4 v5 v6 v7 v8 v9 v10 v11 v12 v13 : Value} (x : BxQ u b t #[v0, v1, v2, v3, v4, v5, v6, v7, v8, v9, v10, v11, v12, v13]) : u.cell? ⟨b, 0, none⟩ = some v0 ∧ u.cell? ⟨b, 1, none⟩ = some v1 ∧ u.cell? ⟨b, 2, none⟩ = some v2 ∧ u.cell? ⟨b, 3, none⟩ = some v3 ∧ u.cell? ⟨b, 4, none⟩ = some v4 ∧ u.cell? ⟨b, 5, none⟩ = some v5 ∧ u.cell? ⟨b, 6, none⟩ = some v6 ∧ u.cell? ⟨b, 7, none⟩ = some v7 ∧ u.cell? ⟨b, 8, none⟩ = some v8 ∧ u.cell? ⟨b, 9, none⟩ = some v9 ∧ u.cell? ⟨b, 10, none⟩ = some v10 ∧ u.cell? ⟨b, 11, none⟩ = some v11 ∧ u.cell? ⟨b, 12, none⟩ = some v12 ∧ u.cell? ⟨b, 13, none⟩ = some v13 :=
  ⟨x.at 0 rfl, x.at 1 rfl, x.at 2 rfl, x.at 3 rfl, x.at 4 rfl, x.at 5 rfl, x.at 6 rfl, x.at 7 rfl, x.at 8 rfl, x.at 9 rfl, x.at 10 rfl, x.at 11 rfl, x.at 12 rfl, x.at 13 rfl⟩
theorem BxQ.c1 {u : World} {b : Nat} {t : TypeId} {v0 : Value} (x : BxQ u b t #[v0]) : u.cell? ⟨b, 0, none⟩ = some v0 := x.at 0 rfl

theorem sLog_oa (N kind id op a b sh anum : Int) (aok : Bool) (onum oop ov : Int) (aes : List EdgeV) (als : List Int) (oes : List EdgeV) (k1 k2 k3 : Nat) (l1 : k1 ≤ 1048576) (l2 : k2 ≤ 1048576) (l3 : k3 ≤ 1048576) (m : Nat) (fl : Bool) (xs : List F.ActV)
    (hx : (RecB N ⟨kind, id, op, a, b, sh, ⟨anum, aok, aes, als⟩, ⟨onum, oop, oes, ov⟩⟩ ∧ m = 2 ∧ fl = true ∧ xs = lgX (F.frm (str (rText ⟨kind, id, op, a, b, sh, ⟨anum, aok, aes, als⟩, ⟨onum, oop, oes, ov⟩⟩)))) ∨ (¬ RecB N ⟨kind, id, op, a, b, sh, ⟨anum, aok, aes, als⟩, ⟨onum, oop, oes, ov⟩⟩ ∧ m = 0 ∧ fl = false ∧ xs = []))
    (da : Option Addr) (dn dc : Nat) (a1 : Option Addr) (c1 : Nat) (a2 : Option Addr) (c2 : Nat) (a3 : Option Addr) (c3 : Nat) (u : World) (h1 : Es u u.heap.size a1 k1 aes) (h2 : Is u u.heap.size a2 k2 als) (h3 : Es u u.heap.size a3 k3 oes) :
    Calls Tryz.prog 12 #[.agg #[.slice da dn dc], .int .i64 N, .agg #[.int .i64 kind, .int .i64 id, .int .i64 op, .int .i64 a, .int .i64 b, .int .i64 sh, .int .i64 anum, .bool aok, .slice a1 k1 c1, .slice a2 k2 c2, .int .i64 onum, .int .i64 oop, .slice a3 k3 c3, .int .i64 ov]] u fun e v => ∃ aw, e = .returned (.tuple #[.slice aw m m, .bool fl]) ∧ OA v u.heap.size v.heap.size aw m xs ∧ Below u.heap.size u v := by
  rcases hx with ⟨hB, rfl, rfl, rfl⟩ | ⟨hB, rfl, rfl, rfl⟩
  · refine (sLogActs_yes da dn dc N kind id op a b sh anum aok aes als onum oop oes ov a1 k1 c1 a2 k2 c2 a3 k3 c3 u h1 h2 h3 l1 l2 l3 hB).mono ?_
    rintro e v ⟨g, rfl, ho, hb⟩
    exact ⟨_, rfl, ⟨rfl, .inr ⟨g, rfl, (ho.lt g rfl).2, ho⟩⟩, hb⟩
  · refine (sLogActs_no da dn dc N kind id op a b sh anum aok aes als onum oop oes ov a1 k1 c1 a2 k2 c2 a3 k3 c3 u h1 h2 h3 l1 l2 l3 hB).mono ?_
    rintro e v ⟨x, rfl, hb⟩
    exact ⟨x, rfl, ⟨rfl, .inl rfl⟩, hb⟩

theorem iLog_oa (N kind id op a b sh anum : Int) (aok : Bool) (onum oop ov : Int) (aes : List EdgeV) (als : List Int) (oes : List EdgeV) (k1 k2 k3 : Nat) (l1 : k1 ≤ 1048576) (l2 : k2 ≤ 1048576) (l3 : k3 ≤ 1048576) (m : Nat) (fl : Bool) (xs : List F.ActV)
    (hx : (RecB N ⟨kind, id, op, a, b, sh, ⟨anum, aok, aes, als⟩, ⟨onum, oop, oes, ov⟩⟩ ∧ m = 2 ∧ fl = true ∧ xs = lgX (F.frm (str (rText ⟨kind, id, op, a, b, sh, ⟨anum, aok, aes, als⟩, ⟨onum, oop, oes, ov⟩⟩)))) ∨ (¬ RecB N ⟨kind, id, op, a, b, sh, ⟨anum, aok, aes, als⟩, ⟨onum, oop, oes, ov⟩⟩ ∧ m = 0 ∧ fl = false ∧ xs = []))
    (da : Option Addr) (dn dc : Nat) (a1 : Option Addr) (c1 : Nat) (a2 : Option Addr) (c2 : Nat) (a3 : Option Addr) (c3 : Nat) (u : World) (h1 : Es u u.heap.size a1 k1 aes) (h2 : Is u u.heap.size a2 k2 als) (h3 : Es u u.heap.size a3 k3 oes) (ht : Tab u) :
    Calls Tryz.prog 15 #[.agg #[.slice da dn dc], .int .i64 N, .agg #[.int .i64 kind, .int .i64 id, .int .i64 op, .int .i64 a, .int .i64 b, .int .i64 sh, .int .i64 anum, .bool aok, .slice a1 k1 c1, .slice a2 k2 c2, .int .i64 onum, .int .i64 oop, .slice a3 k3 c3, .int .i64 ov]] u fun e v => ∃ aw, e = .returned (.tuple #[.slice aw m m, .bool fl]) ∧ OA v u.heap.size v.heap.size aw m xs ∧ Below u.heap.size u v := by
  rcases hx with ⟨hB, rfl, rfl, rfl⟩ | ⟨hB, rfl, rfl, rfl⟩
  · refine (iLogActs_yes da dn dc N kind id op a b sh anum aok aes als onum oop oes ov a1 k1 c1 a2 k2 c2 a3 k3 c3 u h1 h2 h3 l1 l2 l3 hB ht).mono ?_
    rintro e v ⟨g, rfl, ho, hb⟩
    exact ⟨_, rfl, ⟨rfl, .inr ⟨g, rfl, (ho.lt g rfl).2, ho⟩⟩, hb⟩
  · refine (iLogActs_no da dn dc N kind id op a b sh anum aok aes als onum oop oes ov a1 k1 c1 a2 k2 c2 a3 k3 c3 u h1 h2 h3 l1 l2 l3 hB).mono ?_
    rintro e v ⟨x, rfl, hb⟩
    exact ⟨x, rfl, ⟨rfl, .inl rfl⟩, hb⟩

/-- where the law stands behind both answers -/
structure ST (w : World) (dv rv xv yv : Array Value) (C1 bx bY C3 C4 : Nat) (aw ag : Option Addr) (m : Nat) (ax ay : List F.ActV) (u : World) : Prop where
  ls : LS w dv rv u
  x : BxQ u bx 48 xv
  y : BxQ u bY 57 yv
  ow : OA u (w.heap.size + 2) C1 aw m ax
  og : OA u C3 C4 ag m ay
theorem ST.up {w u v : World} {dv rv xv yv : Array Value} {C1 bx bY C3 C4 : Nat} {aw ag : Option Addr} {m : Nat} {ax ay : List F.ActV} (h : ST w dv rv xv yv C1 bx bY C3 C4 aw ag m ax ay u) (hb : Below u.heap.size u v) : ST w dv rv xv yv C1 bx bY C3 C4 aw ag m ax ay v :=
  ⟨h.ls.up hb, h.x.bel hb, h.y.bel hb, h.ow.up hb, h.og.up hb⟩
theorem ST.trn {w u v : World} {dv rv xv yv : Array Value} {C1 bx bY C3 C4 : Nat} {aw ag : Option Addr} {m : Nat} {ax ay : List F.ActV} {P : Nat → Prop} (h : ST w dv rv xv yv C1 bx bY C3 C4 aw ag m ax ay u) (ht : Trn P u v) (hP : ∀ k, P k → C1 ≤ k ∧ k < C3 ∧ k ≠ bx ∧ k ≠ bY) (hC : w.heap.size + 2 ≤ C1) : ST w dv rv xv yv C1 bx bY C3 C4 aw ag m ax ay v :=
  ⟨h.ls.trn ht (fun k hk => by have := hP k hk; omega), h.x.trnL ht (fun hk => by have := hP _ hk; omega), h.y.trnL ht (fun hk => by have := hP _ hk; omega), h.ow.trn ht (fun g _ h2 hk => by have := hP _ hk; omega), h.og.trn ht (fun g h1 _ hk => by have := hP _ hk; omega)⟩
/-- the answer of the program is marked -/
theorem ST.mark {w u v : World} {dv rv xv yv : Array Value} {C1 bx bY C3 C4 : Nat} {aw ag : Option Addr} {m : Nat} {ax ay az : List F.ActV} (h : ST w dv rv xv yv C1 bx bY C3 C4 aw ag m ax ay u) (ht : Trn (fun k => C3 ≤ k ∧ k < C4) u v) (ho : OA v C3 C4 ag m az) (h1 : w.heap.size + 2 ≤ C1) (h2 : C1 ≤ bx) (h3 : bx < bY) (h4 : bY < C3) : ST w dv rv xv yv C1 bx bY C3 C4 aw ag m ax az v :=
  ⟨h.ls.trn ht (fun k hk => by omega), h.x.trnL ht (fun hk => by omega), h.y.trnL ht (fun hk => by omega), h.ow.trn ht (fun g _ h2 hk => by omega), ho⟩
set_option maxRecDepth 100000 in
set_option maxHeartbeats 16000000 in
theorem fnExactLogActs.walk (fs : List F.FileV) (hfit : F.FitsF fs) (dn : Nat) (da : Option Addr) (dc : Nat) (hdn : dn ≤ maxLen) (N : Int) (_hN : (Lit.int .i64 N).wf = true) (kind id op a b sh anum : Int) (aok : Bool) (onum oop ov : Int) (a1 : Option Addr) (k1 c1 : Nat) (a2 : Option Addr) (k2 c2 : Nat) (a3 : Option Addr) (k3 c3 : Nat) (aes : List EdgeV) (als : List Int) (oes : List EdgeV) (g1 : k1 ≤ maxLen) (g2 : k2 ≤ maxLen) (g3 : k3 ≤ maxLen) (w : World) (hfs : F.Fs w w.heap.size da dn fs) (h1 : Es w w.heap.size a1 k1 aes) (h2 : Is w w.heap.size a2 k2 als) (h3 : Es w w.heap.size a3 k3 oes) (ht : Tab w) :
    Calls Tryz.prog 4 #[.agg #[.slice da dn dc], .int .i64 N, .agg #[.int .i64 kind, .int .i64 id, .int .i64 op, .int .i64 a, .int .i64 b, .int .i64 sh, .int .i64 anum, .bool aok, .slice a1 k1 c1, .slice a2 k2 c2, .int .i64 onum, .int .i64 oop, .slice a3 k3 c3, .int .i64 ov]] w fun e w' => e = .returned (.bool true) ∧ Below w.heap.size w w' := by
  obtain ⟨W, hW⟩ : ∃ W, W = (w.alloc (.cells #[.slice da dn dc] 30)).alloc (.cells #[.int .i64 kind, .int .i64 id, .int .i64 op, .int .i64 a, .int .i64 b, .int .i64 sh, .int .i64 anum, .bool aok, .slice a1 k1 c1, .slice a2 k2 c2, .int .i64 onum, .int .i64 oop, .slice a3 k3 c3, .int .i64 ov] 40) := ⟨_, rfl⟩
  have L0 : LS w #[.slice da dn dc] #[.int .i64 kind, .int .i64 id, .int .i64 op, .int .i64 a, .int .i64 b, .int .i64 sh, .int .i64 anum, .bool aok, .slice a1 k1 c1, .slice a2 k2 c2, .int .i64 onum, .int .i64 oop, .slice a3 k3 c3, .int .i64 ov] W := by
    have e := BxQ.new (w.alloc (.cells #[.slice da dn dc] 30)) 40 #[.int .i64 kind, .int .i64 id, .int .i64 op, .int .i64 a, .int .i64 b, .int .i64 sh, .int .i64 anum, .bool aok, .slice a1 k1 c1, .slice a2 k2 c2, .int .i64 onum, .int .i64 oop, .slice a3 k3 c3, .int .i64 ov]
    rw [show (w.alloc (.cells #[.slice da dn dc] 30)).heap.size = w.heap.size + 1 by simp] at e
    rw [hW]
    exact ⟨(BxQ.new w 30 #[.slice da dn dc]).bel ((Below.refl _ _).alloc (Nat.le_refl _) _), e, ((Good.refl w).alloc _).alloc _⟩
  have hlen := hfs.1
  have hp := F.szFs_pos 1048576 fs
  have hpy := F.szFs_yes 1048576 fs
  have HZ := hideIt (F.szDisk_any fs hfit 1048576 (by omega) (by omega) dn da dc hdn W (hfs.up L0.gd))
  have HY := hideIt (fun l hl u => szRec_gen kind id op a b sh anum aok onum oop ov a1 k1 c1 a2 k2 c2 a3 k3 c3 g1 g2 g3 l hl u)
  have HD := hideIt (fun (hd : dn ≤ 1048576) u (hu : LS w #[.slice da dn dc] #[.int .i64 kind, .int .i64 id, .int .i64 op, .int .i64 a, .int .i64 b, .int .i64 sh, .int .i64 anum, .bool aok, .slice a1 k1 c1, .slice a2 k2 c2, .int .i64 onum, .int .i64 oop, .slice a3 k3 c3, .int .i64 ov] u) => F.toDisk_any fs dn da dc hd u (hfs.up hu.gd))
  have HT := hideIt (fun (l1 : k1 ≤ 1048576) (l2 : k2 ≤ 1048576) (l3 : k3 ≤ 1048576) u (hu : LS w #[.slice da dn dc] #[.int .i64 kind, .int .i64 id, .int .i64 op, .int .i64 a, .int .i64 b, .int .i64 sh, .int .i64 anum, .bool aok, .slice a1 k1 c1, .slice a2 k2 c2, .int .i64 onum, .int .i64 oop, .slice a3 k3 c3, .int .i64 ov] u) => toRec_own kind id op a b sh anum aok onum oop ov a1 k1 c1 a2 k2 c2 a3 k3 c3 aes als oes l1 l2 l3 u (h1.up hu.gd) (h2.up hu.gd) (h3.up hu.gd))
  have HTb := hideIt (fun u (hu : LS w #[.slice da dn dc] #[.int .i64 kind, .int .i64 id, .int .i64 op, .int .i64 a, .int .i64 b, .int .i64 sh, .int .i64 anum, .bool aok, .slice a1 k1 c1, .slice a2 k2 c2, .int .i64 onum, .int .i64 oop, .slice a3 k3 c3, .int .i64 ov] u) => Tab.below ht hu.gd (Nat.le_refl _))
  generalize F.szFs 1048576 fs = z at *
  clear hfs h1 h2 h3 ht hfit g1 g2 g3
  have d0 := L0.bd.c1
  obtain ⟨x0, x1, x2, x3, x4, x5, x6, x7, x8, x9, x10, x11, x12, x13⟩ := L0.br.c14
  have HL0 := hideIt L0
  have HP := hideIt (And.intro hlen (And.intro hp hpy))
  clear L0 hlen hp hpy
  go_enter Tryz.func4, Tryz.ntmps4
  go_upto_region 2 with fail
  rw [← hW]
  clear hW
  go_wp2_with (go_at_call 10; refine HZ.out.mono ?_; rintro e w1 ⟨rfl, b1⟩; refine Hid.out ?_)
  refine (show ∀ {p : Prop}, p → Hid p from fun h => h) ?_
  have L1 := HL0.out.up b1
  clear d0 x0 x1 x2 x3 x4 x5 x6 x7 x8 x9 x10 x11 x12 x13 HZ b1 HL0
  obtain ⟨hlen, hp, hpy⟩ := HP.out
  clear HP
  rcases hp with hz | ⟨hz, hle⟩
  · subst hz
    have HB := hideIt L1.gd
    clear L1 hlen hpy
    go_wp2
    go_ret
    exact ⟨rfl, HB.out⟩
  have hd : dn ≤ 1048576 := by omega
  obtain ⟨l, hl⟩ : ∃ l : Nat, z = (l : Int) := ⟨z.toNat, by omega⟩
  have hl2 : l ≤ 1048576 := by have := hpy hle; omega
  have dz : decide ((l : Int) < 0) = false := decide_eq_false (by omega)
  subst hl
  have HY1 := hideIt (HY.out l hl2 w1)
  have HD1 := hideIt (HD.out hd)
  have Hd := hideIt hd
  obtain ⟨x0, x1, x2, x3, x4, x5, x6, x7, x8, x9, x10, x11, x12, x13⟩ := L1.br.c14
  have HL1 := hideIt L1
  clear hlen hpy hz hle hl2 hd L1 HY HD
  go_wp2_with (go_at_call 11; refine HY1.out.mono ?_; rintro e w2 ⟨x, rfl, hx, b2⟩; refine Hid.out ?_)
  refine (show ∀ {p : Prop}, p → Hid p from fun h => h) ?_
  have L2 := HL1.out.up b2
  clear x0 x1 x2 x3 x4 x5 x6 x7 x8 x9 x10 x11 x12 x13 HY1 b2 HL1 dz
  rcases hx with hx | ⟨hx, l1, l2, l3⟩
  · have HB := hideIt L2.gd
    clear L2
    go_wp2
    go_ret
    exact ⟨rfl, HB.out⟩
  have HA : ∃ (m : Nat) (fl : Bool) (xs : List F.ActV), m ≤ 2 ∧ ((RecB N ⟨kind, id, op, a, b, sh, ⟨anum, aok, aes, als⟩, ⟨onum, oop, oes, ov⟩⟩ ∧ m = 2 ∧ fl = true ∧ xs = lgX (F.frm (str (rText ⟨kind, id, op, a, b, sh, ⟨anum, aok, aes, als⟩, ⟨onum, oop, oes, ov⟩⟩)))) ∨ (¬ RecB N ⟨kind, id, op, a, b, sh, ⟨anum, aok, aes, als⟩, ⟨onum, oop, oes, ov⟩⟩ ∧ m = 0 ∧ fl = false ∧ xs = [])) := by
    by_cases hB : RecB N ⟨kind, id, op, a, b, sh, ⟨anum, aok, aes, als⟩, ⟨onum, oop, oes, ov⟩⟩
    · exact ⟨2, true, _, by omega, .inl ⟨hB, rfl, rfl, rfl⟩⟩
    · exact ⟨0, false, _, by omega, .inr ⟨hB, rfl, rfl, rfl⟩⟩
  obtain ⟨m, fl, ax, hm2, hax⟩ := HA
  have HSl := hideIt (fun gd q1 q2 q3 u h1 h2 h3 => sLog_oa N kind id op a b sh anum aok onum oop ov aes als oes k1 k2 k3 l1 l2 l3 m fl ax hax (some ⟨gd, 0, none⟩) dn dn (some ⟨q1, 0, none⟩) k1 (some ⟨q2, 0, none⟩) k2 (some ⟨q3, 0, none⟩) k3 u h1 h2 h3)
  have HIl := hideIt (fun gd q1 q2 q3 u h1 h2 h3 ht => iLog_oa N kind id op a b sh anum aok onum oop ov aes als oes k1 k2 k3 l1 l2 l3 m fl ax hax (some ⟨gd, 0, none⟩) dn dn (some ⟨q1, 0, none⟩) k1 (some ⟨q2, 0, none⟩) k2 (some ⟨q3, 0, none⟩) k3 u h1 h2 h3 ht)
  have HT1 := hideIt (HT.out l1 l2 l3)
  have Hl := hideIt (And.intro l1 (And.intro l2 l3))
  have Hm := hideIt (show m ≤ 1048576 by omega)
  have hff : (fl != fl) = false := by simp
  clear hax l1 l2 l3 HT hm2
  have S0 : LS w #[.slice da dn dc] #[.int .i64 kind, .int .i64 id, .int .i64 op, .int .i64 a, .int .i64 b, .int .i64 sh, .int .i64 anum, .bool aok, .slice a1 k1 c1, .slice a2 k2 c2, .int .i64 onum, .int .i64 oop, .slice a3 k3 c3, .int .i64 ov] w2.drew := L2.up (Below.refl _ _).drew
  have HC := hideIt (fun u (hu : LS w #[.slice da dn dc] #[.int .i64 kind, .int .i64 id, .int .i64 op, .int .i64 a, .int .i64 b, .int .i64 sh, .int .i64 anum, .bool aok, .slice a1 k1 c1, .slice a2 k2 c2, .int .i64 onum, .int .i64 oop, .slice a3 k3 c3, .int .i64 ov] u) => And.intro hu.bd.c1 hu.br.c14)
  have hS0 := HC.out _ S0
  have H0 := hideIt S0
  clear L2 S0
  go_upto_region 8 with fail
  go_region_held3 (fun u => u.cell? ⟨w.heap.size, 0, none⟩ = some (.slice da dn dc) ∧ u.cell? ⟨w.heap.size + 1, 0, none⟩ = some (.int .i64 kind) ∧ u.cell? ⟨w.heap.size + 1, 1, none⟩ = some (.int .i64 id) ∧ u.cell? ⟨w.heap.size + 1, 2, none⟩ = some (.int .i64 op) ∧ u.cell? ⟨w.heap.size + 1, 3, none⟩ = some (.int .i64 a) ∧ u.cell? ⟨w.heap.size + 1, 4, none⟩ = some (.int .i64 b) ∧ u.cell? ⟨w.heap.size + 1, 5, none⟩ = some (.int .i64 sh) ∧ u.cell? ⟨w.heap.size + 1, 6, none⟩ = some (.int .i64 anum) ∧ u.cell? ⟨w.heap.size + 1, 7, none⟩ = some (.bool aok) ∧ u.cell? ⟨w.heap.size + 1, 8, none⟩ = some (.slice a1 k1 c1) ∧ u.cell? ⟨w.heap.size + 1, 9, none⟩ = some (.slice a2 k2 c2) ∧ u.cell? ⟨w.heap.size + 1, 10, none⟩ = some (.int .i64 onum) ∧ u.cell? ⟨w.heap.size + 1, 11, none⟩ = some (.int .i64 oop) ∧ u.cell? ⟨w.heap.size + 1, 12, none⟩ = some (.slice a3 k3 c3) ∧ u.cell? ⟨w.heap.size + 1, 13, none⟩ = some (.int .i64 ov))
    (first | assumption)
    (first
    | (go_at_call 13; refine (HD1.out _ H0.out).mono ?_; rintro e w3 ⟨gd, rfl, od, b3⟩; have H1 := hideIt (H0.out.up b3); have hS1 := HC.out _ H1.out)
    | (go_at_call 14; refine (HT1.out _ H1.out).mono ?_; rintro e w4 ⟨q1, q2, q3, rfl, p1, p2, p3, _, b4⟩; have H2 := hideIt (H1.out.up b4); have hS2 := HC.out _ H2.out)
    | (go_at_call 12; refine (HSl.out gd q1 q2 q3 _ (Es_of_own p1) (Is_of_own p2) (Es_of_own p3)).mono ?_; rintro e w5 ⟨aw, rfl, ow, b5⟩; have H3 := hideIt (H2.out.up b5); have hS3 := HC.out _ H3.out))
  have C2w := H2.out.lt
  have HOW := hideIt (ow.low C2w)
  have HC1 := hideIt (Nat.le_trans C2w b5.size)
  clear hS0 hS1 hS2 hS3 od p1 p2 p3 b3 b4 b5 ow H0 H1 H2 HSl C2w
  have d0 := H3.out.bd.c1
  go_wp2_with (go_at_call 13; refine (HD1.out _ H3.out).mono ?_; rintro e w6 ⟨gx, rfl, ox, b6⟩; refine Hid.out ?_)
  refine (show ∀ {p : Prop}, p → Hid p from fun h => h) ?_
  obtain ⟨W6, hW6⟩ : ∃ W6, W6 = w6.alloc (.cells #[.slice (some ⟨gx, 0, none⟩) dn dn] 48) := ⟨_, rfl⟩
  have bA : Below w6.heap.size w6 W6 := by rw [hW6]; exact (Below.refl _ _).alloc (Nat.le_refl _) _
  have X6 : BxQ W6 w6.heap.size 48 #[.slice (some ⟨gx, 0, none⟩) dn dn] := by rw [hW6]; exact BxQ.new _ _ _
  have s6 : W6.heap.size = w6.heap.size + 1 := by rw [hW6]; simp
  have HL6 := hideIt ((H3.out.up b6).up bA)
  have HW6 := hideIt ((HOW.out.up b6).up bA)
  have HR6 := hideIt (own_up10 ox bA)
  obtain ⟨bx, hbx⟩ : ∃ bx, bx = w6.heap.size := ⟨_, rfl⟩
  have HN6 := hideIt (show w5.heap.size ≤ gx ∧ gx < bx ∧ bx + 1 = W6.heap.size from ⟨(ox.lt gx rfl).1, by rw [hbx]; exact (ox.lt gx rfl).2, by rw [hbx, s6]⟩)
  rw [← hbx] at X6
  have HX6 := hideIt X6
  clear ox b6 bA X6 s6 d0 H3 HOW
  go_upto_region 10 with fail
  rw [← hW6, ← hbx]
  clear hW6 hbx
  obtain ⟨x0, x1, x2, x3, x4, x5, x6, x7, x8, x9, x10, x11, x12, x13⟩ := HL6.out.br.c14
  go_wp2_with (go_at_call 14; refine (HT1.out _ HL6.out).mono ?_; rintro e w7 ⟨r1, r2, r3, rfl, p1, p2, p3, ne, b7⟩; refine Hid.out ?_)
  refine (show ∀ {p : Prop}, p → Hid p from fun h => h) ?_
  clear x0 x1 x2 x3 x4 x5 x6 x7 x8 x9 x10 x11 x12 x13
  obtain ⟨W7, hW7⟩ : ∃ W7, W7 = w7.alloc (.cells #[.int .i64 kind, .int .i64 id, .int .i64 op, .int .i64 a, .int .i64 b, .int .i64 sh, .int .i64 anum, .bool aok, .slice (some ⟨r1, 0, none⟩) k1 k1, .slice (some ⟨r2, 0, none⟩) k2 k2, .int .i64 onum, .int .i64 oop, .slice (some ⟨r3, 0, none⟩) k3 k3, .int .i64 ov] 57) := ⟨_, rfl⟩
  have bA : Below w7.heap.size w7 W7 := by rw [hW7]; exact (Below.refl _ _).alloc (Nat.le_refl _) _
  have Y7 : BxQ W7 w7.heap.size 57 #[.int .i64 kind, .int .i64 id, .int .i64 op, .int .i64 a, .int .i64 b, .int .i64 sh, .int .i64 anum, .bool aok, .slice (some ⟨r1, 0, none⟩) k1 k1, .slice (some ⟨r2, 0, none⟩) k2 k2, .int .i64 onum, .int .i64 oop, .slice (some ⟨r3, 0, none⟩) k3 k3, .int .i64 ov] := by rw [hW7]; exact BxQ.new _ _ _
  have s7 : W7.heap.size = w7.heap.size + 1 := by rw [hW7]; simp
  have b67 : Below W6.heap.size W6 W7 := b7.trans (bA.mono b7.size)
  have L7 := HL6.out.up b67
  have HL7 := hideIt L7
  have HW7 := hideIt (HW6.out.up b67)
  have HR7 := hideIt (own_up10 HR6.out b67)
  have HX7 := hideIt (HX6.out.bel b67)
  have P1 := own_up10 p1 bA
  have P2 := own_up10 p2 bA
  have P3 := own_up10 p3 bA
  obtain ⟨bY, hbY⟩ : ∃ bY, bY = w7.heap.size := ⟨_, rfl⟩
  have HN7 := hideIt (show (W6.heap.size ≤ r1 ∧ W6.heap.size ≤ r2 ∧ W6.heap.size ≤ r3) ∧ (r1 < bY ∧ r2 < bY ∧ r3 < bY) ∧ bY + 1 = W7.heap.size from ⟨⟨(p1.lt r1 rfl).1, (p2.lt r2 rfl).1, (p3.lt r3 rfl).1⟩, by rw [hbY]; exact ⟨(p1.lt r1 rfl).2, (p2.lt r2 rfl).2, (p3.lt r3 rfl).2⟩, by rw [hbY, s7]⟩)
  have HI7 := hideIt (HIl.out gx r1 r2 r3 W7 (Es_of_own P1) (Is_of_own P2) (Es_of_own P3) (HTb.out W7 L7))
  have HPs := hideIt (And.intro P1 (And.intro P2 (And.intro P3 ne)))
  rw [← hbY] at Y7
  obtain ⟨y0, y1, y2, y3, y4, y5, y6, y7, y8, y9, y10, y11, y12, y13⟩ := Y7.c14
  have HY7 := hideIt Y7
  have e0 := HX7.out.c1
  clear p1 p2 p3 ne b7 bA Y7 s7 b67 L7 P1 P2 P3 HL6 HW6 HR6 HX6
  go_upto_region 11 with fail
  rw [← hW7, ← hbY]
  clear hW7 hbY
  go_wp2_with (go_at_call 15; refine HI7.out.mono ?_; rintro e w8 ⟨ag, rfl, og, b8⟩; refine Hid.out ?_)
  refine (show ∀ {p : Prop}, p → Hid p from fun h => h) ?_
  have T8 : ST w #[.slice da dn dc] #[.int .i64 kind, .int .i64 id, .int .i64 op, .int .i64 a, .int .i64 b, .int .i64 sh, .int .i64 anum, .bool aok, .slice a1 k1 c1, .slice a2 k2 c2, .int .i64 onum, .int .i64 oop, .slice a3 k3 c3, .int .i64 ov] #[.slice (some ⟨gx, 0, none⟩) dn dn] #[.int .i64 kind, .int .i64 id, .int .i64 op, .int .i64 a, .int .i64 b, .int .i64 sh, .int .i64 anum, .bool aok, .slice (some ⟨r1, 0, none⟩) k1 k1, .slice (some ⟨r2, 0, none⟩) k2 k2, .int .i64 onum, .int .i64 oop, .slice (some ⟨r3, 0, none⟩) k3 k3, .int .i64 ov] w5.heap.size bx bY W7.heap.size w8.heap.size aw ag m ax ax w8 := ⟨HL7.out.up b8, HX7.out.bel b8, HY7.out.bel b8, HW7.out.up b8, og⟩
  obtain ⟨C4, hC4⟩ : ∃ C4, C4 = w8.heap.size := ⟨_, rfl⟩
  rw [← hC4] at T8
  have HQ8 := hideIt (T8.og.eq T8.ow Hm.out)
  have HT8 := hideIt T8
  have HG8 := hideIt (show Below W7.heap.size W7 w8 from b8)
  clear T8 b8 og HI7 HL7 HX7 HY7 HW7 e0 y0 y1 y2 y3 y4 y5 y6 y7 y8 y9 y10 y11 y12 y13 hC4
  go_wp2_with (go_at_call 16; refine HQ8.out.mono ?_; rintro e w9 ⟨rfl, b9⟩; refine Hid.out ?_)
  refine (show ∀ {p : Prop}, p → Hid p from fun h => h) ?_
  have D9 : Below w9.heap.size w9 w9.drew := (Below.refl _ _).drew
  have HT9 := hideIt ((HT8.out.up b9).up D9)
  have HG9 := hideIt (show Below W7.heap.size W7 w9.drew from (HG8.out.trans (b9.mono HG8.out.size)).trans (D9.mono (Nat.le_trans HG8.out.size b9.size)))
  have HC9 := hideIt (fun u (hu : ST w #[.slice da dn dc] #[.int .i64 kind, .int .i64 id, .int .i64 op, .int .i64 a, .int .i64 b, .int .i64 sh, .int .i64 anum, .bool aok, .slice a1 k1 c1, .slice a2 k2 c2, .int .i64 onum, .int .i64 oop, .slice a3 k3 c3, .int .i64 ov] #[.slice (some ⟨gx, 0, none⟩) dn dn] #[.int .i64 kind, .int .i64 id, .int .i64 op, .int .i64 a, .int .i64 b, .int .i64 sh, .int .i64 anum, .bool aok, .slice (some ⟨r1, 0, none⟩) k1 k1, .slice (some ⟨r2, 0, none⟩) k2 k2, .int .i64 onum, .int .i64 oop, .slice (some ⟨r3, 0, none⟩) k3 k3, .int .i64 ov] w5.heap.size bx bY W7.heap.size C4 aw ag m ax ax u) => And.intro hu.x.c1 hu.ls.bd.c1)
  have hS0 := HC9.out _ HT9.out
  clear b9 D9 HT8 HG8 HQ8
  go_upto_region 14 with fail
  go_region_held3 (fun u => u.cell? ⟨bx, 0, none⟩ = some (.slice (some ⟨gx, 0, none⟩) dn dn) ∧ u.cell? ⟨w.heap.size, 0, none⟩ = some (.slice da dn dc))
    (first | assumption)
    (first
    | (go_at_call 13; refine (HD1.out _ HT9.out.ls).mono ?_; rintro e wa ⟨gd, rfl, od, ba⟩; have Ha := hideIt (HT9.out.up ba); have hS1 := HC9.out _ Ha.out)
    | (go_at_call 17; refine (F.eqDisk_same fs dn (some ⟨gx, 0, none⟩) (some ⟨gd, 0, none⟩) dn dn Hd.out _ (F.Fs_of_own (own_up10 (own_up10 HR7.out HG9.out) ba)) (F.Fs_of_own od)).mono ?_; rintro e wb ⟨rfl, bb⟩; have Hb := hideIt (Ha.out.up bb); have hS2 := HC9.out _ Hb.out))
  have D10 : Below wb.heap.size wb wb.drew := (Below.refl _ _).drew
  have HGb := hideIt (show Below W7.heap.size W7 wb.drew from ((HG9.out.trans (ba.mono HG9.out.size)).trans (bb.mono (Nat.le_trans HG9.out.size ba.size))).trans (D10.mono (Nat.le_trans (Nat.le_trans HG9.out.size ba.size) bb.size)))
  have HT10 := hideIt (Hb.out.up D10)
  have HC10 := hideIt (fun u (hu : ST w #[.slice da dn dc] #[.int .i64 kind, .int .i64 id, .int .i64 op, .int .i64 a, .int .i64 b, .int .i64 sh, .int .i64 anum, .bool aok, .slice a1 k1 c1, .slice a2 k2 c2, .int .i64 onum, .int .i64 oop, .slice a3 k3 c3, .int .i64 ov] #[.slice (some ⟨gx, 0, none⟩) dn dn] #[.int .i64 kind, .int .i64 id, .int .i64 op, .int .i64 a, .int .i64 b, .int .i64 sh, .int .i64 anum, .bool aok, .slice (some ⟨r1, 0, none⟩) k1 k1, .slice (some ⟨r2, 0, none⟩) k2 k2, .int .i64 onum, .int .i64 oop, .slice (some ⟨r3, 0, none⟩) k3 k3, .int .i64 ov] w5.heap.size bx bY W7.heap.size C4 aw ag m ax ax u) => And.intro hu.y.c14 hu.ls.br.c14)
  clear hS0 hS1 hS2 od ba bb HT9 HG9 Ha Hb D10 HC9
  have hS0 := HC10.out _ HT10.out
  go_upto_region 16 with fail
  go_region_held3 (fun u => (u.cell? ⟨bY, 0, none⟩ = some (.int .i64 kind) ∧ u.cell? ⟨bY, 1, none⟩ = some (.int .i64 id) ∧ u.cell? ⟨bY, 2, none⟩ = some (.int .i64 op) ∧ u.cell? ⟨bY, 3, none⟩ = some (.int .i64 a) ∧ u.cell? ⟨bY, 4, none⟩ = some (.int .i64 b) ∧ u.cell? ⟨bY, 5, none⟩ = some (.int .i64 sh) ∧ u.cell? ⟨bY, 6, none⟩ = some (.int .i64 anum) ∧ u.cell? ⟨bY, 7, none⟩ = some (.bool aok) ∧ u.cell? ⟨bY, 8, none⟩ = some (.slice (some ⟨r1, 0, none⟩) k1 k1) ∧ u.cell? ⟨bY, 9, none⟩ = some (.slice (some ⟨r2, 0, none⟩) k2 k2) ∧ u.cell? ⟨bY, 10, none⟩ = some (.int .i64 onum) ∧ u.cell? ⟨bY, 11, none⟩ = some (.int .i64 oop) ∧ u.cell? ⟨bY, 12, none⟩ = some (.slice (some ⟨r3, 0, none⟩) k3 k3) ∧ u.cell? ⟨bY, 13, none⟩ = some (.int .i64 ov)) ∧ (u.cell? ⟨w.heap.size + 1, 0, none⟩ = some (.int .i64 kind) ∧ u.cell? ⟨w.heap.size + 1, 1, none⟩ = some (.int .i64 id) ∧ u.cell? ⟨w.heap.size + 1, 2, none⟩ = some (.int .i64 op) ∧ u.cell? ⟨w.heap.size + 1, 3, none⟩ = some (.int .i64 a) ∧ u.cell? ⟨w.heap.size + 1, 4, none⟩ = some (.int .i64 b) ∧ u.cell? ⟨w.heap.size + 1, 5, none⟩ = some (.int .i64 sh) ∧ u.cell? ⟨w.heap.size + 1, 6, none⟩ = some (.int .i64 anum) ∧ u.cell? ⟨w.heap.size + 1, 7, none⟩ = some (.bool aok) ∧ u.cell? ⟨w.heap.size + 1, 8, none⟩ = some (.slice a1 k1 c1) ∧ u.cell? ⟨w.heap.size + 1, 9, none⟩ = some (.slice a2 k2 c2) ∧ u.cell? ⟨w.heap.size + 1, 10, none⟩ = some (.int .i64 onum) ∧ u.cell? ⟨w.heap.size + 1, 11, none⟩ = some (.int .i64 oop) ∧ u.cell? ⟨w.heap.size + 1, 12, none⟩ = some (.slice a3 k3 c3) ∧ u.cell? ⟨w.heap.size + 1, 13, none⟩ = some (.int .i64 ov)))
    (first | assumption)
    (first
    | (go_at_call 14; refine (HT1.out _ HT10.out.ls).mono ?_; rintro e wc ⟨q1, q2, q3, rfl, p1, p2, p3, _, bc⟩; have Hc := hideIt (HT10.out.up bc); have hS1 := HC10.out _ Hc.out)
    | (go_at_call 18; refine (eqRec_same kind id op a b sh anum aok onum oop ov (some ⟨r1, 0, none⟩) k1 k1 (some ⟨r2, 0, none⟩) k2 k2 (some ⟨r3, 0, none⟩) k3 k3 (some ⟨q1, 0, none⟩) k1 (some ⟨q2, 0, none⟩) k2 (some ⟨q3, 0, none⟩) k3 aes als oes Hl.out.1 Hl.out.2.1 Hl.out.2.2 _ (Es_of_own (own_up10 (own_up10 HPs.out.1 HGb.out) bc)) (Is_of_own (own_up10 (own_up10 HPs.out.2.1 HGb.out) bc)) (Es_of_own (own_up10 (own_up10 HPs.out.2.2.1 HGb.out) bc)) (Es_of_own p1) (Is_of_own p2) (Es_of_own p3)).mono ?_; rintro e wd ⟨rfl, bd⟩; have HdT := hideIt (Hc.out.up bd); have hS2 := HC10.out _ HdT.out))
  have HGd := hideIt (show Below W7.heap.size W7 wd from (HGb.out.trans (bc.mono HGb.out.size)).trans (bd.mono (Nat.le_trans HGb.out.size bc.size)))
  clear hS0 hS1 hS2 p1 p2 p3 bc bd HT10 HGb Hc HC10
  obtain ⟨n1, n2, n3⟩ := HN6.out
  obtain ⟨⟨m1, m2, m3⟩, ⟨m4, m5, m6⟩, m7⟩ := HN7.out
  have c1 := HC1.out
  have HNN := hideIt (show (w.heap.size + 2 ≤ w5.heap.size ∧ w5.heap.size ≤ bx ∧ bx < bY ∧ bY < W7.heap.size) by omega)
  have HPg : Hid (∀ k, k = gx → w5.heap.size ≤ k ∧ k < W7.heap.size ∧ k ≠ bx ∧ k ≠ bY) := fun k hk => by subst hk; omega
  have HPr : Hid (∀ k, (k = r1 ∨ k = r2 ∨ k = r3) → w5.heap.size ≤ k ∧ k < W7.heap.size ∧ k ≠ bx ∧ k ≠ bY) := fun k hk => by rcases hk with rfl | rfl | rfl <;> omega
  have HPn : Hid (r1 ≠ gx ∧ r2 ≠ gx ∧ r3 ≠ gx) := ⟨by omega, by omega, by omega⟩
  clear n1 n2 n3 m1 m2 m3 m4 m5 m6 m7 c1
  have HM : Hid (Calls Tryz.prog 19 #[.agg #[.slice (some ⟨gx, 0, none⟩) dn dn], .int .i64 1] wd fun e w' => e = .returned (.int .i64 ((1 : Int) + (dn : Int) * 3)) ∧ w'.ownsRow w5.heap.size 130 3 (.slice (some ⟨gx, 0, none⟩) dn dn) dn (F.fcells (F.marks 1 dn)) ∧ wd.grownBy w' (some gx)) := by
    have := F.markDisk_any w5.heap.size gx dn dn 1 fs Hd.out (by omega) (by omega) wd (own_up10 HR7.out HGd.out)
    rw [show ((1 : Nat) : Int) = 1 from rfl] at this
    exact this
  have e0 := HdT.out.x.c1
  go_wp2_with (go_at_call 19; refine HM.out.mono ?_; rintro e we ⟨rfl, _, ge⟩; refine Hid.out ?_)
  refine (show ∀ {p : Prop}, p → Hid p from fun h => h) ?_
  have Te : Trn (fun k => k = gx) wd we := trn_impL (Trn.of_grown ge) (fun i hi => by simp at hi; exact hi.symm)
  have Hte := hideIt (HdT.out.trn Te HPg.out HNN.out.1)
  have P1 := own_trnL (own_up10 HPs.out.1 HGd.out) Te (fun g hg h => by simp [Value.ownBlock] at hg; have := HPn.out; omega)
  have P2 := own_trnL (own_up10 HPs.out.2.1 HGd.out) Te (fun g hg h => by simp [Value.ownBlock] at hg; have := HPn.out; omega)
  have P3 := own_trnL (own_up10 HPs.out.2.2.1 HGd.out) Te (fun g hg h => by simp [Value.ownBlock] at hg; have := HPn.out; omega)
  have HM2 : Hid (Calls Tryz.prog 20 #[.agg #[.int .i64 kind, .int .i64 id, .int .i64 op, .int .i64 a, .int .i64 b, .int .i64 sh, .int .i64 anum, .bool aok, .slice (some ⟨r1, 0, none⟩) k1 k1, .slice (some ⟨r2, 0, none⟩) k2 k2, .int .i64 onum, .int .i64 oop, .slice (some ⟨r3, 0, none⟩) k3 k3, .int .i64 ov], .int .i64 ((1 : Int) + (dn : Int) * 3)] we fun e v => e = .returned (.int .i64 ((1 : Int) + (dn : Int) * 3 + (k1 : Int) * 2 + (k2 : Int) + (k3 : Int) * 2)) ∧ Trn (fun k => k = r1 ∨ k = r2 ∨ k = r3) we v) := by
    have := markRec_gen kind id op a b sh anum aok onum oop ov r1 r2 r3 k1 k2 k3 aes als oes (1 + dn * 3) P1 P2 P3 HPs.out.2.2.2 Hl.out.1 Hl.out.2.1 Hl.out.2.2 (by have := Hd.out; omega)
    rw [show ((1 + dn * 3 : Nat) : Int) = (1 : Int) + (dn : Int) * 3 by omega] at this
    exact this
  obtain ⟨y0, y1, y2, y3, y4, y5, y6, y7, y8, y9, y10, y11, y12, y13⟩ := Hte.out.y.c14
  clear e0 HM ge Te P1 P2 P3 HdT HGd
  go_wp2_with (go_at_call 20; refine HM2.out.mono ?_; rintro e wf ⟨rfl, tf⟩; refine Hid.out ?_)
  refine (show ∀ {p : Prop}, p → Hid p from fun h => h) ?_
  have Htf := hideIt (Hte.out.trn tf HPr.out HNN.out.1)
  have HQf := hideIt (Htf.out.og.eq Htf.out.ow Hm.out)
  have dk : decide ((1 : Int) + (dn : Int) * 3 + (k1 : Int) * 2 + (k2 : Int) + (k3 : Int) * 2 < 0) = false := decide_eq_false (by omega)
  clear y0 y1 y2 y3 y4 y5 y6 y7 y8 y9 y10 y11 y12 y13 HM2 tf Hte
  go_wp2_with (go_at_call 16; refine HQf.out.mono ?_; rintro e wg ⟨rfl, bg⟩; refine Hid.out ?_)
  refine (show ∀ {p : Prop}, p → Hid p from fun h => h) ?_
  have Htg := hideIt (Htf.out.up bg)
  have HMa := hideIt (Htg.out.og.mark Hm.out)
  clear bg HQf Htf dk
  go_wp2_with (go_at_call 21; refine HMa.out.mono ?_; rintro e wh ⟨rfl, oh, th⟩; refine Hid.out ?_)
  refine (show ∀ {p : Prop}, p → Hid p from fun h => h) ?_
  have Hth := hideIt (Htg.out.mark th oh HNN.out.1 HNN.out.2.1 HNN.out.2.2.1 HNN.out.2.2.2)
  have HHh := hideIt (Hth.out.og.held Hm.out)
  have dm : decide ((1 : Int) + (m : Int) * 4 < 0) = false := decide_eq_false (by omega)
  have em : ((1 : Int) + (m : Int) * 4 != (1 : Int) + (m : Int) * 4) = false := by simp
  clear oh th HMa Htg
  go_wp2_with (go_at_call 22; refine HHh.out.mono ?_; rintro e wi ⟨rfl, bi⟩; refine Hid.out ?_)
  refine (show ∀ {p : Prop}, p → Hid p from fun h => h) ?_
  have Di : Below wi.heap.size wi wi.drew := (Below.refl _ _).drew
  have Hti := hideIt ((Hth.out.up bi).up Di)
  have hS0 := HC.out _ Hti.out.ls
  clear bi Di HHh Hth
  go_upto_region 31 with fail
  go_region_held3 (fun u => u.cell? ⟨w.heap.size, 0, none⟩ = some (.slice da dn dc) ∧ u.cell? ⟨w.heap.size + 1, 0, none⟩ = some (.int .i64 kind) ∧ u.cell? ⟨w.heap.size + 1, 1, none⟩ = some (.int .i64 id) ∧ u.cell? ⟨w.heap.size + 1, 2, none⟩ = some (.int .i64 op) ∧ u.cell? ⟨w.heap.size + 1, 3, none⟩ = some (.int .i64 a) ∧ u.cell? ⟨w.heap.size + 1, 4, none⟩ = some (.int .i64 b) ∧ u.cell? ⟨w.heap.size + 1, 5, none⟩ = some (.int .i64 sh) ∧ u.cell? ⟨w.heap.size + 1, 6, none⟩ = some (.int .i64 anum) ∧ u.cell? ⟨w.heap.size + 1, 7, none⟩ = some (.bool aok) ∧ u.cell? ⟨w.heap.size + 1, 8, none⟩ = some (.slice a1 k1 c1) ∧ u.cell? ⟨w.heap.size + 1, 9, none⟩ = some (.slice a2 k2 c2) ∧ u.cell? ⟨w.heap.size + 1, 10, none⟩ = some (.int .i64 onum) ∧ u.cell? ⟨w.heap.size + 1, 11, none⟩ = some (.int .i64 oop) ∧ u.cell? ⟨w.heap.size + 1, 12, none⟩ = some (.slice a3 k3 c3) ∧ u.cell? ⟨w.heap.size + 1, 13, none⟩ = some (.int .i64 ov))
    (first | assumption)
    (first
    | (go_at_call 13; refine (HD1.out _ Hti.out.ls).mono ?_; rintro e wj ⟨gd, rfl, od, bj⟩; have Htj := hideIt (Hti.out.up bj); have hS1 := HC.out _ Htj.out.ls)
    | (go_at_call 14; refine (HT1.out _ Htj.out.ls).mono ?_; rintro e wk ⟨q1, q2, q3, rfl, p1, p2, p3, _, bk⟩; have Htk := hideIt (Htj.out.up bk); have hS2 := HC.out _ Htk.out.ls)
    | (go_at_call 15; refine (HIl.out gd q1 q2 q3 _ (Es_of_own p1) (Is_of_own p2) (Es_of_own p3) (HTb.out _ Htk.out.ls)).mono ?_; rintro e wl ⟨ah, rfl, oh, bl⟩; have Htl := hideIt (Htk.out.up bl); have hS3 := HC.out _ Htl.out.ls))
  have HQl := hideIt (oh.eq Htl.out.ow Hm.out)
  clear hS0 hS1 hS2 hS3 od p1 p2 p3 bj bk bl oh Hti Htj Htk
  go_wp2_with (go_at_call 16; refine HQl.out.mono ?_; rintro e wm ⟨rfl, bm⟩; refine Hid.out ?_)
  refine (show ∀ {p : Prop}, p → Hid p from fun h => h) ?_
  have Htm := hideIt (Htl.out.up bm)
  have HHm := hideIt (Htm.out.og.held Hm.out)
  clear bm HQl Htl
  go_wp2_with (go_at_call 22; refine HHm.out.mono ?_; rintro e wn ⟨rfl, bn⟩)
  go_ret
  exact ⟨rfl, (Htm.out.up bn).ls.gd⟩
end Go.Proofs.YthnibebljbljdaaGreatDoor
