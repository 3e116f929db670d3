/- What the law looks at: records in blocks of their own. -/
import Derived.Test.YtaipbkigngjkbaaKRp14
import Derived.Test.YtaipbkigngjkbaaKSy14
namespace Go.Proofs.Ytaipbkigngjkbaa
open Go.RowKit Vt

theorem own_trn {P : Nat → Prop} {w w' : World} {B e s n : Nat} {v : Value} {xs : List Value} (h : w.ownsRow B e s v n xs) (hg : Trn P w w') (hne : ∀ g, v.ownBlock = some g → ¬ P g) : w'.ownsRow B e s v n xs := by
  refine ⟨h.1, ?_⟩
  rcases h.2 with h3 | ⟨g, cap, cur, hv, hg1, hcur, hrest⟩
  · exact .inl h3
  · refine .inr ⟨g, cap, cur, hv, hg1, ?_, hrest⟩
    rw [hg.block g (h.lt g (by rw [hv]; rfl)).2 (hne g (by rw [hv]; rfl))]
    exact hcur
theorem BxQ.trn {P : Nat → Prop} {w w' : World} {b : Nat} {t : TypeId} {vs : Array Value} (h : BxQ w b t vs) (hg : Trn P w w') (hne : ¬ P b) : BxQ w' b t vs := by
  unfold BxQ
  rw [hg.block b h.lt hne]
  exact h
theorem trn_below {w u : World} (h : Below w.heap.size w u) : Trn (fun _ => False) w u := ⟨h.os, h.tape, h.output, h.size, fun k hk _ => h.block k hk⟩
theorem trn_imp {P R : Nat → Prop} {u v : World} (h : Trn P u v) (hR : ∀ i, P i → R i) : Trn R u v := ⟨h.os, h.tape, h.output, h.size, fun i hi ho => h.block i hi (fun hp => ho (hR i hp))⟩
theorem good_trn {P : Nat → Prop} {W u v : World} (h : Good W u) (k : Trn P u v) (hP : ∀ i, P i → W.heap.size ≤ i) : Good W v :=
  Below.trans h ⟨k.os, k.tape, k.output, k.size, fun i hi => k.block i (Nat.lt_of_lt_of_le hi h.size) (fun hp => by have := hP i hp; omega)⟩
theorem row_box {u : World} {B e s n b g : Nat} {t : TypeId} {v : Value} {xs : List Value} {cs : Array Value} (h : u.ownsRow B e s v n xs) (hb : BxQ u b t cs) (hte : t ≠ e) (hg : v.ownBlock = some g) : b ≠ g := by
  rintro rfl
  rcases h.2 with ⟨rfl, _⟩ | ⟨q, cap, cur, rfl, _, hc, _⟩
  · simp [Value.ownBlock] at hg
  · simp [Value.ownBlock] at hg
    subst hg
    unfold BxQ at hb
    rw [hb] at hc
    simp at hc
    exact hte hc.2
theorem markOrd_own {u : World} {lo : Nat} (num op x : Int) (a : Option Addr) (m c : Nat) (gs : List EdgeV) (k0 : Nat) (h : u.ownsRow lo 76 2 (.slice a m c) m (ecells gs)) (hm : m ≤ 1048576) (h1 : k0 ≤ 10000000) :
    Calls Try.prog 20 #[ordV num op a m c x, .int .i64 (k0 : Int)] u fun e v => e = .returned (.int .i64 ((k0 : Int) + (m : Int) * 2)) ∧ v.ownsRow lo 76 2 (.slice a m c) m (ecells (marks k0 m)) ∧ Trn (fun k => (Value.slice a m c).ownBlock = some k) u v := by
  by_cases h0 : m = 0
  · subst h0
    refine (markOrder_zero num op x a c k0 u).mono ?_
    rintro e v ⟨rfl, hb⟩
    refine ⟨by simp, ?_, hb.os, hb.tape, hb.output, hb.size, fun k hk _ => hb.block k hk⟩
    have hl := h.1
    rw [ecells_length] at hl
    have : gs = [] := List.length_eq_zero_iff.1 (by omega)
    subst this
    exact own_up10 h hb
  · rcases h.2 with ⟨_, h3⟩ | ⟨g, cap, cur, hv, hg, _⟩
    · omega
    · simp at hv
      obtain ⟨rfl, rfl⟩ := hv
      refine (markOrder_any num op x lo g c m k0 gs hm h1 u h).mono ?_
      rintro e v ⟨rfl, ho, hgr⟩
      exact ⟨rfl, ho, Trn.of_grown hgr⟩
/-- a record that is ours: its box and its three rows lie in blocks lo .. hi -/
structure RX (u : World) (lo hi b : Nat) (r : RecV) (a1 : Option Addr) (k1 c1 : Nat) (a2 : Option Addr) (k2 c2 : Nat) (a3 : Option Addr) (k3 c3 : Nat) (es : List EdgeV) (ls : List Int) (es3 : List EdgeV) : Prop where
  box : BxQ u b 31 (recC r a1 k1 c1 a2 k2 c2 a3 k3 c3)
  r1 : u.ownsRow lo 76 2 (.slice a1 k1 c1) k1 (ecells es)
  r2 : u.ownsRow lo 3 1 (.slice a2 k2 c2) k2 (ic ls)
  r3 : u.ownsRow lo 76 2 (.slice a3 k3 c3) k3 (ecells es3)
  lb : lo ≤ b
  hb : b < hi
  t1 : ∀ g, (Value.slice a1 k1 c1).ownBlock = some g → g < hi
  t2 : ∀ g, (Value.slice a2 k2 c2).ownBlock = some g → g < hi
  t3 : ∀ g, (Value.slice a3 k3 c3).ownBlock = some g → g < hi
  th : hi ≤ u.heap.size
  bd : k1 ≤ 100 ∧ k2 ≤ 100 ∧ k3 ≤ 100
  ap : k1 = 0 ∧ a1 = none ∨ k3 = 0 ∧ a3 = none
section
variable {u v : World} {lo hi b : Nat} {r : RecV} {a1 : Option Addr} {k1 c1 : Nat} {a2 : Option Addr} {k2 c2 : Nat} {a3 : Option Addr} {k3 c3 : Nat} {es : List EdgeV} {ls : List Int} {es3 : List EdgeV}
theorem RX.trn {P : Nat → Prop} (h : RX u lo hi b r a1 k1 c1 a2 k2 c2 a3 k3 c3 es ls es3) (ht : Trn P u v) (hP : ∀ k, P k → k < lo ∨ hi ≤ k) : RX v lo hi b r a1 k1 c1 a2 k2 c2 a3 k3 c3 es ls es3 := by
  have hs1 := h.lb
  have hs2 := h.hb
  exact ⟨h.box.trn ht (fun e => by have := hP _ e; omega),
    own_trn h.r1 ht (fun g hg e => by have := hP _ e; have := (h.r1.lt g hg).1; have := h.t1 g hg; omega),
    own_trn h.r2 ht (fun g hg e => by have := hP _ e; have := (h.r2.lt g hg).1; have := h.t2 g hg; omega),
    own_trn h.r3 ht (fun g hg e => by have := hP _ e; have := (h.r3.lt g hg).1; have := h.t3 g hg; omega), hs1, hs2, h.t1, h.t2, h.t3, Nat.le_trans h.th ht.size, h.bd, h.ap⟩
theorem RX.up (h : RX u lo hi b r a1 k1 c1 a2 k2 c2 a3 k3 c3 es ls es3) (hb : Below u.heap.size u v) : RX v lo hi b r a1 k1 c1 a2 k2 c2 a3 k3 c3 es ls es3 := h.trn (trn_below hb) (fun _ e => e.elim)
theorem RX.laid (hl : lo ≤ u.heap.size) (h : RcR u lo r a1 k1 c1 a2 k2 c2 a3 k3 c3) : RX (u.alloc (.cells (recC r a1 k1 c1 a2 k2 c2 a3 k3 c3) 31)) lo (u.heap.size + 1) u.heap.size r a1 k1 c1 a2 k2 c2 a3 k3 c3 r.an.es r.an.ls r.o.es :=
  ⟨BxQ.new _ _ _, h.1.1.alloc _, h.1.2.1.alloc _, h.1.2.2.alloc _, hl, by omega, fun g hg => by have := (h.1.1.lt g hg).2; omega, fun g hg => by have := (h.1.2.1.lt g hg).2; omega, fun g hg => by have := (h.1.2.2.lt g hg).2; omega, by simp, h.2.1, h.2.2⟩
theorem RX.len (h : RX u lo hi b r a1 k1 c1 a2 k2 c2 a3 k3 c3 es ls es3) : es.length = k1 ∧ ls.length = k2 ∧ es3.length = k3 := by
  have h1 := h.r1.1; have h2 := h.r2.1; have h3 := h.r3.1
  rw [ecells_length] at h1 h3
  rw [ic_len] at h2
  omega
set_option maxRecDepth 100000 in
set_option maxHeartbeats 2000000 in
theorem RX.mark (h : RX u lo hi b r a1 k1 c1 a2 k2 c2 a3 k3 c3 es ls es3) :
    Calls Try.prog 7 #[.agg (recC r a1 k1 c1 a2 k2 c2 a3 k3 c3), .int .i64 1] u fun e v => e = .returned (.int .i64 ((1 : Int) + (k1 : Int) * 2 + (k2 : Int) + (k3 : Int) * 2)) ∧ RX v lo hi b r a1 k1 c1 a2 k2 c2 a3 k3 c3 (marks 1 k1) (imarks (1 + k1 * 2) k2) (marks (1 + k1 * 2 + k2) k3) ∧ Trn (fun k => lo ≤ k ∧ k < hi) u v := by
  have hbd := h.bd
  obtain ⟨W, hW⟩ : ∃ W, W = u.alloc (.cells (recC r a1 k1 c1 a2 k2 c2 a3 k3 c3) 31) := ⟨_, rfl⟩
  have bW : Below u.heap.size u W := by rw [hW]; exact (Below.refl _ _).alloc (Nat.le_refl _) _
  have X : BxQ W u.heap.size 31 #[.int .i64 r.kind, .int .i64 r.id, .int .i64 r.op, .int .i64 r.a, .int .i64 r.b, .int .i64 r.sh, .int .i64 r.an.num, .bool r.an.ok, .slice a1 k1 c1, .slice a2 k2 c2, .int .i64 r.o.num, .int .i64 r.o.op, .slice a3 k3 c3, .int .i64 r.o.v] := by rw [hW]; exact BxQ.new _ _ _
  have HA := hideIt (markAns_any r.an.num r.an.ok a1 k1 c1 a2 k2 c2 es ls 1 (own_up10 h.r1 bW) (own_up10 h.r2 bW) (by omega) (by omega) (by omega))
  have HO : Hid (∀ U : World, U.ownsRow lo 76 2 (.slice a3 k3 c3) k3 (ecells es3) → Calls Try.prog 20 #[.agg #[.int .i64 r.o.num, .int .i64 r.o.op, .slice a3 k3 c3, .int .i64 r.o.v], .int .i64 ((1 : Int) + (k1 : Int) * 2 + (k2 : Int))] U fun e v => e = .returned (.int .i64 ((1 : Int) + (k1 : Int) * 2 + (k2 : Int) + (k3 : Int) * 2)) ∧ v.ownsRow lo 76 2 (.slice a3 k3 c3) k3 (ecells (marks (1 + k1 * 2 + k2) k3)) ∧ Trn (fun k => (Value.slice a3 k3 c3).ownBlock = some k) U v) := fun U p => by
    have := markOrd_own r.o.num r.o.op r.o.v a3 k3 c3 es3 (1 + k1 * 2 + k2) p (by omega) (by omega)
    have ek : ((1 + k1 * 2 + k2 : Nat) : Int) = (1 : Int) + (k1 : Int) * 2 + (k2 : Int) := by omega
    rw [ek] at this
    exact this
  have HH := hideIt h
  have HB := hideIt bW
  have HX := hideIt X
  have x6 := X.at 6 rfl
  have x7 := X.at 7 rfl
  have x8 := X.at 8 rfl
  have x9 := X.at 9 rfl
  clear h bW X
  go_enter Try.func7, Try.ntmps7
  go_upto_region 1 with fail
  rw [← hW]
  clear hW
  go_wp2_with (go_at_call 19; refine HA.out.mono ?_; rintro e w1 ⟨rfl, o1, o2, t1⟩; refine Hid.out ?_)
  refine (show ∀ {p : Prop}, p → Hid p from fun h => h) ?_
  have Y := HX.out.trn t1 (fun e => by
    rcases e with e | e
    · have := (HH.out.r1.lt _ e).2; omega
    · have := (HH.out.r2.lt _ e).2; omega)
  have q3 : w1.ownsRow lo 76 2 (.slice a3 k3 c3) k3 (ecells es3) := own_trn (own_up10 HH.out.r3 HB.out) t1 (fun g hg e => by
    rcases e with e | e
    · rcases HH.out.ap with ⟨_, z⟩ | ⟨_, z⟩
      · rw [z] at e; simp [Value.ownBlock] at e
      · rw [z] at hg; simp [Value.ownBlock] at hg
    · exact rows_ne HH.out.r2 HH.out.r3 (by decide) g e hg)
  have HQ := hideIt (HO.out w1 q3)
  have y10 := Y.at 10 rfl
  have y11 := Y.at 11 rfl
  have y12 := Y.at 12 rfl
  have y13 := Y.at 13 rfl
  have HO1 := hideIt o1
  have HO2 := hideIt o2
  have HT := hideIt t1
  clear Y q3 HA HO o1 o2 t1 x6 x7 x8 x9
  go_wp2_with (go_at_call 20; refine HQ.out.mono ?_; rintro e w2 ⟨rfl, o3, t2⟩)
  go_ret
  have tt : Trn (fun k => lo ≤ k ∧ k < hi) u w2 := trn_imp (((trn_below HB.out).trans HT.out).trans t2) (fun k hk => by
    rcases hk with (hk | hk | hk) | hk
    · exact hk.elim
    · exact ⟨(HH.out.r1.lt k hk).1, HH.out.t1 k hk⟩
    · exact ⟨(HH.out.r2.lt k hk).1, HH.out.t2 k hk⟩
    · exact ⟨(HH.out.r3.lt k hk).1, HH.out.t3 k hk⟩)
  refine ⟨rfl, ⟨?_, ?_, ?_, o3, HH.out.lb, HH.out.hb, HH.out.t1, HH.out.t2, HH.out.t3, Nat.le_trans HH.out.th tt.size, HH.out.bd, HH.out.ap⟩, tt⟩
  · have B0 := (HH.out.box.trn (trn_below HB.out) (fun e => e)).trn HT.out (fun e => by
      rcases e with e | e
      · exact row_box HH.out.r1 HH.out.box (by decide) e rfl
      · exact row_box HH.out.r2 HH.out.box (by decide) e rfl)
    exact B0.trn t2 (fun e => row_box HH.out.r3 HH.out.box (by decide) e rfl)
  · exact own_trn HO1.out t2 (fun g hg e => by
      rcases HH.out.ap with ⟨_, z⟩ | ⟨_, z⟩
      · rw [z] at hg; simp [Value.ownBlock] at hg
      · rw [z] at e; simp [Value.ownBlock] at e)
  · exact own_trn HO2.out t2 (fun g hg e => rows_ne HH.out.r3 HH.out.r2 (by decide) g e hg)
set_option maxRecDepth 100000 in
set_option maxHeartbeats 2000000 in
theorem RX.held (h : RX u lo hi b r a1 k1 c1 a2 k2 c2 a3 k3 c3 (marks 1 k1) (imarks (1 + k1 * 2) k2) (marks (1 + k1 * 2 + k2) k3)) :
    Calls Try.prog 8 #[.agg (recC r a1 k1 c1 a2 k2 c2 a3 k3 c3), .int .i64 1] u fun e v => e = .returned (.int .i64 ((1 : Int) + (k1 : Int) * 2 + (k2 : Int) + (k3 : Int) * 2)) ∧ Below u.heap.size u v := by
  have hbd := h.bd
  obtain ⟨W, hW⟩ : ∃ W, W = u.alloc (.cells (recC r a1 k1 c1 a2 k2 c2 a3 k3 c3) 31) := ⟨_, rfl⟩
  have bW : Below u.heap.size u W := by rw [hW]; exact (Below.refl _ _).alloc (Nat.le_refl _) _
  have X : BxQ W u.heap.size 31 #[.int .i64 r.kind, .int .i64 r.id, .int .i64 r.op, .int .i64 r.a, .int .i64 r.b, .int .i64 r.sh, .int .i64 r.an.num, .bool r.an.ok, .slice a1 k1 c1, .slice a2 k2 c2, .int .i64 r.o.num, .int .i64 r.o.op, .slice a3 k3 c3, .int .i64 r.o.v] := by rw [hW]; exact BxQ.new _ _ _
  have HA := hideIt (heldAns_any r.an.num r.an.ok a1 k1 c1 a2 k2 c2 1 ((Es_of_own h.r1).up bW) ((Is_of_own h.r2).up bW) (by omega) (by omega) (by omega))
  have HO : Hid (∀ U : World, Below W.heap.size W U → Calls Try.prog 22 #[.agg #[.int .i64 r.o.num, .int .i64 r.o.op, .slice a3 k3 c3, .int .i64 r.o.v], .int .i64 ((1 : Int) + (k1 : Int) * 2 + (k2 : Int))] U fun e v => e = .returned (.int .i64 ((1 : Int) + (k1 : Int) * 2 + (k2 : Int) + (k3 : Int) * 2)) ∧ Below U.heap.size U v) := fun U hU => by
    have := heldOrder_any r.o.num r.o.op r.o.v k3 (1 + k1 * 2 + k2) a3 c3 (by omega) (by omega) U (((Es_of_own h.r3).up bW).up hU)
    have ek : ((1 + k1 * 2 + k2 : Nat) : Int) = (1 : Int) + (k1 : Int) * 2 + (k2 : Int) := by omega
    rw [ek] at this
    exact this
  have d1 : decide ((1 : Int) + (k1 : Int) * 2 + (k2 : Int) < 0) = false := decide_eq_false (by omega)
  have d2 : decide ((1 : Int) + (k1 : Int) * 2 + (k2 : Int) + (k3 : Int) * 2 < 0) = false := decide_eq_false (by omega)
  have HB := hideIt bW
  have HX := hideIt X
  have x6 := X.at 6 rfl
  have x7 := X.at 7 rfl
  have x8 := X.at 8 rfl
  have x9 := X.at 9 rfl
  clear h bW X
  go_enter Try.func8, Try.ntmps8
  go_upto_region 1 with fail
  rw [← hW]
  clear hW
  go_wp2_with (go_at_call 21; refine HA.out.mono ?_; rintro e w1 ⟨rfl, b1⟩; refine Hid.out ?_)
  refine (show ∀ {p : Prop}, p → Hid p from fun h => h) ?_
  have Y := HX.out.gr (gr_below b1 none) (by simp)
  have HQ := hideIt (HO.out w1 b1)
  have HB1 := hideIt (Good.up HB.out b1)
  have y10 := Y.at 10 rfl
  have y11 := Y.at 11 rfl
  have y12 := Y.at 12 rfl
  have y13 := Y.at 13 rfl
  clear Y HA HO b1 x6 x7 x8 x9
  go_wp2_with (go_at_call 22; refine HQ.out.mono ?_; rintro e w2 ⟨rfl, b2⟩)
  go_ret
  exact ⟨rfl, Good.up HB1.out b2⟩
theorem eqAsk_yes (i o a b : Int) (w : World) : Calls Try.prog 16 #[.agg #[.int .i64 i, .int .i64 o, .int .i64 a, .int .i64 b], .agg #[.int .i64 i, .int .i64 o, .int .i64 a, .int .i64 b]] w fun e w' => e = .returned (.bool true) ∧ Below w.heap.size w w' := by
  have d1 : (i != i) = false := by simp
  have d2 : (o != o) = false := by simp
  have d3 : (a != a) = false := by simp
  have d4 : (b != b) = false := by simp
  go_enter Try.func16, Try.ntmps16
  go_wp2
  go_ret
  exact ⟨rfl, ((Below.refl _ _).alloc (Nat.le_refl _) _).alloc (by simp) _⟩
variable {lo' hi' b' : Nat} {b1 : Option Addr} {m1 e1 : Nat} {b2 : Option Addr} {m2 e2 : Nat} {b3 : Option Addr} {m3 e3 : Nat}
set_option maxRecDepth 100000 in
set_option maxHeartbeats 2000000 in
theorem RX.eq (h : RX u lo hi b r a1 k1 c1 a2 k2 c2 a3 k3 c3 es ls es3) (h' : RX u lo' hi' b' r b1 m1 e1 b2 m2 e2 b3 m3 e3 es ls es3) :
    Calls Try.prog 6 #[.agg (recC r a1 k1 c1 a2 k2 c2 a3 k3 c3), .agg (recC r b1 m1 e1 b2 m2 e2 b3 m3 e3)] u fun e v => e = .returned (.bool true) ∧ Below u.heap.size u v := by
  have z1 : m1 = k1 := by rw [← h.len.1, ← h'.len.1]
  have z2 : m2 = k2 := by rw [← h.len.2.1, ← h'.len.2.1]
  have z3 : m3 = k3 := by rw [← h.len.2.2, ← h'.len.2.2]
  subst z1 z2 z3
  have hbd := h.bd
  obtain ⟨W, hW⟩ : ∃ W, W = (u.alloc (.cells (recC r a1 m1 c1 a2 m2 c2 a3 m3 c3) 31)).alloc (.cells (recC r b1 m1 e1 b2 m2 e2 b3 m3 e3) 31) := ⟨_, rfl⟩
  have bW : Below u.heap.size u W := by rw [hW]; exact ((Below.refl _ _).alloc (Nat.le_refl _) _).alloc (by simp) _
  have X : BxQ W u.heap.size 31 #[.int .i64 r.kind, .int .i64 r.id, .int .i64 r.op, .int .i64 r.a, .int .i64 r.b, .int .i64 r.sh, .int .i64 r.an.num, .bool r.an.ok, .slice a1 m1 c1, .slice a2 m2 c2, .int .i64 r.o.num, .int .i64 r.o.op, .slice a3 m3 c3, .int .i64 r.o.v] := by rw [hW]; exact (BxQ.new u _ _).gr (World.grownBy_alloc _ _ none) (by simp)
  have X' : BxQ W (u.heap.size + 1) 31 #[.int .i64 r.kind, .int .i64 r.id, .int .i64 r.op, .int .i64 r.a, .int .i64 r.b, .int .i64 r.sh, .int .i64 r.an.num, .bool r.an.ok, .slice b1 m1 e1, .slice b2 m2 e2, .int .i64 r.o.num, .int .i64 r.o.op, .slice b3 m3 e3, .int .i64 r.o.v] := by
    have h := BxQ.new (u.alloc (.cells (recC r a1 m1 c1 a2 m2 c2 a3 m3 c3) 31)) 31 (recC r b1 m1 e1 b2 m2 e2 b3 m3 e3)
    rw [show (u.alloc (.cells (recC r a1 m1 c1 a2 m2 c2 a3 m3 c3) 31)).heap.size = u.heap.size + 1 by simp] at h
    rw [hW]; exact h
  have HK := hideIt (fun U => eqAsk_yes r.id r.op r.a r.b U)
  have HA : Hid (∀ U, Below W.heap.size W U → Calls Try.prog 17 #[.agg #[.int .i64 r.an.num, .bool r.an.ok, .slice a1 m1 c1, .slice a2 m2 c2], .agg #[.int .i64 r.an.num, .bool r.an.ok, .slice b1 m1 e1, .slice b2 m2 e2]] U fun e v => e = .returned (.bool true) ∧ Below U.heap.size U v) := fun U hU => eqAnswer_same r.an.num r.an.ok es ls m1 a1 b1 c1 e1 (by omega) m2 a2 b2 c2 e2 (by omega) U (((Es_of_own h.r1).up bW).up hU) (((Es_of_own h'.r1).up bW).up hU) (((Is_of_own h.r2).up bW).up hU) (((Is_of_own h'.r2).up bW).up hU)
  have HO : Hid (∀ U, Below W.heap.size W U → Calls Try.prog 18 #[.agg #[.int .i64 r.o.num, .int .i64 r.o.op, .slice a3 m3 c3, .int .i64 r.o.v], .agg #[.int .i64 r.o.num, .int .i64 r.o.op, .slice b3 m3 e3, .int .i64 r.o.v]] U fun e v => e = .returned (.bool true) ∧ Below U.heap.size U v) := fun U hU => eqOrder_same r.o.num r.o.op r.o.v es3 m3 a3 b3 c3 e3 (by omega) U (((Es_of_own h.r3).up bW).up hU) (((Es_of_own h'.r3).up bW).up hU)
  have HB := hideIt bW
  have HX := hideIt X
  have HX' := hideIt X'
  have d1 : (r.kind != r.kind) = false := by simp
  have d2 : (r.sh != r.sh) = false := by simp
  have x0 := X.at 0 rfl
  have x1 := X.at 1 rfl
  have x2 := X.at 2 rfl
  have x3 := X.at 3 rfl
  have x4 := X.at 4 rfl
  have y0 := X'.at 0 rfl
  have y1 := X'.at 1 rfl
  have y2 := X'.at 2 rfl
  have y3 := X'.at 3 rfl
  have y4 := X'.at 4 rfl
  clear h h' bW X X'
  go_enter Try.func6, Try.ntmps6
  go_upto_region 1 with fail
  rw [← hW]
  clear hW
  have HK1 := hideIt (HK.out W)
  go_wp2_with (go_at_call 16; refine HK1.out.mono ?_; rintro e w1 ⟨rfl, g1⟩; refine Hid.out ?_)
  refine (show ∀ {p : Prop}, p → Hid p from fun h => h) ?_
  have Y := HX.out.gr (gr_below g1 none) (by simp)
  have Y' := HX'.out.gr (gr_below g1 none) (by simp)
  have HA1 := hideIt (HA.out w1 g1)
  clear x0 x1 x2 x3 x4 y0 y1 y2 y3 y4 HK1
  have x5 := Y.at 5 rfl
  have x6 := Y.at 6 rfl
  have x7 := Y.at 7 rfl
  have x8 := Y.at 8 rfl
  have x9 := Y.at 9 rfl
  have y5 := Y'.at 5 rfl
  have y6 := Y'.at 6 rfl
  have y7 := Y'.at 7 rfl
  have y8 := Y'.at 8 rfl
  have y9 := Y'.at 9 rfl
  have HY := hideIt Y
  have HY' := hideIt Y'
  have HG1 := hideIt (show Good W w1 from g1)
  clear Y Y' g1
  go_wp2_with (go_at_call 17; refine HA1.out.mono ?_; rintro e w2 ⟨rfl, g2⟩; refine Hid.out ?_)
  refine (show ∀ {p : Prop}, p → Hid p from fun h => h) ?_
  have Z := HY.out.gr (gr_below g2 none) (by simp)
  have Z' := HY'.out.gr (gr_below g2 none) (by simp)
  have HG2 := hideIt (HG1.out.up g2)
  have HO1 := hideIt (HO.out w2 HG2.out)
  clear x5 x6 x7 x8 x9 y5 y6 y7 y8 y9 HA1 g2
  have x10 := Z.at 10 rfl
  have x11 := Z.at 11 rfl
  have x12 := Z.at 12 rfl
  have x13 := Z.at 13 rfl
  have y10 := Z'.at 10 rfl
  have y11 := Z'.at 11 rfl
  have y12 := Z'.at 12 rfl
  have y13 := Z'.at 13 rfl
  clear Z Z'
  go_wp2_with (go_at_call 18; refine HO1.out.mono ?_; rintro e w3 ⟨rfl, g3⟩)
  go_ret
  exact ⟨rfl, Good.up (Good.up HB.out HG2.out) g3⟩
end
set_option maxRecDepth 100000 in
set_option maxHeartbeats 8000000 in
theorem lawReadRec_in (n : Int) (s : ByteArray) (hs : s.size ≤ 1048576) (w : World) (rr : Option RecV) (hr : IsR n s.data.toList rr) :
    Calls Try.prog 3 #[.int .i64 n, .string s] w fun e w' => e = .returned (.bool true) ∧ Below w.heap.size w w' := by
  have HV : Hid (∀ u, Calls Try.prog 4 #[.int .i64 n, .string s] u fun e v => ReA u v e rr ∧ Below u.heap.size u v) := fun u => (sReadRec_any n s hs u).mono fun e v ⟨r', hr', h1, h2⟩ => by rw [IsR.uniq hr hr']; exact ⟨h1, h2⟩
  have HI := hideIt (fun u => iReadRec_any n s hs u rr hr)
  have hff : (rr.isSome != rr.isSome) = false := by simp
  have d0 : decide (1048576 < (s.size : Int)) = false := decide_eq_false (by omega)
  obtain ⟨r, hrr⟩ : ∃ r, r = orR rr := ⟨_, rfl⟩
  unfold ReA at HV HI
  rw [← hrr] at HV HI
  clear hrr hr
  generalize rr.isSome = fl at *
  go_enter Try.func3, Try.ntmps3
  go_wp2_with (go_at_call 4; refine (HV.out w).mono ?_; rintro e w1 ⟨⟨a1w, k1w, c1w, a2w, k2w, c2w, a3w, k3w, c3w, rfl, RRw⟩, b1⟩; refine Hid.out ?_)
  refine (show ∀ {p : Prop}, p → Hid p from fun h => h) ?_
  have g_w1 : Good w w1 := b1
  clear b1
  obtain ⟨W1, hW1⟩ : ∃ W1, W1 = w1.alloc (.cells #[.int .i64 r.kind, .int .i64 r.id, .int .i64 r.op, .int .i64 r.a, .int .i64 r.b, .int .i64 r.sh, .int .i64 r.an.num, .bool r.an.ok, .slice a1w k1w c1w, .slice a2w k2w c2w, .int .i64 r.o.num, .int .i64 r.o.op, .slice a3w k3w c3w, .int .i64 r.o.v] 31) := ⟨_, rfl⟩
  have cW1 : Below w1.heap.size w1 W1 := by rw [hW1]; exact (Below.refl _ _).alloc (Nat.le_refl _) _
  have DW : RX W1 w.heap.size (w1.heap.size + 1) w1.heap.size r a1w k1w c1w a2w k2w c2w a3w k3w c3w r.an.es r.an.ls r.o.es := by rw [hW1]; exact RX.laid g_w1.size RRw
  have sW1 : W1.heap.size = w1.heap.size + 1 := by rw [hW1]; simp
  have L1 := g_w1.up cW1
  go_upto_region 4 with fail
  rw [← hW1]
  clear hW1 cW1 RRw
  have zw := g_w1.size
  generalize w1.heap.size = bw at *
  have HI1 := hideIt (HI.out W1)
  go_wp2_with (go_at_call 5; refine HI1.out.mono ?_; rintro e w2 ⟨⟨a1g, k1g, c1g, a2g, k2g, c2g, a3g, k3g, c3g, rfl, RRg⟩, b2⟩; refine Hid.out ?_)
  refine (show ∀ {p : Prop}, p → Hid p from fun h => h) ?_
  have g_w2 : Good W1 w2 := b2
  clear b2 HI1
  obtain ⟨W2, hW2⟩ : ∃ W2, W2 = w2.alloc (.cells #[.int .i64 r.kind, .int .i64 r.id, .int .i64 r.op, .int .i64 r.a, .int .i64 r.b, .int .i64 r.sh, .int .i64 r.an.num, .bool r.an.ok, .slice a1g k1g c1g, .slice a2g k2g c2g, .int .i64 r.o.num, .int .i64 r.o.op, .slice a3g k3g c3g, .int .i64 r.o.v] 31) := ⟨_, rfl⟩
  have cW2 : Below w2.heap.size w2 W2 := by rw [hW2]; exact (Below.refl _ _).alloc (Nat.le_refl _) _
  have DG : RX W2 W1.heap.size (w2.heap.size + 1) w2.heap.size r a1g k1g c1g a2g k2g c2g a3g k3g c3g r.an.es r.an.ls r.o.es := by rw [hW2]; exact RX.laid g_w2.size RRg
  have sW2 : W2.heap.size = w2.heap.size + 1 := by rw [hW2]; simp
  have L2 := (L1.up g_w2).up cW2
  have DW2 := (DW.up g_w2).up cW2
  have z2 := g_w2.size
  go_upto_region 5 with fail
  rw [← hW2]
  clear hW2 cW2 RRg g_w2 DW L1
  generalize w2.heap.size = bg at *
  have x0 := DG.box.at 0 rfl
  have x1 := DG.box.at 1 rfl
  have x2 := DG.box.at 2 rfl
  have x3 := DG.box.at 3 rfl
  have x4 := DG.box.at 4 rfl
  have x5 := DG.box.at 5 rfl
  have x6 := DG.box.at 6 rfl
  have x7 := DG.box.at 7 rfl
  have x8 := DG.box.at 8 rfl
  have x9 := DG.box.at 9 rfl
  have x10 := DG.box.at 10 rfl
  have x11 := DG.box.at 11 rfl
  have x12 := DG.box.at 12 rfl
  have x13 := DG.box.at 13 rfl
  have y0 := DW2.box.at 0 rfl
  have y1 := DW2.box.at 1 rfl
  have y2 := DW2.box.at 2 rfl
  have y3 := DW2.box.at 3 rfl
  have y4 := DW2.box.at 4 rfl
  have y5 := DW2.box.at 5 rfl
  have y6 := DW2.box.at 6 rfl
  have y7 := DW2.box.at 7 rfl
  have y8 := DW2.box.at 8 rfl
  have y9 := DW2.box.at 9 rfl
  have y10 := DW2.box.at 10 rfl
  have y11 := DW2.box.at 11 rfl
  have y12 := DW2.box.at 12 rfl
  have y13 := DW2.box.at 13 rfl
  have HE := hideIt (DG.eq DW2)
  go_wp2_with (go_at_call 6; refine HE.out.mono ?_; rintro e w3 ⟨rfl, b3⟩; refine Hid.out ?_)
  refine (show ∀ {p : Prop}, p → Hid p from fun h => h) ?_
  clear HE x0 x1 x2 x3 x4 x5 x6 x7 x8 x9 x10 x11 x12 x13 y0 y1 y2 y3 y4 y5 y6 y7 y8 y9 y10 y11 y12 y13
  have g3 : Good W2 w3 := b3
  clear b3
  have DG3 := DG.up g3
  have DW3 := DW2.up g3
  have L3 := L2.up g3
  clear g3 DG DW2 L2
  have x0 := DG3.box.at 0 rfl
  have x1 := DG3.box.at 1 rfl
  have x2 := DG3.box.at 2 rfl
  have x3 := DG3.box.at 3 rfl
  have x4 := DG3.box.at 4 rfl
  have x5 := DG3.box.at 5 rfl
  have x6 := DG3.box.at 6 rfl
  have x7 := DG3.box.at 7 rfl
  have x8 := DG3.box.at 8 rfl
  have x9 := DG3.box.at 9 rfl
  have x10 := DG3.box.at 10 rfl
  have x11 := DG3.box.at 11 rfl
  have x12 := DG3.box.at 12 rfl
  have x13 := DG3.box.at 13 rfl
  have HM := hideIt DG3.mark
  go_wp2_with (go_at_call 7; refine HM.out.mono ?_; rintro e w4 ⟨rfl, DG4, t4⟩; refine Hid.out ?_)
  refine (show ∀ {p : Prop}, p → Hid p from fun h => h) ?_
  clear HM x0 x1 x2 x3 x4 x5 x6 x7 x8 x9 x10 x11 x12 x13
  have DW4 := DW3.trn t4 (fun k hk => by omega)
  have L4 := good_trn L3 t4 (fun k hk => by omega)
  have bdg := DG4.bd
  clear t4 DG3 DW3 L3
  have d4 : decide ((1 : Int) + (k1g : Int) * 2 + (k2g : Int) + (k3g : Int) * 2 < 0) = false := decide_eq_false (by omega)
  have d5 : ((1 : Int) + (k1g : Int) * 2 + (k2g : Int) + (k3g : Int) * 2 != (1 : Int) + (k1g : Int) * 2 + (k2g : Int) + (k3g : Int) * 2) = false := by simp
  have x0 := DG4.box.at 0 rfl
  have x1 := DG4.box.at 1 rfl
  have x2 := DG4.box.at 2 rfl
  have x3 := DG4.box.at 3 rfl
  have x4 := DG4.box.at 4 rfl
  have x5 := DG4.box.at 5 rfl
  have x6 := DG4.box.at 6 rfl
  have x7 := DG4.box.at 7 rfl
  have x8 := DG4.box.at 8 rfl
  have x9 := DG4.box.at 9 rfl
  have x10 := DG4.box.at 10 rfl
  have x11 := DG4.box.at 11 rfl
  have x12 := DG4.box.at 12 rfl
  have x13 := DG4.box.at 13 rfl
  have HH := hideIt DG4.held
  go_wp2_with (go_at_call 8; refine HH.out.mono ?_; rintro e w5 ⟨rfl, b5⟩; refine Hid.out ?_)
  refine (show ∀ {p : Prop}, p → Hid p from fun h => h) ?_
  clear HH x0 x1 x2 x3 x4 x5 x6 x7 x8 x9 x10 x11 x12 x13
  have g5 : Good w4 w5 := b5
  clear b5
  have DG5 := DG4.up g5
  have DW5 := DW4.up g5
  have L5 := L4.up g5
  clear g5 DG4 DW4 L4
  have HI5 := hideIt (HI.out w5)
  go_wp2_with (go_at_call 5; refine HI5.out.mono ?_; rintro e w6 ⟨⟨a1h, k1h, c1h, a2h, k2h, c2h, a3h, k3h, c3h, rfl, RRh⟩, b6⟩; refine Hid.out ?_)
  refine (show ∀ {p : Prop}, p → Hid p from fun h => h) ?_
  have g_w6 : Good w5 w6 := b6
  clear b6 HI5
  obtain ⟨W6, hW6⟩ : ∃ W6, W6 = w6.alloc (.cells #[.int .i64 r.kind, .int .i64 r.id, .int .i64 r.op, .int .i64 r.a, .int .i64 r.b, .int .i64 r.sh, .int .i64 r.an.num, .bool r.an.ok, .slice a1h k1h c1h, .slice a2h k2h c2h, .int .i64 r.o.num, .int .i64 r.o.op, .slice a3h k3h c3h, .int .i64 r.o.v] 31) := ⟨_, rfl⟩
  have cW6 : Below w6.heap.size w6 W6 := by rw [hW6]; exact (Below.refl _ _).alloc (Nat.le_refl _) _
  have DH : RX W6 w5.heap.size (w6.heap.size + 1) w6.heap.size r a1h k1h c1h a2h k2h c2h a3h k3h c3h r.an.es r.an.ls r.o.es := by rw [hW6]; exact RX.laid g_w6.size RRh
  have sW6 : W6.heap.size = w6.heap.size + 1 := by rw [hW6]; simp
  have L6 := (L5.up g_w6).up cW6
  have DW6 := (DW5.up g_w6).up cW6
  have DG6 := (DG5.up g_w6).up cW6
  go_upto_region 16 with fail
  rw [← hW6]
  clear hW6 cW6 RRh g_w6 DW5 DG5 L5
  generalize w6.heap.size = bh at *
  have x0 := DH.box.at 0 rfl
  have x1 := DH.box.at 1 rfl
  have x2 := DH.box.at 2 rfl
  have x3 := DH.box.at 3 rfl
  have x4 := DH.box.at 4 rfl
  have x5 := DH.box.at 5 rfl
  have x6 := DH.box.at 6 rfl
  have x7 := DH.box.at 7 rfl
  have x8 := DH.box.at 8 rfl
  have x9 := DH.box.at 9 rfl
  have x10 := DH.box.at 10 rfl
  have x11 := DH.box.at 11 rfl
  have x12 := DH.box.at 12 rfl
  have x13 := DH.box.at 13 rfl
  have y0 := DW6.box.at 0 rfl
  have y1 := DW6.box.at 1 rfl
  have y2 := DW6.box.at 2 rfl
  have y3 := DW6.box.at 3 rfl
  have y4 := DW6.box.at 4 rfl
  have y5 := DW6.box.at 5 rfl
  have y6 := DW6.box.at 6 rfl
  have y7 := DW6.box.at 7 rfl
  have y8 := DW6.box.at 8 rfl
  have y9 := DW6.box.at 9 rfl
  have y10 := DW6.box.at 10 rfl
  have y11 := DW6.box.at 11 rfl
  have y12 := DW6.box.at 12 rfl
  have y13 := DW6.box.at 13 rfl
  have HE := hideIt (DH.eq DW6)
  go_wp2_with (go_at_call 6; refine HE.out.mono ?_; rintro e w7 ⟨rfl, b7⟩; refine Hid.out ?_)
  refine (show ∀ {p : Prop}, p → Hid p from fun h => h) ?_
  clear HE x0 x1 x2 x3 x4 x5 x6 x7 x8 x9 x10 x11 x12 x13 y0 y1 y2 y3 y4 y5 y6 y7 y8 y9 y10 y11 y12 y13
  have g7 : Good W6 w7 := b7
  clear b7
  have DG7 := DG6.up g7
  have L7 := L6.up g7
  clear g7 DG6 DW6 DH L6
  have x0 := DG7.box.at 0 rfl
  have x1 := DG7.box.at 1 rfl
  have x2 := DG7.box.at 2 rfl
  have x3 := DG7.box.at 3 rfl
  have x4 := DG7.box.at 4 rfl
  have x5 := DG7.box.at 5 rfl
  have x6 := DG7.box.at 6 rfl
  have x7 := DG7.box.at 7 rfl
  have x8 := DG7.box.at 8 rfl
  have x9 := DG7.box.at 9 rfl
  have x10 := DG7.box.at 10 rfl
  have x11 := DG7.box.at 11 rfl
  have x12 := DG7.box.at 12 rfl
  have x13 := DG7.box.at 13 rfl
  have HH := hideIt DG7.held
  go_wp2_with (go_at_call 8; refine HH.out.mono ?_; rintro e w8 ⟨rfl, b8⟩; refine Hid.out ?_)
  refine (show ∀ {p : Prop}, p → Hid p from fun h => h) ?_
  clear HH x0 x1 x2 x3 x4 x5 x6 x7 x8 x9 x10 x11 x12 x13
  have g8 : Good w7 w8 := b8
  clear b8
  have HEnd := hideIt (L7.up g8)
  clear g8 DG7 L7
  go_wp2_with fail
  go_ret
  exact ⟨rfl, HEnd.out⟩
theorem isR_cases (n : Int) (T : List UInt8) : ∃ r, IsR n T r := by
  by_cases h : ∃ r, RecB n r ∧ rText r = T
  · obtain ⟨r, hr⟩ := h
    exact ⟨some r, hr⟩
  · exact ⟨none, fun r hr e => h ⟨r, hr, e⟩⟩
theorem fnExactReadRec.walk (n : Int) (_hn : (Lit.int .i64 n).wf = true) (s : ByteArray) (_hs : s.size ≤ maxLen) (w : World) :
    Calls Try.prog 3 #[.int .i64 n, .string s] w fun e w' => e = .returned (.bool true) ∧ Below w.heap.size w w' := by
  by_cases hs : s.size ≤ 1048576
  · obtain ⟨r, hr⟩ := isR_cases n s.data.toList
    exact lawReadRec_in n s hs w r hr
  · have d0 : decide (1048576 < (s.size : Int)) = true := decide_eq_true (by omega)
    go_enter Try.func3, Try.ntmps3
    go_wp2
    go_ret
    exact ⟨rfl, Below.refl _ _⟩
end Go.Proofs.Ytaipbkigngjkbaa
