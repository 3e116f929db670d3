/- An answer is marked and held, wherever its lists lie. Records as bytes, and how they are read: no program is named here. What is blank: answers, orders, questions. What the specification's l01Var and l01In answer. What the specification's ReadVar answers, at every text and place: the number 'rv' and the place behind it, or nothing. The specification's reader of parts. -/
import Derived.Test.YthnibebljbljdaaGreatDoorKLawB10
import Derived.Test.YthnibebljbljdaaGreatDoorKRO10
import Derived.Test.YthnibebljbljdaaGreatDoorKVtBack
import Derived.Deep.DeepCutAuto
import Derived.Test.YthnibebljbljdaaGreatDoorKDg
import Derived.WalkSmall
import Derived.Lib.Strings
import Derived.Deep.RegionHeld3
namespace Go.Proofs.YthnibebljbljdaaGreatDoor
open Go.RowKit

/-- nothing but what P names has turned -/
structure Trn (P : Nat → Prop) (u v : World) : Prop where
  os : v.os = u.os
  tape : v.tape = u.tape
  output : v.output = u.output
  size : u.heap.size ≤ v.heap.size
  block : ∀ k, k < u.heap.size → ¬ P k → v.heap[k]? = u.heap[k]?
theorem Trn.of_grown {u v : World} {r : Option Nat} (h : u.grownBy v r) : Trn (fun k => r = some k) u v := ⟨h.os, h.tape, h.output, h.size, fun k hk ho => h.block k hk (fun e => ho e.symm)⟩
theorem Trn.trans {P Q : Nat → Prop} {u v x : World} (h : Trn P u v) (k : Trn Q v x) : Trn (fun i => P i ∨ Q i) u x :=
  ⟨k.os.trans h.os, k.tape.trans h.tape, k.output.trans h.output, Nat.le_trans h.size k.size, fun i hi ho => (k.block i (Nat.lt_of_lt_of_le hi h.size) (fun hq => ho (.inr hq))).trans (h.block i hi (fun hp => ho (.inl hp)))⟩

set_option maxHeartbeats 1000000 in
theorem markAns_any {u : World} {lo : Nat} (num : Int) (ok : Bool) (a : Option Addr) (m c : Nat) (a' : Option Addr) (m' c' : Nat) (gs : List EdgeV) (ls : List Int) (k0 : Nat) (h : u.ownsRow lo 120 2 (.slice a m c) m (ecells gs)) (h2 : u.ownsRow lo 3 1 (.slice a' m' c') m' (ic ls)) (hm : m ≤ 1048576) (hm' : m' ≤ 1048576) (h1 : k0 ≤ 5000000) :
    Calls Tryz.prog 48 #[ansV num ok a m c a' m' c', .int .i64 (k0 : Int)] u fun e v => e = .returned (.int .i64 ((k0 : Int) + (m : Int) * 2 + (m' : Int))) ∧ v.ownsRow lo 120 2 (.slice a m c) m (ecells (marks k0 m)) ∧ v.ownsRow lo 3 1 (.slice a' m' c') m' (ic (imarks (k0 + m * 2) m')) ∧ Trn (fun k => (Value.slice a m c).ownBlock = some k ∨ (Value.slice a' m' c').ownBlock = some k) u v := by
  unfold ansV
  have HE := hideIt (markE_any (by omega) (by omega) (h.alloc (.cells #[.int .i64 num, .bool ok, .slice a m c, .slice a' m' c'] 53)) (k0 := k0))
  have HI : Hid (∀ W : World, W.ownsRow lo 3 1 (.slice a' m' c') m' (ic ls) → Calls Tryz.prog 29 #[.slice a' m' c', .int .i64 ((k0 : Int) + (m : Int) * 2)] W fun e w' => e = .returned (.int .i64 ((k0 : Int) + (m : Int) * 2 + (m' : Int))) ∧ w'.ownsRow lo 3 1 (.slice a' m' c') m' (ic (imarks (k0 + m * 2) m')) ∧ W.grownBy w' ((Value.slice a' m' c').ownBlock)) := fun W hW => by
    have := markI_any (k0 := k0 + m * 2) (by omega) (by omega) hW
    simpa using this
  have HA := hideIt h
  have HA2 := hideIt h2
  clear h h2
  go_enter Tryz.func48, Tryz.ntmps48
  go_wp2_with (go_at_call 28; refine HE.out.mono ?_; rintro e w1 ⟨rfl, o1, g1⟩; refine Hid.out ?_)
  refine (show ∀ {p : Prop}, p → Hid p from fun h => h) ?_
  have hq : w1.heap[u.heap.size]? = some (.cells #[.int .i64 num, .bool ok, .slice a m c, .slice a' m' c'] 53 (0, 0)) := by
    rw [g1.block _ (by simp) (fun e => by have := (HA.out.lt _ e.symm).2; omega)]
    exact heap_alloc_new u _
  have q3 : w1.cell? ⟨u.heap.size, 3, none⟩ = some (.slice a' m' c') := by rw [cell_of_row w1 _ 3 _ _ _ hq]; rfl
  have o2 : w1.ownsRow lo 3 1 (.slice a' m' c') m' (ic ls) := own_kept (HA2.out.alloc _) g1 (fun g hg => rows_ne HA.out HA2.out (by decide) g hg)
  have HO1 := hideIt o1
  have HO2 := hideIt o2
  have HG1 := hideIt (gr_trans (World.grownBy_alloc u (.cells #[.int .i64 num, .bool ok, .slice a m c, .slice a' m' c'] 53) _) g1)
  clear o1 o2 g1 hq HE
  go_wp2_with (go_at_call 29; refine (HI.out _ HO2.out).mono ?_; rintro e w2 ⟨rfl, o3, g2⟩)
  go_ret
  exact ⟨rfl, own_kept HO1.out g2 (fun g hg => rows_ne HO2.out HO1.out (by decide) g hg), o3, (Trn.of_grown HG1.out).trans (Trn.of_grown g2)⟩

theorem szOrd_gen (num op v : Int) (n l : Nat) (a : Option Addr) (c : Nat) (hn : n ≤ maxLen) (hl : l ≤ 1048576) (w : World) :
    Calls Tryz.prog 34 #[ordV num op a n c v, .int .i64 (l : Int)] w fun e w' => e = .returned (.int .i64 (if n ≤ l then (l : Int) - (n : Int) else -1)) ∧ Below w.heap.size w w' := by
  unfold maxLen at hn
  unfold ordV
  by_cases g : n ≤ l
  · rw [if_pos g]
    have d1 : decide ((l : Int) - (n : Int) < 0) = false := by simp; omega
    go_enter Tryz.func34, Tryz.ntmps34
    go_wp2
    go_ret
    exact ⟨rfl, bel1 _ _⟩
  · rw [if_neg g]
    have d1 : decide ((l : Int) - (n : Int) < 0) = true := by simp; omega
    go_enter Tryz.func34, Tryz.ntmps34
    go_wp2
    go_ret
    exact ⟨rfl, bel1 _ _⟩
theorem markOrd_any {u : World} {lo : Nat} (num op x : Int) (a : Option Addr) (m c : Nat) (gs : List EdgeV) (k0 : Nat) (h : u.ownsRow lo 120 2 (.slice a m c) m (ecells gs)) (hm : m ≤ 1048576) (h1 : k0 ≤ 10000000) :
    Calls Tryz.prog 49 #[ordV num op a m c x, .int .i64 (k0 : Int)] u fun e v => e = .returned (.int .i64 ((k0 : Int) + (m : Int) * 2)) ∧ Trn (fun k => (Value.slice a m c).ownBlock = some k) u v := by
  by_cases h0 : m = 0
  · subst h0
    refine (markOrder_zero num op x a c k0 u).mono ?_
    rintro e v ⟨rfl, hb⟩
    exact ⟨by simp, hb.os, hb.tape, hb.output, hb.size, fun k hk _ => hb.block k hk⟩
  · rcases h.2 with ⟨_, h3⟩ | ⟨g, cap, cur, hv, hg, _⟩
    · omega
    · simp at hv
      obtain ⟨rfl, rfl⟩ := hv
      refine (markOrder_any num op x lo g c m k0 gs hm h1 u h).mono ?_
      rintro e v ⟨rfl, _, hgr⟩
      exact ⟨rfl, Trn.of_grown hgr⟩
end Go.Proofs.YthnibebljbljdaaGreatDoor
namespace Go.Proofs.YthnibebljbljdaaGreatDoor
open Go.RowKit Vt

/-- a record -/
structure RecV where
  kind : Int
  id : Int
  op : Int
  a : Int
  b : Int
  sh : Int
  an : AnsV
  o : OrdV
def zA : AnsV := ⟨0, false, [], []⟩
def zO : OrdV := ⟨0, 0, [], 0⟩
def zR : RecV := ⟨0, 0, 0, 0, 0, 0, zA, zO⟩
/-- a number that may stand in a record -/
def N5 (x : Int) : Prop := 0 ≤ x ∧ x ≤ 100000
/-- the record is right -/
def RecB (n : Int) (r : RecV) : Prop :=
  (r.kind = 1 ∧ (N5 r.id ∧ N5 r.op ∧ N5 r.a ∧ N5 r.b) ∧ r.sh = 0 ∧ r.an = zA ∧ r.o = zO) ∨
  (r.kind = 2 ∧ (r.id = 0 ∧ r.op = 0 ∧ r.a = 0 ∧ r.b = 0) ∧ N5 r.sh ∧ aB n r.an = true ∧ r.o = zO) ∨
  (r.kind = 3 ∧ (r.id = 0 ∧ r.op = 0 ∧ r.a = 0 ∧ r.b = 0) ∧ r.sh = 0 ∧ r.an = zA ∧ oB n r.o = true)
/-- a short text's bytes -/
def sht (T : List UInt8) : List UInt8 := vt T.length ++ T
/-- a record's bytes -/
def rText (r : RecV) : List UInt8 :=
  if r.kind = 1 then 1 :: (vt r.id.toNat ++ (vt r.op.toNat ++ (vt r.a.toNat ++ vt r.b.toNat)))
  else if r.kind = 2 then 2 :: (vt r.sh.toNat ++ sht (aText r.an))
  else 3 :: sht (oText r.o)
/-- what is the right record of these bytes, if there is one -/
def IsR (n : Int) (L : List UInt8) : Option RecV → Prop
  | none => ∀ r, RecB n r → rText r ≠ L
  | some r => RecB n r ∧ rText r = L

theorem vt_len14 (k : Nat) (h : k ≤ 1000000000) : (vt k).length ≤ 5 := by
  have h1 := rv_vt 0 k [] h
  have h2 := (rv_some h1)
  rw [List.append_nil] at h2
  unfold rv at h1
  rw [List.append_nil] at h1
  split at h1
  · cases h1
  · rename_i c r hd
    split at h1
    · rename_i hc
      simp only [Option.some.injEq, Prod.mk.injEq] at h1
      omega
    · cases h1
theorem et_len14 {es : List EdgeV} (h : es.length ≤ 66) : (et es).length ≤ 200 := by
  unfold et
  have h1 := vt_len14 es.length (by omega)
  have h2 := eb_length es
  rw [List.length_append]
  omega
theorem aText_len {n : Int} {a : AnsV} (h : aB n a = true) : (aText a).length ≤ 300 := by
  obtain ⟨p0, p1, ⟨_, p3⟩, p4⟩ := aB_parts h
  obtain ⟨p5, _⟩ := lB_bytes p0.2 p4
  unfold aText
  have h1 := vt_len14 a.num.toNat (by omega)
  have h2 := et_len14 p3
  rw [List.length_append, List.length_cons, List.length_append, List.length_map]
  omega
theorem oText_len {n : Int} {o : OrdV} (h : oB n o = true) : (oText o).length ≤ 300 := by
  obtain ⟨_, p1, ⟨_, p3⟩, _, p5⟩ := oB_parts h
  unfold oText
  have h1 := vt_len14 o.num.toNat (by omega)
  have h2 := et_len14 p3
  have h3 := vt_len14 o.v.toNat (by omega)
  rw [List.length_append, List.length_cons, List.length_append]
  omega
/-- a right record's first byte -/
theorem cand0 {n : Int} {r : RecV} {L : List UInt8} (h : RecB n r) (e : rText r = L) : ∃ c M, L = c :: M ∧ ((c = 1 ∧ r.kind = 1) ∨ (c = 2 ∧ r.kind = 2) ∨ (c = 3 ∧ r.kind = 3)) := by
  subst e
  unfold rText
  rcases h with h | h | h
  · rw [if_pos h.1]; exact ⟨_, _, rfl, .inl ⟨rfl, h.1⟩⟩
  · rw [if_neg (by omega), if_pos h.1]; exact ⟨_, _, rfl, .inr (.inl ⟨rfl, h.1⟩)⟩
  · rw [if_neg (by omega), if_neg (by omega)]; exact ⟨_, _, rfl, .inr (.inr ⟨rfl, h.1⟩)⟩
theorem cand1 {n : Int} {r : RecV} {L : List UInt8} (h : RecB n r) (e : rText r = 1 :: L) :
    ∃ L2 L3 L4, (nx pN (some L) = (r.id.toNat, some L2) ∧ nx pN (some L2) = (r.op.toNat, some L3) ∧ nx pN (some L3) = (r.a.toNat, some L4) ∧ nx pN (some L4) = (r.b.toNat, some [])) ∧ (N5 r.id ∧ N5 r.op ∧ N5 r.a ∧ N5 r.b) ∧ r.kind = 1 ∧ r.sh = 0 ∧ r.an = zA ∧ r.o = zO := by
  rcases h with ⟨hk, hn, h1, h2, h3⟩ | h | h
  · unfold rText at e
    rw [if_pos hk] at e
    simp only [List.cons.injEq, true_and] at e
    subst e
    obtain ⟨a1, a2, a3, a4⟩ := hn
    unfold N5 at a1 a2 a3 a4
    have e4 : pN (vt r.b.toNat) = some (r.b.toNat, []) := by have := pN_vt r.b.toNat [] (by omega); rwa [List.append_nil] at this
    exact ⟨_, _, _, ⟨nx_of (pN_vt _ _ (by omega)), nx_of (pN_vt _ _ (by omega)), nx_of (pN_vt _ _ (by omega)), nx_of e4⟩, ⟨a1, a2, a3, a4⟩, hk, h1, h2, h3⟩
  · exfalso
    unfold rText at e
    rw [if_neg (by omega), if_pos h.1] at e
    simp at e
  · exfalso
    unfold rText at e
    rw [if_neg (by omega), if_neg (by omega)] at e
    simp at e
theorem cand2 {n : Int} {r : RecV} {L : List UInt8} (h : RecB n r) (e : rText r = 2 :: L) :
    ∃ L2 T, (nx pN (some L) = (r.sh.toNat, some L2) ∧ nx pN (some L2) = (T.length, some T) ∧ T = aText r.an ∧ T.length ≤ 300) ∧ (r.id = 0 ∧ r.op = 0 ∧ r.a = 0 ∧ r.b = 0) ∧ r.kind = 2 ∧ N5 r.sh ∧ aB n r.an = true ∧ r.o = zO := by
  rcases h with h | ⟨hk, hz, h1, h2, h3⟩ | h
  · exfalso
    unfold rText at e
    rw [if_pos h.1] at e
    simp at e
  · unfold rText at e
    rw [if_neg (by omega), if_pos hk] at e
    simp only [List.cons.injEq, true_and] at e
    subst e
    have hl := aText_len h2
    have a1 := h1
    unfold N5 at a1
    exact ⟨_, _, ⟨nx_of (pN_vt _ _ (by omega)), nx_of (pN_vt _ _ (by omega)), rfl, hl⟩, hz, hk, h1, h2, h3⟩
  · exfalso
    unfold rText at e
    rw [if_neg (by omega), if_neg (by omega)] at e
    simp at e
theorem cand3 {n : Int} {r : RecV} {L : List UInt8} (h : RecB n r) (e : rText r = 3 :: L) :
    ∃ T, (nx pN (some L) = (T.length, some T) ∧ T = oText r.o ∧ T.length ≤ 300) ∧ (r.id = 0 ∧ r.op = 0 ∧ r.a = 0 ∧ r.b = 0) ∧ r.kind = 3 ∧ r.sh = 0 ∧ r.an = zA ∧ oB n r.o = true := by
  rcases h with h | h | ⟨hk, hz, h1, h2, h3⟩
  · exfalso
    unfold rText at e
    rw [if_pos h.1] at e
    simp at e
  · exfalso
    unfold rText at e
    rw [if_neg (by omega), if_pos h.1] at e
    simp at e
  · unfold rText at e
    rw [if_neg (by omega), if_neg (by omega)] at e
    simp only [List.cons.injEq, true_and] at e
    subst e
    have hl := oText_len h3
    exact ⟨_, ⟨nx_of (pN_vt _ _ (by omega)), rfl, hl⟩, hz, hk, h1, h2, h3⟩
theorem int_of_nat {x y : Int} {k : Nat} (h : k = x.toNat) (h' : k = y.toNat) (hx : N5 x) (hy : N5 y) : x = y := by unfold N5 at hx hy; omega
theorem IsR.uniq {n : Int} {L : List UInt8} : ∀ {r r' : Option RecV}, IsR n L r → IsR n L r' → r = r'
  | none, none, _, _ => rfl
  | none, some o, h, h' => absurd h'.2 (h o h'.1)
  | some o, none, h, h' => absurd h.2 (h' o h.1)
  | some r, some r', h, h' => by
    obtain ⟨hB, hT⟩ := h
    obtain ⟨hB', hT'⟩ := h'
    obtain ⟨c, M, rfl, hc⟩ := cand0 hB hT
    rcases hc with ⟨rfl, _⟩ | ⟨rfl, _⟩ | ⟨rfl, _⟩
    · obtain ⟨L2, L3, L4, ⟨e1, e2, e3, e4⟩, ⟨n1, n2, n3, n4⟩, k, z1, z2, z3⟩ := cand1 hB hT
      obtain ⟨M2, M3, M4, ⟨f1, f2, f3, f4⟩, ⟨m1, m2, m3, m4⟩, k', y1, y2, y3⟩ := cand1 hB' hT'
      rw [e1] at f1
      simp only [Prod.mk.injEq, Option.some.injEq] at f1
      obtain ⟨g1, rfl⟩ := f1
      rw [e2] at f2
      simp only [Prod.mk.injEq, Option.some.injEq] at f2
      obtain ⟨g2, rfl⟩ := f2
      rw [e3] at f3
      simp only [Prod.mk.injEq, Option.some.injEq] at f3
      obtain ⟨g3, rfl⟩ := f3
      rw [e4] at f4
      simp only [Prod.mk.injEq, and_true] at f4
      obtain ⟨a1, a2, a3, a4, a5, a6, a7, a8⟩ := r
      obtain ⟨b1, b2, b3, b4, b5, b6, b7, b8⟩ := r'
      dsimp only at *
      rw [int_of_nat rfl g1 n1 m1, int_of_nat rfl g2 n2 m2, int_of_nat rfl g3 n3 m3, int_of_nat rfl f4 n4 m4, k, k', z1, y1, z2, y2, z3, y3]
    · obtain ⟨L2, T, ⟨e1, e2, e3, _⟩, ⟨n1, n2, n3, n4⟩, k, z1, z2, z3⟩ := cand2 hB hT
      obtain ⟨M2, T', ⟨f1, f2, f3, _⟩, ⟨m1, m2, m3, m4⟩, k', y1, y2, y3⟩ := cand2 hB' hT'
      rw [e1] at f1
      simp only [Prod.mk.injEq, Option.some.injEq] at f1
      obtain ⟨g1, rfl⟩ := f1
      rw [e2] at f2
      simp only [Prod.mk.injEq, Option.some.injEq] at f2
      obtain ⟨_, rfl⟩ := f2
      have ha : some r.an = some r'.an := IsA.uniq (n := n) (L := T) ⟨z2, e3.symm⟩ ⟨y2, f3.symm⟩
      simp only [Option.some.injEq] at ha
      obtain ⟨a1, a2, a3, a4, a5, a6, a7, a8⟩ := r
      obtain ⟨b1, b2, b3, b4, b5, b6, b7, b8⟩ := r'
      dsimp only at *
      rw [int_of_nat rfl g1 z1 y1, k, k', n1, n2, n3, n4, m1, m2, m3, m4, z3, y3, ha]
    · obtain ⟨T, ⟨e2, e3, _⟩, ⟨n1, n2, n3, n4⟩, k, z1, z2, z3⟩ := cand3 hB hT
      obtain ⟨T', ⟨f2, f3, _⟩, ⟨m1, m2, m3, m4⟩, k', y1, y2, y3⟩ := cand3 hB' hT'
      rw [e2] at f2
      simp only [Prod.mk.injEq, Option.some.injEq] at f2
      obtain ⟨_, rfl⟩ := f2
      have ha : some r.o = some r'.o := IsO.uniq (n := n) (L := T) ⟨z3, e3.symm⟩ ⟨y3, f3.symm⟩
      simp only [Option.some.injEq] at ha
      obtain ⟨a1, a2, a3, a4, a5, a6, a7, a8⟩ := r
      obtain ⟨b1, b2, b3, b4, b5, b6, b7, b8⟩ := r'
      dsimp only at *
      rw [k, k', n1, n2, n3, n4, m1, m2, m3, m4, z1, y1, z2, y2, ha]
/-- what is read to its end is a record of these bytes -/
theorem yes1 {n : Int} {L L2 L3 L4 : List UInt8} {i o a b : Nat} (e1 : nx pN (some L) = (i, some L2)) (e2 : nx pN (some L2) = (o, some L3)) (e3 : nx pN (some L3) = (a, some L4)) (e4 : nx pN (some L4) = (b, some [])) (h1 : i ≤ 100000) (h2 : o ≤ 100000) (h3 : a ≤ 100000) (h4 : b ≤ 100000) :
    IsR n (1 :: L) (some ⟨1, i, o, a, b, 0, zA, zO⟩) := by
  obtain ⟨_, h, f1⟩ := nx_some e1
  cases h
  obtain ⟨_, h, f2⟩ := nx_some e2
  cases h
  obtain ⟨_, h, f3⟩ := nx_some e3
  cases h
  obtain ⟨_, h, f4⟩ := nx_some e4
  cases h
  have g1 := (pN_some f1).1
  have g2 := (pN_some f2).1
  have g3 := (pN_some f3).1
  have g4 := (pN_some f4).1
  refine ⟨.inl ⟨rfl, ⟨⟨by simp, by simp; omega⟩, ⟨by simp, by simp; omega⟩, ⟨by simp, by simp; omega⟩, ⟨by simp, by simp; omega⟩⟩, rfl, rfl, rfl⟩, ?_⟩
  unfold rText
  rw [if_pos rfl]
  rw [List.append_nil] at g4
  simp only [Int.toNat_natCast]
  rw [← g4, ← g3, ← g2, ← g1]
theorem yes2 {n : Int} {L L2 T : List UInt8} {k : Nat} {a : AnsV} (e1 : nx pN (some L) = (k, some L2)) (e2 : nx pN (some L2) = (T.length, some T)) (h1 : k ≤ 100000) (hA : IsA n T (some a)) : IsR n (2 :: L) (some ⟨2, 0, 0, 0, 0, k, a, zO⟩) := by
  obtain ⟨_, h, f1⟩ := nx_some e1
  cases h
  obtain ⟨_, h, f2⟩ := nx_some e2
  cases h
  have g1 := (pN_some f1).1
  have g2 := (pN_some f2).1
  refine ⟨.inr (.inl ⟨rfl, ⟨rfl, rfl, rfl, rfl⟩, ⟨by simp, by simp; omega⟩, hA.1, rfl⟩), ?_⟩
  unfold rText
  rw [if_neg (by simp), if_pos rfl]
  simp only [Int.toNat_natCast]
  unfold sht
  rw [hA.2, ← g2, ← g1]
theorem yes3 {n : Int} {L T : List UInt8} {o : OrdV} (e2 : nx pN (some L) = (T.length, some T)) (hO : IsO n T (some o)) : IsR n (3 :: L) (some ⟨3, 0, 0, 0, 0, 0, zA, o⟩) := by
  obtain ⟨_, h, f2⟩ := nx_some e2
  cases h
  have g2 := (pN_some f2).1
  refine ⟨.inr (.inr ⟨rfl, ⟨rfl, rfl, rfl, rfl⟩, rfl, rfl, hO.1⟩), ?_⟩
  unfold rText
  rw [if_neg (by simp), if_neg (by simp)]
  unfold sht
  rw [hO.2, ← g2]
end Go.Proofs.YthnibebljbljdaaGreatDoor
namespace Go.Proofs.YthnibebljbljdaaGreatDoor
open Go.RowKit

def azB (num : Int) (ok : Bool) (ne nl : Nat) : Bool := decide (num = 0 ∧ ok = false ∧ ne = 0 ∧ nl = 0)
def ozB (num op : Int) (ne : Nat) (v : Int) : Bool := decide (num = 0 ∧ op = 0 ∧ v = 0 ∧ ne = 0)
set_option maxRecDepth 100000 in
theorem SameE_nil (n1 : Nat) (a1 : Option Addr) (c1 : Nat) (w : World) : Calls Tryz.prog 121 #[.slice a1 n1 c1, .slice none 0 0] w fun e w' => e = .returned (.bool (decide (n1 = 0))) ∧ w' = w := by
  by_cases h : n1 = 0
  · subst h
    go_enter Tryz.func121, Tryz.ntmps121
    go_wp2
    go_loopw [5] (fun q wr => q = .int .i64 0 ∧ wr = w) (fun _ _ => 0)
    case atStart => exact ⟨rfl, rfl⟩
    case round =>
      obtain ⟨rfl, rfl⟩ := hrel
      go_wp2
      go_ret
      exact ⟨rfl, rfl⟩
  · have d : ((n1 : Int) != 0) = true := by simpa using h
    have e : decide (n1 = 0) = false := decide_eq_false h
    rw [e]
    go_enter Tryz.func121, Tryz.ntmps121
    go_wp2
    go_ret
    exact ⟨rfl, rfl⟩
set_option maxRecDepth 100000 in
theorem SameI_nil (n1 : Nat) (a1 : Option Addr) (c1 : Nat) (w : World) : Calls Tryz.prog 122 #[.slice a1 n1 c1, .slice none 0 0] w fun e w' => e = .returned (.bool (decide (n1 = 0))) ∧ w' = w := by
  by_cases h : n1 = 0
  · subst h
    go_enter Tryz.func122, Tryz.ntmps122
    go_wp2
    go_loopw [5] (fun q wr => q = .int .i64 0 ∧ wr = w) (fun _ _ => 0)
    case atStart => exact ⟨rfl, rfl⟩
    case round =>
      obtain ⟨rfl, rfl⟩ := hrel
      go_wp2
      go_ret
      exact ⟨rfl, rfl⟩
  · have d : ((n1 : Int) != 0) = true := by simpa using h
    have e : decide (n1 = 0) = false := decide_eq_false h
    rw [e]
    go_enter Tryz.func122, Tryz.ntmps122
    go_wp2
    go_ret
    exact ⟨rfl, rfl⟩
set_option maxRecDepth 100000 in
theorem sameAns0 (num : Int) (ok : Bool) (a1 a2 : Option Addr) (n1 c1 n2 c2 : Nat) (w : World) :
    Calls Tryz.prog 94 #[.agg #[.int .i64 num, .bool ok, .slice a1 n1 c1, .slice a2 n2 c2], .agg #[.int .i64 0, .bool false, .slice none 0 0, .slice none 0 0]] w fun e w' => e = .returned (.bool (azB num ok n1 n2)) ∧ Below w.heap.size w w' := by
  obtain ⟨W2, hW2⟩ : ∃ W2, W2 = (w.alloc (.cells #[.int .i64 num, .bool ok, .slice a1 n1 c1, .slice a2 n2 c2] 53)).alloc (.cells #[.int .i64 0, .bool false, .slice none 0 0, .slice none 0 0] 53) := ⟨_, rfl⟩
  have G2 : Good w W2 := by rw [hW2]; exact ((Good.refl w).alloc _).alloc _
  have HG := hideIt G2
  have HE := hideIt (SameE_nil n1 a1 c1 W2)
  have HI := hideIt (SameI_nil n2 a2 c2 W2)
  have y0 : W2.cell? ⟨w.heap.size, 0, none⟩ = some (.int .i64 num) := by rw [hW2]; simp [go_sem]
  have y1 : W2.cell? ⟨w.heap.size, 1, none⟩ = some (.bool ok) := by rw [hW2]; simp [go_sem]
  have y2 : W2.cell? ⟨w.heap.size, 2, none⟩ = some (.slice a1 n1 c1) := by rw [hW2]; simp [go_sem]
  have y3 : W2.cell? ⟨w.heap.size, 3, none⟩ = some (.slice a2 n2 c2) := by rw [hW2]; simp [go_sem]
  have z0 : W2.cell? ⟨w.heap.size + 1, 0, none⟩ = some (.int .i64 0) := by rw [hW2]; simp [go_sem]
  have z1 : W2.cell? ⟨w.heap.size + 1, 1, none⟩ = some (.bool false) := by rw [hW2]; simp [go_sem]
  have z2 : W2.cell? ⟨w.heap.size + 1, 2, none⟩ = some (.slice none 0 0) := by rw [hW2]; simp [go_sem]
  have z3 : W2.cell? ⟨w.heap.size + 1, 3, none⟩ = some (.slice none 0 0) := by rw [hW2]; simp [go_sem]
  clear G2
  have HV : Hid (azB num ok n1 n2 = (decide (num = 0) && (decide (ok = false) && (decide (n1 = 0) && decide (n2 = 0))))) := by
    show _ = _
    unfold azB
    by_cases e1 : num = 0 <;> by_cases e2 : ok = false <;> by_cases e3 : n1 = 0 <;> by_cases e4 : n2 = 0 <;> simp [e1, e2, e3, e4]
  by_cases q1 : num = 0
  · have d1 : (num == 0) = true := by simpa using q1
    have v1 : decide (num = 0) = true := decide_eq_true q1
    rw [v1] at HV
    cases ok with
    | true =>
      clear q1 v1
      go_enter Tryz.func94, Tryz.ntmps94
      go_upto_region 1 with fail
      rw [← hW2]
      clear hW2
      go_wp2
      go_ret
      exact ⟨by rw [HV.out]; rfl, HG.out⟩
    | false =>
      clear q1 v1
      generalize decide (n1 = 0) = v3 at *
      generalize decide (n2 = 0) = v4 at *
      cases v3 with
      | false =>
        go_enter Tryz.func94, Tryz.ntmps94
        go_upto_region 1 with fail
        rw [← hW2]
        clear hW2
        go_wp2_with (go_at_call 121; refine HE.out.mono ?_; rintro e w3 ⟨rfl, hw3⟩; have hw3' := hw3.symm; subst hw3')
        go_ret
        exact ⟨by rw [HV.out]; rfl, HG.out⟩
      | true =>
        go_enter Tryz.func94, Tryz.ntmps94
        go_upto_region 1 with fail
        rw [← hW2]
        clear hW2
        go_wp2_with (first | (go_at_call 121; refine HE.out.mono ?_; rintro e w3 ⟨rfl, hw3⟩; have hw3' := hw3.symm; subst hw3') | (go_at_call 122; refine HI.out.mono ?_; rintro e w4 ⟨rfl, hw4⟩; have hw4' := hw4.symm; subst hw4'))
        go_ret
        exact ⟨by rw [HV.out]; cases v4 <;> rfl, HG.out⟩
  · have d1 : (num == 0) = false := by simpa using q1
    have v1 : decide (num = 0) = false := decide_eq_false q1
    rw [v1] at HV
    clear q1 v1
    go_enter Tryz.func94, Tryz.ntmps94
    go_upto_region 1 with fail
    rw [← hW2]
    clear hW2
    go_wp2
    go_ret
    exact ⟨by rw [HV.out]; rfl, HG.out⟩
set_option maxRecDepth 100000 in
theorem blankA (num : Int) (ok : Bool) (a1 a2 : Option Addr) (n1 c1 n2 c2 : Nat) (w : World) :
    Calls Tryz.prog 67 #[.agg #[.int .i64 num, .bool ok, .slice a1 n1 c1, .slice a2 n2 c2]] w fun e w' => e = .returned (.bool (azB num ok n1 n2)) ∧ Below w.heap.size w w' := by
  have G1 : Good w (w.alloc (.cells #[.int .i64 num, .bool ok, .slice a1 n1 c1, .slice a2 n2 c2] 53)) := (Good.refl w).alloc _
  have HS := hideIt (sameAns0 num ok a1 a2 n1 c1 n2 c2 (w.alloc (.cells #[.int .i64 num, .bool ok, .slice a1 n1 c1, .slice a2 n2 c2] 53)))
  have HG := hideIt G1
  clear G1
  go_enter Tryz.func67, Tryz.ntmps67
  go_wp2_with (go_at_call 94; refine HS.out.mono ?_; rintro e w3 ⟨rfl, hb3⟩)
  go_ret
  exact ⟨rfl, HG.out.up hb3⟩
set_option maxRecDepth 100000 in
theorem sameOrd0 (num op v : Int) (a1 : Option Addr) (n1 c1 : Nat) (w : World) :
    Calls Tryz.prog 95 #[.agg #[.int .i64 num, .int .i64 op, .slice a1 n1 c1, .int .i64 v], .agg #[.int .i64 0, .int .i64 0, .slice none 0 0, .int .i64 0]] w fun e w' => e = .returned (.bool (ozB num op n1 v)) ∧ Below w.heap.size w w' := by
  obtain ⟨W2, hW2⟩ : ∃ W2, W2 = (w.alloc (.cells #[.int .i64 num, .int .i64 op, .slice a1 n1 c1, .int .i64 v] 55)).alloc (.cells #[.int .i64 0, .int .i64 0, .slice none 0 0, .int .i64 0] 55) := ⟨_, rfl⟩
  have G2 : Good w W2 := by rw [hW2]; exact ((Good.refl w).alloc _).alloc _
  have HG := hideIt G2
  have HE := hideIt (SameE_nil n1 a1 c1 W2)
  have y0 : W2.cell? ⟨w.heap.size, 0, none⟩ = some (.int .i64 num) := by rw [hW2]; simp [go_sem]
  have y1 : W2.cell? ⟨w.heap.size, 1, none⟩ = some (.int .i64 op) := by rw [hW2]; simp [go_sem]
  have y2 : W2.cell? ⟨w.heap.size, 2, none⟩ = some (.slice a1 n1 c1) := by rw [hW2]; simp [go_sem]
  have y3 : W2.cell? ⟨w.heap.size, 3, none⟩ = some (.int .i64 v) := by rw [hW2]; simp [go_sem]
  have z0 : W2.cell? ⟨w.heap.size + 1, 0, none⟩ = some (.int .i64 0) := by rw [hW2]; simp [go_sem]
  have z1 : W2.cell? ⟨w.heap.size + 1, 1, none⟩ = some (.int .i64 0) := by rw [hW2]; simp [go_sem]
  have z2 : W2.cell? ⟨w.heap.size + 1, 2, none⟩ = some (.slice none 0 0) := by rw [hW2]; simp [go_sem]
  have z3 : W2.cell? ⟨w.heap.size + 1, 3, none⟩ = some (.int .i64 0) := by rw [hW2]; simp [go_sem]
  clear G2
  have HV : Hid (ozB num op n1 v = (decide (num = 0) && (decide (op = 0) && (decide (v = 0) && decide (n1 = 0))))) := by
    show _ = _
    unfold ozB
    by_cases e1 : num = 0 <;> by_cases e2 : op = 0 <;> by_cases e3 : v = 0 <;> by_cases e4 : n1 = 0 <;> simp [e1, e2, e3, e4]
  have d1 : (num == 0) = decide (num = 0) := rfl
  have d2 : (op == 0) = decide (op = 0) := rfl
  have d3 : (v == 0) = decide (v = 0) := rfl
  generalize decide (num = 0) = v1 at *
  generalize decide (op = 0) = v2 at *
  generalize decide (v = 0) = v3 at *
  generalize decide (n1 = 0) = v4 at *
  cases v1 with
  | false =>
    go_enter Tryz.func95, Tryz.ntmps95
    go_upto_region 1 with fail
    rw [← hW2]
    clear hW2
    go_wp2
    go_ret
    exact ⟨by rw [HV.out]; rfl, HG.out⟩
  | true =>
    cases v2 with
    | false =>
      go_enter Tryz.func95, Tryz.ntmps95
      go_upto_region 1 with fail
      rw [← hW2]
      clear hW2
      go_wp2
      go_ret
      exact ⟨by rw [HV.out]; rfl, HG.out⟩
    | true =>
      cases v3 with
      | false =>
        go_enter Tryz.func95, Tryz.ntmps95
        go_upto_region 1 with fail
        rw [← hW2]
        clear hW2
        go_wp2
        go_ret
        exact ⟨by rw [HV.out]; rfl, HG.out⟩
      | true =>
        go_enter Tryz.func95, Tryz.ntmps95
        go_upto_region 1 with fail
        rw [← hW2]
        clear hW2
        go_wp2_with (go_at_call 121; refine HE.out.mono ?_; rintro e w3 ⟨rfl, hw3⟩; have hw3' := hw3.symm; subst hw3')
        go_ret
        exact ⟨by rw [HV.out]; cases v4 <;> rfl, HG.out⟩
set_option maxRecDepth 100000 in
theorem blankO (num op v : Int) (a1 : Option Addr) (n1 c1 : Nat) (w : World) :
    Calls Tryz.prog 68 #[.agg #[.int .i64 num, .int .i64 op, .slice a1 n1 c1, .int .i64 v]] w fun e w' => e = .returned (.bool (ozB num op n1 v)) ∧ Below w.heap.size w w' := by
  have G1 : Good w (w.alloc (.cells #[.int .i64 num, .int .i64 op, .slice a1 n1 c1, .int .i64 v] 55)) := (Good.refl w).alloc _
  have HS := hideIt (sameOrd0 num op v a1 n1 c1 (w.alloc (.cells #[.int .i64 num, .int .i64 op, .slice a1 n1 c1, .int .i64 v] 55)))
  have HG := hideIt G1
  clear G1
  go_enter Tryz.func68, Tryz.ntmps68
  go_wp2_with (go_at_call 95; refine HS.out.mono ?_; rintro e w3 ⟨rfl, hb3⟩)
  go_ret
  exact ⟨rfl, HG.out.up hb3⟩
def kzB (i o a b : Int) : Bool := decide (i = 0 ∧ o = 0 ∧ a = 0 ∧ b = 0)
set_option maxRecDepth 100000 in
theorem blankK (i o a b : Int) (w : World) :
    Calls Tryz.prog 70 #[.agg #[.int .i64 i, .int .i64 o, .int .i64 a, .int .i64 b]] w fun e w' => e = .returned (.bool (kzB i o a b)) ∧ Below w.heap.size w w' := by
  have HV : Hid (kzB i o a b = (decide (i = 0) && (decide (o = 0) && (decide (a = 0) && decide (b = 0))))) := by
    show _ = _
    unfold kzB
    by_cases e1 : i = 0 <;> by_cases e2 : o = 0 <;> by_cases e3 : a = 0 <;> by_cases e4 : b = 0 <;> simp [e1, e2, e3, e4]
  go_enter Tryz.func70, Tryz.ntmps70
  go_wp2
  all_goals
    go_ret
    refine ⟨?_, (Below.refl _ _).alloc (Nat.le_refl _) _⟩
    rw [HV.out]
    simp_all
end Go.Proofs.YthnibebljbljdaaGreatDoor
namespace Go.Proofs.YthnibebljbljdaaGreatDoor
open Go.RowKit Vt

set_option maxRecDepth 100000 in
set_option maxHeartbeats 1000000 in
theorem l01Var_any (N : Nat) (hN : N ≤ 1000000000) (w : World) :
    Calls Tryz.prog 58 #[.int .i64 (N : Int)] w fun e w' => e = .returned (.string ⟨(vt N).toArray⟩) ∧ Below w.heap.size w w' := by
  obtain ⟨i0, hi, hz0, hz1, hz2⟩ := info_parts info5
  have hlen := vt_length N N (Nat.le_refl _)
  go_enter Tryz.func58, Tryz.ntmps58
  go_wp2
  go_loopw [0, 3] (fun n out wr => ∃ (m : Nat) (pre : List UInt8), m ≤ N ∧ n = .int .i64 m ∧ Hid (pre ++ vt m = vt N) ∧ wr.ownsRow w.heap.size 5 1 out pre.length (bv pre) ∧ Below w.heap.size w wr)
    (fun n _ _ => (intOf n).toNat)
  case atStart => exact ⟨N, [], Nat.le_refl _, rfl, rfl, World.ownsRow_made _ _ _ (Nat.le_refl _) (by unfold maxLen; omega) rfl, (Below.refl _ _).alloc (Nat.le_refl _) _⟩
  case round =>
    obtain ⟨m, pre, hm, rfl, hv, hown, hb⟩ := hrel
    have hl : pre.length + (vt m).length = (vt N).length := by rw [← hv.out]; simp
    have hp := vt_pos m
    have hsz := hb.size
    by_cases hlt : m < 128
    · go_wp2_with (at_builtin; refine wpList_append_own _ rfl _ _ 136 rfl w.heap.size 5 i0 (.int .u8 0) 1 1 Tryz.underlying136 hi hz0 hz1 hz2 rfl (by decide) _ _ _ rfl (hown.alloc _) ⟨wr.heap.size, 0, none⟩ 1 1 [Value.int .u8 (m : Int)] rfl rfl (one_new _ _ _) (by intro u hu; simp at hu; subst hu; rfl) (by unfold maxLen; omega) (by omega) (by simp; omega) ?_)
      intro v1 w1 hown1 hg1 hn1
      have hb1 := below_app hb (Nat.le_refl _) hown hg1
      rw [bv_snoc pre (UInt8.ofNat m) m (by simp; omega)] at hown1
      have HV : pre ++ [UInt8.ofNat m] = vt N := by rw [← vt_small m hlt]; exact hv.out
      rw [HV] at hown1
      obtain ⟨g, cap, hv1, hcv⟩ := conv_own hown1 hn1
      clear HV
      rw [hv1]
      clear hown1 hg1 hown hv1 hn1
      go_wp2
      go_ret
      exact ⟨rfl, hb1⟩
    · go_wp2_with (at_builtin; refine wpList_append_own _ rfl _ _ 136 rfl w.heap.size 5 i0 (.int .u8 0) 1 1 Tryz.underlying136 hi hz0 hz1 hz2 rfl (by decide) _ _ _ rfl (hown.alloc _) ⟨wr.heap.size, 0, none⟩ 1 1 [Value.int .u8 ((m : Int) % 128 + 128)] rfl rfl (one_new _ _ _) (by intro u hu; simp at hu; subst hu; rfl) (by unfold maxLen; omega) (by omega) (by simp; omega) ?_)
      intro v1 w1 hown1 hg1 _
      have hb1 := below_app hb (Nat.le_refl _) hown hg1
      rw [bv_snoc pre (UInt8.ofNat (m % 128 + 128)) _ (by simp; omega)] at hown1
      have HV : Hid ((pre ++ [UInt8.ofNat (m % 128 + 128)]) ++ vt (m / 128) = vt N) := by
        show _ = _
        rw [List.append_assoc, List.singleton_append, ← vt_big m hlt]; exact hv.out
      clear hg1 hown hv
      go_wp2
      go_roundw
      case rel => exact ⟨m / 128, pre ++ [UInt8.ofNat (m % 128 + 128)], by omega, by go_num, HV, by simpa using hown1, hb1⟩
      case measure => simp [intOf]; omega

theorem l01In_yes (x a b : Int) (h1 : a ≤ x) (h2 : x ≤ b) (w : World) :
    Calls Tryz.prog 57 #[.int .i64 x, .int .i64 a, .int .i64 b] w fun e w' => e = .returned (.bool true) ∧ w' = w := by
  have d1 : decide (a ≤ x) = true := by simp [h1]
  have d2 : decide (x ≤ b) = true := by simp [h2]
  go_enter Tryz.func57, Tryz.ntmps57
  go_wp2
  go_ret
  exact ⟨by simp, rfl⟩

theorem l01In_no (x a b : Int) (h : x < a ∨ b < x) (w : World) :
    Calls Tryz.prog 57 #[.int .i64 x, .int .i64 a, .int .i64 b] w fun e w' => e = .returned (.bool false) ∧ w' = w := by
  by_cases h1 : a ≤ x
  · have d1 : decide (a ≤ x) = true := by simp [h1]
    have h2 : ¬ x ≤ b := by omega
    have d2 : decide (x ≤ b) = false := by simp [h2]
    go_enter Tryz.func57, Tryz.ntmps57
    go_wp2
    go_ret
    exact ⟨by simp, rfl⟩
  · have d1 : decide (a ≤ x) = false := by simp [h1]
    go_enter Tryz.func57, Tryz.ntmps57
    go_wp2
    go_ret
    exact ⟨by simp, rfl⟩

end Go.Proofs.YthnibebljbljdaaGreatDoor
namespace Go.Proofs.YthnibebljbljdaaGreatDoor
open Go.RowKit Vt

theorem l01Var_at (x : Int) (N : Nat) (hx : (N : Int) = x) (hN : N ≤ 1000000000) (w : World) :
    Calls Tryz.prog 58 #[.int .i64 x] w fun e w' => e = .returned (.string ⟨(vt N).toArray⟩) ∧ Below w.heap.size w w' := by
  subst hx
  exact l01Var_any N hN w

theorem Rd.cut {s : ByteArray} {a k u m : Nat} (h : Rd s a k u m) (hk : a + k < s.size) :
    (s.extract a ((a : Int) + (k : Int) + 1).toNat).toList = (from_ s a).take k ++ [s[a + k]] ∧ val ((from_ s a).take k ++ [s[a + k]]) = m + (s[a + k]).toNat % 128 * u := by
  have hl : ((from_ s a).take k).length = k := by simp [from_length]; omega
  have e : ((a : Int) + (k : Int) + 1).toNat = a + (k + 1) := by omega
  constructor
  · rw [Lib.toList_data, Lib.extract_data, e, Nat.add_sub_cancel_left, ← from_snoc s a k hk]
    rfl
  · rw [val_snoc, hl, ← h.unit, ← h.num]

theorem Rd.last_neq {s : ByteArray} {a k u m : Nat} (h : Rd s a k u m) (hk : a + k < s.size) (h5 : k < 5) (hb : (s[a + k]).toNat < 128)
    (ht : (!vt (m + (s[a + k]).toNat % 128 * u) == (s.extract a ((a : Int) + (k : Int) + 1).toNat).toList) = true) : rv a (from_ s a) = none := by
  have hl : ((from_ s a).take k).length = k := by simp [from_length]; omega
  have hc := h.cut hk
  rw [hc.1, ← hc.2] at ht
  have hv := vt_val _ h.bigs (s[a + k]) (by simp [big]; omega)
  refine h.last_none hk h5 hb (.inl ?_)
  rw [hl] at hv
  have hne : ¬ vt (val ((from_ s a).take k ++ [s[a + k]])) = (from_ s a).take k ++ [s[a + k]] := by simpa using ht
  exact Decidable.of_not_not (fun hx => hne (hv.2 hx))

theorem Rd.last_eq {s : ByteArray} {a k u m : Nat} (h : Rd s a k u m) (hk : a + k < s.size) (h5 : k < 5) (hb : (s[a + k]).toNat < 128) (hn : m + (s[a + k]).toNat % 128 * u ≤ 1000000000)
    (ht : (!vt (m + (s[a + k]).toNat % 128 * u) == (s.extract a ((a : Int) + (k : Int) + 1).toNat).toList) = false) : rv a (from_ s a) = some (m + (s[a + k]).toNat % 128 * u, a + k + 1) := by
  have hl : ((from_ s a).take k).length = k := by simp [from_length]; omega
  have hc := h.cut hk
  rw [hc.1, ← hc.2] at ht
  have hv := vt_val _ h.bigs (s[a + k]) (by simp [big]; omega)
  refine h.last_some hk h5 hb ?_ hn
  rw [hl] at hv
  have heq : vt (val ((from_ s a).take k ++ [s[a + k]])) = (from_ s a).take k ++ [s[a + k]] := by simpa using ht
  exact hv.1 heq

theorem sReadVar_out (s : ByteArray) (_hs : s.size ≤ 1048576) (a : Int) (h : a < 0 ∨ s.size < a) (w : World) :
    Calls Tryz.prog 51 #[.string s, .int .i64 a] w fun e w' => e = .returned (rvV none) ∧ w' = w := by
  unfold rvV
  go_enter Tryz.func51, Tryz.ntmps51
  go_wp2_with (go_at_call 57; refine (l01In_no _ _ _ (by omega) _).mono ?_; rintro e w' ⟨rfl, rfl⟩)
  go_ret3
  exact ⟨rfl, rfl⟩

set_option maxHeartbeats 1000000 in
set_option maxRecDepth 100000 in
theorem sReadVar_in (s : ByteArray) (hs : s.size ≤ 1048576) (a : Nat) (h : a ≤ s.size) (w : World) :
    Calls Tryz.prog 51 #[.string s, .int .i64 (a : Int)] w fun e w' => e = .returned (rvV (rv a (from_ s a))) ∧ Below w.heap.size w w' := by
  go_enter Tryz.func51, Tryz.ntmps51
  go_wp2_with (go_at_call 57; refine (l01In_yes _ _ _ (by omega) (by omega) _).mono ?_; rintro e w' ⟨rfl, rfl⟩)
  go_loop [7, 8, 9] (fun n u i => ∃ k U m : Nat, n = .int .i64 m ∧ i = .int .i64 ((a + k : Nat) : Int) ∧ u = .int .i64 U ∧ Rd s a k U m)
    (fun _ _ i => s.size - (intOf i).toNat)
  case atStart => exact ⟨0, 1, 0, rfl, rfl, rfl, Rd.start s a h⟩
  case round =>
    obtain ⟨k, U, m, rfl, rfl, rfl, hr⟩ := hrel
    have hbd := hr.bounds
    have hk5 := hr.k5
    have hle := hr.le
    have hmU : m < U := hbd.2.2.2.2
    by_cases hlt : a + k < s.size
    · by_cases h5 : k < 5
      · have hU : U ≤ 268435456 := hbd.2.2.1 h5
        have hq := mul_bounds (s[a + k]).toNat U hU
        have hc := UInt8.toNat_lt (s[a + k])
        clear hbd
        by_cases hb : (s[a + k]).toNat < 128
        · by_cases hn : (m : Int) + ((s[a + k]).toNat : Int) % 128 * (U : Int) ≤ 1000000000
          · have d3 : decide ((1000000000 : Int) < (m : Int) + ((s[a + k]).toNat : Int) % 128 * (U : Int)) = false := by simp; omega
            have i1 : (0 : Int) ≤ (a : Int) := by omega
            have i2 : (a : Int) ≤ (a : Int) + (k : Int) + 1 := by omega
            have i3 : (a : Int) + (k : Int) + 1 ≤ (s.size : Int) := by omega
            have i4 : IntKind.i64.wrap ((a : Int) + (k : Int) + 1) = (a : Int) + (k : Int) + 1 := by rw [IntKind.wrap_i64]; omega
            have hN : m + (s[a + k]).toNat % 128 * U ≤ 1000000000 := by rw [← int_num] at hn; omega
            go_wp2
            go_region_held3 (fun _ => True) (trivial) ((go_at_call 58; refine (l01Var_at _ (m + (s[a + k]).toNat % 128 * U) (int_num _ _ _) hN _).mono ?_; rintro e w1 ⟨rfl, hb1⟩))
            go_wp2
            · have HO := hr.last_neq hlt h5 hb ‹_›
              go_ret3
              exact ⟨by rw [HO]; rfl, (Below.refl _ _).drew.trans hb1⟩
            · have HO := hr.last_eq hlt h5 hb hN ‹_›
              go_ret3
              exact ⟨by rw [HO]; simp [rvV], (Below.refl _ _).drew.trans hb1⟩
          · have d3 : decide ((1000000000 : Int) < (m : Int) + ((s[a + k]).toNat : Int) % 128 * (U : Int)) = true := by simp; omega
            have HO : Hid _ := hr.last_none hlt h5 hb (.inr (by rw [← int_num] at hn; omega))
            go_wp2
            go_quiet (fail)
            go_wp2
            go_ret3
            exact ⟨by rw [HO.out]; rfl, below_drewN (Below.refl _ _) _⟩
        · have HR := hr.step hlt h5 (by omega)
          go_wp2
          go_round
          case rel => exact ⟨k + 1, U * 128, m + (s[a + k]).toNat % 128 * U, by simp, by go_num, by simp, HR⟩
          case measure => simp [intOf]; omega
      · have HO : Hid _ := hr.out (by omega)
        clear hbd
        go_wp2
        go_ret3
        exact ⟨by rw [HO.out]; rfl, Below.refl _ _⟩
    · have HO : Hid _ := hr.out (by omega)
      clear hbd
      go_wp2
      go_ret3
      exact ⟨by rw [HO.out]; rfl, Below.refl _ _⟩
end Go.Proofs.YthnibebljbljdaaGreatDoor
namespace Go.Proofs.YthnibebljbljdaaGreatDoor
open Go.RowKit Vt

theorem RdAt.below {e : Prop} {t : TypeId} {w w' : World} {G : Nat} {s : ByteArray} {st : Option (List UInt8)} (h : RdAt e t w G s st) (hb : Below w.heap.size w w') : RdAt e t w' G s st := by
  have hl := h.lt
  obtain ⟨p, f, hG, rest⟩ := h
  exact ⟨p, f, by rw [hb.block G hl]; exact hG, rest⟩

set_option maxRecDepth 100000 in
set_option maxHeartbeats 4000000 in
theorem l09Var_any (s : ByteArray) (hs : s.size ≤ 1048576) (w : World) (G : Nat) (st : Option (List UInt8)) (h : RdAt False 101 w G s st) :
    Calls Tryz.prog 53 #[.pointer (some ⟨G, 0, none⟩)] w fun e w' => e = .returned (.int .i64 (((nx pN st).1 : Nat) : Int)) ∧ RdAt False 101 w' G s (nx pN st).2 ∧ w.grownBy w' (some G) := by
  have hGl := h.lt
  obtain ⟨p, f, hG, hp, hf⟩ := h
  have c0 : w.cell? ⟨G, 0, none⟩ = some (.string s) := by rw [cell_of_row w G 0 _ _ _ hG]; rfl
  have c1 : w.cell? ⟨G, 1, none⟩ = some (.int .i64 (p : Int)) := by rw [cell_of_row w G 1 _ _ _ hG]; rfl
  have HV : Hid (Calls Tryz.prog 51 #[.string s, .int .i64 (p : Int)] w.drew fun e w' => e = .returned (rvV (rv p (from_ s p))) ∧ w'.heap[G]? = some (.cells #[.string s, .int .i64 (p : Int), .bool f] 101 (0, 0)) ∧ w.grownBy w' (some G) ∧
      w'.cell? ⟨G, 0, none⟩ = some (.string s) ∧ w'.cell? ⟨G, 1, none⟩ = some (.int .i64 (p : Int)) ∧ w'.cell? ⟨G, 2, none⟩ = some (.bool f) ∧ w'.frozen? ⟨G, 1, none⟩ = false ∧ w'.frozen? ⟨G, 2, none⟩ = false) :=
    (sReadVar_in s hs p hp w.drew).mono fun _ w' ⟨he, hb⟩ => by
      have hG' : w'.heap[G]? = some (.cells #[.string s, .int .i64 (p : Int), .bool f] 101 (0, 0)) := by rw [hb.block G hGl]; exact hG
      exact ⟨he, hG', gr_trans (gr_drew w _) (gr_below hb _), by rw [cell_of_row w' G 0 _ _ _ hG']; rfl, by rw [cell_of_row w' G 1 _ _ _ hG']; rfl, by rw [cell_of_row w' G 2 _ _ _ hG']; rfl, frozen_of_row w' G 1 _ _ hG', frozen_of_row w' G 2 _ _ hG'⟩
  clear hG
  cases hff : f with
  | true =>
    rw [hff] at HV
    have HS : Hid (nx pN st = (0, none)) := by
      show _ = _
      rcases hf with ⟨h1, _⟩ | ⟨_, h2, _⟩
      · rw [hff] at h1; cases h1
      · rw [h2]; rfl
    have HP := hideIt hp
    generalize hrv : rvV (rv p (from_ s p)) = RV at HV
    have HT : Hid (∃ x y b, RV = .tuple #[.int .i64 x, .int .i64 y, .bool b]) := by
      rw [← hrv]
      cases rv p (from_ s p) with
      | none => exact ⟨_, _, _, rfl⟩
      | some q => exact ⟨_, _, _, rfl⟩
    obtain ⟨x, y, b, rfl⟩ := HT.out
    clear hf hrv HT
    go_enter Tryz.func53, Tryz.ntmps53
    go_wp2
    go_region_held3 (fun u => u.cell? ⟨G, 0, none⟩ = some (.string s) ∧ u.cell? ⟨G, 1, none⟩ = some (.int .i64 (p : Int))) (first | exact ⟨d0, d1⟩ | exact ⟨c0, c1⟩)
      ((go_at_call 51; refine HV.out.mono ?_; rintro e w1 ⟨rfl, hg1, hr1, d0, d1, d2, f1, f2⟩))
    go_wp2
    go_ret
    rw [HS.out]
    exact ⟨rfl, ⟨p, true, st2 hg1, HP.out, .inr ⟨rfl, rfl, fun h => h.elim⟩⟩, gr_trans hr1 (gr_set _ _ _ _)⟩
  | false =>
    rw [hff] at HV
    have hst : st = some (from_ s p) := by
      rcases hf with ⟨_, h2⟩ | ⟨h1, _, _⟩
      · exact h2
      · rw [hff] at h1; cases h1
    subst hst
    have HP := hideIt hp
    clear hf
    cases hr : rv p (from_ s p) with
    | none =>
      rw [hr] at HV
      have HS := hideIt (nx_rv_none hr)
      unfold rvV at HV
      clear hr
      go_enter Tryz.func53, Tryz.ntmps53
      go_wp2
      go_region_held3 (fun u => u.cell? ⟨G, 0, none⟩ = some (.string s) ∧ u.cell? ⟨G, 1, none⟩ = some (.int .i64 (p : Int))) (first | exact ⟨d0, d1⟩ | exact ⟨c0, c1⟩)
        ((go_at_call 51; refine HV.out.mono ?_; rintro e w1 ⟨rfl, hg1, hr1, d0, d1, d2, f1, f2⟩))
      go_wp2
      go_ret
      rw [HS.out]
      exact ⟨rfl, ⟨p, true, st2 hg1, HP.out, .inr ⟨rfl, rfl, fun h => h.elim⟩⟩, gr_trans hr1 (gr_set _ _ _ _)⟩
    | some q =>
      obtain ⟨m, j⟩ := q
      rw [hr] at HV
      have HS := hideIt (nx_rv_some hp hr)
      unfold rvV at HV
      clear hr
      go_enter Tryz.func53, Tryz.ntmps53
      go_wp2
      go_region_held3 (fun u => u.cell? ⟨G, 0, none⟩ = some (.string s) ∧ u.cell? ⟨G, 1, none⟩ = some (.int .i64 (p : Int))) (first | exact ⟨d0, d1⟩ | exact ⟨c0, c1⟩)
        ((go_at_call 51; refine HV.out.mono ?_; rintro e w1 ⟨rfl, hg1, hr1, d0, d1, d2, f1, f2⟩))
      go_wp2
      go_ret
      rw [HS.out.1]
      exact ⟨rfl, ⟨j, false, st1 hg1, HS.out.2.1, .inl ⟨rfl, rfl⟩⟩, gr_trans hr1 (gr_set _ _ _ _)⟩

/-- the text of one byte -/
def oneAt (s : ByteArray) (p : Nat) : ByteArray := s.extract p (p + 1)
theorem oneAt_size (s : ByteArray) (p : Nat) (h : p < s.size) : (oneAt s p).size = 1 := by unfold oneAt; rw [ByteArray.size_extract]; omega
theorem oneAt_is (s : ByteArray) (p : Nat) (h : p < s.size) (h1 : 0 < (oneAt s p).size) : (oneAt s p)[0] = s[p] := by
  have h2 : 0 < (s.extract p (p + 1)).size := h1
  have h3 : (s.extract p (p + 1))[0] = s[p] := by rw [ByteArray.getElem_extract]; simp
  exact h3

set_option maxRecDepth 100000 in
set_option maxHeartbeats 4000000 in
theorem l09Take_any (s : ByteArray) (hs : s.size ≤ 1048576) (w : World) (G : Nat) (st : Option (List UInt8)) (h : RdAt False 101 w G s st) :
    Calls Tryz.prog 55 #[.pointer (some ⟨G, 0, none⟩), .int .i64 1] w fun e w' => ∃ S : ByteArray, e = .returned (.string S) ∧ ((nx pO st).2 ≠ none → S.size = 1 ∧ ∀ h : 0 < S.size, (S[0]).toNat = (nx pO st).1) ∧ RdAt False 101 w' G s (nx pO st).2 ∧ w.grownBy w' (some G) := by
  obtain ⟨p, f, hG, hp, hf⟩ := h
  have c0 : w.cell? ⟨G, 0, none⟩ = some (.string s) := by rw [cell_of_row w G 0 _ _ _ hG]; rfl
  have c1 : w.cell? ⟨G, 1, none⟩ = some (.int .i64 (p : Int)) := by rw [cell_of_row w G 1 _ _ _ hG]; rfl
  have c2 : w.cell? ⟨G, 2, none⟩ = some (.bool f) := by rw [cell_of_row w G 2 _ _ _ hG]; rfl
  have f1 : w.frozen? ⟨G, 1, none⟩ = false := frozen_of_row w G 1 _ _ hG
  have f2 : w.frozen? ⟨G, 2, none⟩ = false := frozen_of_row w G 2 _ _ hG
  have HG := hideIt hG
  have HP := hideIt hp
  clear hG
  cases hff : f with
  | true =>
    rw [hff] at c2 HG
    have HS : Hid (nx pO st = (0, none)) := by
      show _ = _
      rcases hf with ⟨h1, _⟩ | ⟨_, h2, _⟩
      · rw [hff] at h1; cases h1
      · rw [h2]; rfl
    clear hf
    go_enter Tryz.func55, Tryz.ntmps55
    go_wp2
    go_quiet (fail)
    go_wp2
    go_ret
    rw [HS.out]
    exact ⟨_, rfl, fun h => absurd rfl h, ⟨p, true, st2 HG.out, HP.out, .inr ⟨rfl, rfl, fun h => h.elim⟩⟩, gr_trans (gr_drews _ _ _) (gr_set _ _ _ _)⟩
  | false =>
    rw [hff] at c2 HG
    have hst : st = some (from_ s p) := by
      rcases hf with ⟨_, h2⟩ | ⟨h1, _, _⟩
      · exact h2
      · rw [hff] at h1; cases h1
    subst hst
    clear hf
    by_cases hlt : p < s.size
    · have HS := hideIt (nx_oct hlt)
      have d1 : decide ((s.size : Int) - (p : Int) < 1) = false := by simp; omega
      have w1 : IntKind.i64.wrap ((s.size : Int) - (p : Int)) = (s.size : Int) - (p : Int) := by rw [IntKind.wrap_i64]; omega
      have w2 : IntKind.i64.wrap ((p : Int) + 1) = (p : Int) + 1 := by rw [IntKind.wrap_i64]; omega
      have w3 : IntKind.i64.wrap ((p : Int) + 1 - 1) = (p : Int) := by rw [IntKind.wrap_i64]; omega
      have i1 : (0 : Int) ≤ (p : Int) := by omega
      have i2 : (p : Int) ≤ (p : Int) + 1 := by omega
      have i3 : (p : Int) + 1 ≤ (s.size : Int) := by omega
      have HX : Hid (s.extract p ((p : Int) + 1).toNat = oneAt s p) := by show _ = _; unfold oneAt; congr 1
      have HZ := hideIt (oneAt_size s p hlt)
      have HY := hideIt (oneAt_is s p hlt)
      go_enter Tryz.func55, Tryz.ntmps55
      go_wp2
      go_quiet (fail)
      go_wp2
      go_quiet (fail)
      go_wp2
      go_ret
      rw [HS.out]
      refine ⟨oneAt s p, ?_, fun _ => ⟨HZ.out, fun h => by rw [HY.out h]⟩, ⟨p + 1, false, ?_, by omega, .inl ⟨rfl, rfl⟩⟩, ?_⟩
      · rw [← HX.out]; rfl
      · exact st1 HG.out
      · exact gr_trans (gr_trans (gr_drews _ _ _) (gr_set _ _ _ _)) (gr_drews _ _ _)
    · obtain rfl : p = s.size := by omega
      have HS := hideIt (nx_oct_end s)
      have d1 : decide ((s.size : Int) - (s.size : Int) < 1) = true := by simp
      have w1 : IntKind.i64.wrap ((s.size : Int) - (s.size : Int)) = (s.size : Int) - (s.size : Int) := by rw [IntKind.wrap_i64]; omega
      go_enter Tryz.func55, Tryz.ntmps55
      go_wp2
      go_quiet (fail)
      go_wp2
      go_ret
      rw [HS.out]
      exact ⟨_, rfl, fun h => absurd rfl h, ⟨s.size, true, st2 HG.out, HP.out, .inr ⟨rfl, rfl, fun h => h.elim⟩⟩, gr_trans (gr_drews _ _ _) (gr_set _ _ _ _)⟩

set_option maxRecDepth 100000 in
set_option maxHeartbeats 4000000 in
theorem l09One_any (s : ByteArray) (hs : s.size ≤ 1048576) (w : World) (G : Nat) (st : Option (List UInt8)) (h : RdAt False 101 w G s st) :
    Calls Tryz.prog 52 #[.pointer (some ⟨G, 0, none⟩)] w fun e w' => e = .returned (.int .i64 (((nx pO st).1 : Nat) : Int)) ∧ RdAt False 101 w' G s (nx pO st).2 ∧ w.grownBy w' (some G) := by
  have HT := hideIt (l09Take_any s hs w G st h)
  clear h
  cases hn : (nx pO st).2 with
  | none =>
    have h0 : Hid ((((nx pO st).1 : Nat) : Int) = 0) := by
      show _ = _
      unfold nx at hn ⊢
      split at hn
      · rfl
      · split at hn
        · rfl
        · cases hn
    rw [hn] at HT
    clear hn
    go_enter Tryz.func52, Tryz.ntmps52
    go_wp2_with (go_at_call 55; refine HT.out.mono ?_; rintro e w1 ⟨S, rfl, _, ⟨p, f, hG, hp, hf⟩, hg⟩; refine Hid.out ?_)
    refine (show ∀ {p : Prop}, p → Hid p from fun h => h) ?_
    obtain rfl : f = true := by
      rcases hf with ⟨_, h2⟩ | ⟨h1, _, _⟩
      · cases h2
      · exact h1
    have c2 : w1.cell? ⟨G, 2, none⟩ = some (.bool true) := by rw [cell_of_row w1 G 2 _ _ _ hG]; rfl
    have HR : Hid (RdAt False 101 w1 G s none) := ⟨p, true, hG, hp, .inr ⟨rfl, rfl, fun h => h.elim⟩⟩
    clear hG hp hf
    go_wp2
    go_ret
    exact ⟨by rw [h0.out]; rfl, HR.out, hg⟩
  | some L =>
    rw [hn] at HT
    have h8 := nx_pO_le st
    clear hn
    go_enter Tryz.func52, Tryz.ntmps52
    go_wp2_with (go_at_call 55; refine HT.out.mono ?_; rintro e w1 ⟨S, rfl, hS, ⟨p, f, hG, hp, hf⟩, hg⟩; refine Hid.out ?_)
    refine (show ∀ {p : Prop}, p → Hid p from fun h => h) ?_
    obtain ⟨hS1, hS2⟩ := hS (by simp)
    obtain rfl : f = false := by
      rcases hf with ⟨h1, _⟩ | ⟨_, h2, _⟩
      · exact h1
      · cases h2
    have hst : some L = some (from_ s p) := by
      rcases hf with ⟨_, h2⟩ | ⟨_, h2, _⟩
      · exact h2
      · cases h2
    have c2 : w1.cell? ⟨G, 2, none⟩ = some (.bool false) := by rw [cell_of_row w1 G 2 _ _ _ hG]; rfl
    have HR : Hid (RdAt False 101 w1 G s (some L)) := ⟨p, false, hG, hp, .inl ⟨rfl, hst⟩⟩
    have hS0 : 0 < S.size := by omega
    have i1 : (0 : Int) < (S.size : Int) := by omega
    have HV := hideIt (hS2 hS0)
    clear hG hp hf hS hS2 hS1 hst
    go_wp2
    go_ret
    refine ⟨?_, HR.out, hg⟩
    have h9 := UInt8.toNat_lt S[0]
    have hw : wrap64 ((S[0]).toNat : Int) = (((nx pO st).1 : Nat) : Int) := by rw [← HV.out]; unfold wrap64; omega
    exact congrArg (fun z => Ending.returned (.int .i64 z)) hw
end Go.Proofs.YthnibebljbljdaaGreatDoor
